package tests

import (
	"bytes"
	"encoding/hex"
	"math"
	"strings"
	"testing"

	"loop.example/g00518/impl"
)

// A guarded slice lies in the middle of a larger array, so that writes in front of it and into its spare capacity are seen.
type guarded struct {
	array  []byte
	before []byte
	slice  []byte
}

func guard(content []byte) *guarded {
	array := append([]byte("front"), content...)
	array = append(array, strings.Repeat("spare", 20)...)
	slice := array[5 : 5+len(content)]
	if content == nil {
		slice = nil
	}
	return &guarded{array, bytes.Clone(array), slice}
}

func (g *guarded) check(t *testing.T, name string) {
	t.Helper()
	if !bytes.Equal(g.array, g.before) {
		t.Errorf("%s changed an argument: %q, was %q", name, g.array, g.before)
	}
}

// checkFresh overwrites all memory that the result reaches, and then all memory of the argument.
func (g *guarded) checkFresh(t *testing.T, name string, result []byte) {
	t.Helper()
	whole := result[:cap(result)]
	for i := range whole {
		whole[i] ^= 0xff
	}
	g.check(t, name+" returned memory of an argument, so writing to the result")
	written := bytes.Clone(whole)
	for i := range g.array {
		g.array[i] ^= 0xff
	}
	if !bytes.Equal(whole, written) {
		t.Errorf("%s: the result changes with an argument", name)
	}
	for i := range g.array {
		g.array[i] ^= 0xff
	}
	for i := range whole {
		whole[i] ^= 0xff
	}
}

func everyByte() []byte {
	list := make([]byte, 256)
	for i := range list {
		list[i] = byte(i)
	}
	return list
}

// contents holds byte strings of many lengths, among them none, MaxInput and beyond it: chapter 2 has no limit on lengths.
func contents() [][]byte {
	list := [][]byte{nil, {}, {0}, {255}, {0, 0}, {1, 2}, {2, 1}, {1, 2, 3}, {7, 7, 7, 7}, []byte("splice"), everyByte()}
	for _, length := range []int{impl.MaxInput - 1, impl.MaxInput, impl.MaxInput + 1, 1000} {
		list = append(list, bytes.Repeat([]byte{0x5a, 3, 0xff}, length)[:length])
	}
	return list
}

func TestMaxInput(t *testing.T) {
	if impl.MaxInput != 400 {
		t.Error(impl.MaxInput)
	}
}

func TestEqualBytes(t *testing.T) {
	cases := []struct {
		a, b []byte
		want bool
	}{
		{nil, nil, true}, {nil, []byte{}, true}, {[]byte{}, nil, true}, {[]byte{}, []byte{}, true},
		{nil, []byte{0}, false}, {[]byte{0}, nil, false}, {[]byte{}, []byte{0}, false},
		{[]byte{0}, []byte{0}, true}, {[]byte{0}, []byte{1}, false}, {[]byte{0}, []byte{0, 0}, false},
		{[]byte{1, 2, 3}, []byte{1, 2, 3}, true},
		{[]byte{1, 2, 3}, []byte{1, 2}, false}, {[]byte{1, 2}, []byte{1, 2, 3}, false}, {[]byte{2, 3}, []byte{1, 2, 3}, false},
		{[]byte{9, 2, 3}, []byte{1, 2, 3}, false}, {[]byte{1, 9, 3}, []byte{1, 2, 3}, false}, {[]byte{1, 2, 9}, []byte{1, 2, 3}, false},
		{[]byte{3, 2, 1}, []byte{1, 2, 3}, false},
		{[]byte{'a'}, []byte{'A'}, false}, {[]byte{0x80}, []byte{0}, false},
	}
	for _, c := range cases {
		if got := impl.EqualBytes(c.a, c.b); got != c.want {
			t.Errorf("EqualBytes(%v, %v) = %v", c.a, c.b, got)
		}
	}
	for i, a := range contents() {
		for k, b := range contents() {
			// The first two of the list are nil and the empty slice, which are equivalent.
			want := i == k || i < 2 && k < 2
			x, y := guard(a), guard(b)
			if got := impl.EqualBytes(x.slice, y.slice); got != want {
				t.Errorf("EqualBytes of the contents %d and %d = %v", i, k, got)
			}
			x.check(t, "EqualBytes")
			y.check(t, "EqualBytes")
		}
	}
}

func TestEqualBytesOfEveryPairOfBytes(t *testing.T) {
	for _, a := range everyByte() {
		for _, b := range everyByte() {
			if got := impl.EqualBytes([]byte{a}, []byte{b}); got != (a == b) {
				t.Errorf("EqualBytes of %d and %d = %v", a, b, got)
			}
		}
	}
}

func TestFormatHex(t *testing.T) {
	cases := []struct {
		b    []byte
		want string
	}{
		{nil, ""}, {[]byte{}, ""}, {[]byte{0}, "00"}, {[]byte{9}, "09"}, {[]byte{10}, "0a"}, {[]byte{15}, "0f"},
		{[]byte{16}, "10"}, {[]byte{0xab}, "ab"}, {[]byte{255}, "ff"}, {[]byte{0, 255, 26}, "00ff1a"},
		{[]byte{0xde, 0xad, 0xbe, 0xef}, "deadbeef"}, {[]byte{1, 0x23, 0x45, 0x67, 0x89}, "0123456789"},
	}
	for _, c := range cases {
		if got := impl.FormatHex(c.b); got != c.want {
			t.Errorf("FormatHex(%v) = %q, want %q", c.b, got, c.want)
		}
	}
	for _, b := range contents() {
		g := guard(b)
		if got, want := impl.FormatHex(g.slice), hex.EncodeToString(b); got != want {
			t.Errorf("FormatHex(%v) = %q, want %q", b, got, want)
		}
		g.check(t, "FormatHex")
	}
}

func TestFormatHexOfEveryByte(t *testing.T) {
	digits := "0123456789abcdef"
	for _, c := range everyByte() {
		want := string(digits[c/16]) + string(digits[c%16])
		if got := impl.FormatHex([]byte{c}); got != want {
			t.Errorf("FormatHex of the byte %d = %q, want %q", c, got, want)
		}
		b, ok := impl.ParseHex(want)
		if !ok || len(b) != 1 || b[0] != c {
			t.Errorf("ParseHex(%q) = %v, %v", want, b, ok)
		}
	}
}

func TestParseHexAccepts(t *testing.T) {
	cases := []struct {
		s    string
		want []byte
	}{
		{"", nil}, {"00", []byte{0}}, {"0a", []byte{10}}, {"a0", []byte{160}}, {"ff", []byte{255}},
		{"00ff1a", []byte{0, 255, 26}}, {"0000", []byte{0, 0}}, {"deadbeef", []byte{0xde, 0xad, 0xbe, 0xef}},
	}
	for _, c := range cases {
		if b, ok := impl.ParseHex(c.s); !ok || !bytes.Equal(b, c.want) {
			t.Errorf("ParseHex(%q) = %v, %v, want %v, true", c.s, b, ok, c.want)
		}
	}
	for _, b := range contents() {
		if got, ok := impl.ParseHex(impl.FormatHex(b)); !ok || !bytes.Equal(got, b) {
			t.Errorf("ParseHex(FormatHex(%v)) = %v, %v", b, got, ok)
		}
	}
}

func TestParseHexRejects(t *testing.T) {
	cases := []string{
		"0", "f", "000", "00f", "0ff", "00ff1", strings.Repeat("0", 401),
		"FF", "A0", "0A", "aB", "Ab", "DEADBEEF", "00FF", "ffFF", "0F00",
		"0g", "g0", "zz", " 0", "0 ", "  ", "00 ", " 00", "00 00", "0 0", "00\n", "\n0", "0\n", "\t0",
		"0x", "x0", "0x00", "x00", "-1", "+1", "1_", "_1", "1.", "\x00\x00", "0\x00", "\xff\xff", "0\xff",
		"/0", "0/", ":0", "0:", "`0", "0`", "@0", "0@", "G0", "0G",
		"\u00e9", "\uff11", "0\uff11", "\u06630", "\uff41\uff41",
		"0000000000zz", "zz0000000000", "00000z000000", "0000000000000z",
	}
	for _, s := range cases {
		if b, ok := impl.ParseHex(s); ok || len(b) != 0 {
			t.Errorf("ParseHex(%.40q) = %v, %v, want no bytes, false", s, b, ok)
		}
	}
}

func isDigitOfFormatHex(c byte) bool {
	return '0' <= c && c <= '9' || 'a' <= c && c <= 'f'
}

func TestParseHexOfEveryPairOfCharacters(t *testing.T) {
	for _, high := range everyByte() {
		for _, low := range everyByte() {
			pair := string([]byte{high, low})
			want := isDigitOfFormatHex(high) && isDigitOfFormatHex(low)
			for _, s := range []string{pair, "7f" + pair, pair + "7f"} {
				b, ok := impl.ParseHex(s)
				if ok != want || !ok && len(b) != 0 || ok && impl.FormatHex(b) != s {
					t.Errorf("ParseHex(%q) = %v, %v", s, b, ok)
				}
			}
		}
	}
}

func TestParseHexReturnsItsOwnMemory(t *testing.T) {
	s := "0102030405"
	first, _ := impl.ParseHex(s)
	whole := first[:cap(first)]
	for i := range whole {
		whole[i] = 99
	}
	if second, ok := impl.ParseHex(s); !ok || !bytes.Equal(second, []byte{1, 2, 3, 4, 5}) {
		t.Errorf("after writing to a result, ParseHex(%q) = %v, %v", s, second, ok)
	}
}

func reversed(b []byte) []byte {
	list := []byte{}
	for i := len(b) - 1; i >= 0; i-- {
		list = append(list, b[i])
	}
	return list
}

// checkEncodings compares both byte orders with the bytes that are wanted with the most significant one first, and reads them back.
func checkEncodings(t *testing.T, n int, size int, want []byte) {
	t.Helper()
	big, little := impl.BigEndian(n, size), impl.LittleEndian(n, size)
	if !bytes.Equal(big, want) {
		t.Errorf("BigEndian(%d, %d) = %v, want %v", n, size, big, want)
	}
	if !bytes.Equal(little, reversed(want)) {
		t.Errorf("LittleEndian(%d, %d) = %v, want %v", n, size, little, reversed(want))
	}
	if len(want) == 0 {
		return
	}
	if got := impl.ReadInteger(big, false); got != n {
		t.Errorf("ReadInteger(%v, false) = %d, want %d", big, got, n)
	}
	if got := impl.ReadInteger(little, true); got != n {
		t.Errorf("ReadInteger(%v, true) = %d, want %d", little, got, n)
	}
}

func TestIntegersAsBytes(t *testing.T) {
	cases := []struct {
		n, size int
		want    []byte
	}{
		{0, 1, []byte{0}}, {7, 1, []byte{7}}, {128, 1, []byte{128}}, {255, 1, []byte{255}}, {256, 1, nil}, {257, 1, nil},
		{0, 2, []byte{0, 0}}, {1, 2, []byte{0, 1}}, {258, 2, []byte{1, 2}}, {65535, 2, []byte{255, 255}}, {65536, 2, nil},
		{0, 3, []byte{0, 0, 0}}, {0x010203, 3, []byte{1, 2, 3}}, {1<<24 - 1, 3, []byte{255, 255, 255}}, {1 << 24, 3, nil},
		{0, 4, []byte{0, 0, 0, 0}}, {0x01020304, 4, []byte{1, 2, 3, 4}}, {1<<32 - 1, 4, []byte{255, 255, 255, 255}}, {1 << 32, 4, nil},
		{1 << 31, 4, []byte{128, 0, 0, 0}}, {1<<31 - 1, 4, []byte{127, 255, 255, 255}}, {256, 4, []byte{0, 0, 1, 0}},
		{0, 0, nil}, {1, 0, nil}, {0, 5, nil}, {1, 5, nil}, {1 << 32, 5, nil}, {0, -1, nil}, {0, 8, nil}, {1, 64, nil},
		{0, math.MinInt, nil}, {0, math.MaxInt, nil}, {math.MaxInt, math.MaxInt, nil}, {math.MinInt, math.MinInt, nil},
		// A shift by 8 times these sizes wraps around to 0, 8 and 32.
		{0, 1 << 61, nil}, {0, 1<<61 + 1, nil}, {5, 1<<61 + 4, nil}, {5, -1<<61 + 1, nil},
	}
	for _, c := range cases {
		checkEncodings(t, c.n, c.size, c.want)
	}
	for size := 1; size <= 4; size++ {
		for _, n := range []int{-1, -2, -256, math.MinInt, math.MinInt + 1, math.MaxInt, impl.MaxValue, 1 << 32, 1<<32 + 1, 1 << 40} {
			checkEncodings(t, n, size, nil)
		}
	}
}

func TestIntegersAsBytesOfEverySize(t *testing.T) {
	limit := 1
	for size := 1; size <= 4; size++ {
		limit *= 256
		for _, n := range []int{0, 1, 2, 127, 128, 254, 255, limit / 2, limit/2 - 1, limit / 3, limit - 2, limit - 1} {
			want := make([]byte, size)
			rest := n
			for i := size - 1; i >= 0; i-- {
				want[i] = byte(rest % 256)
				rest /= 256
			}
			checkEncodings(t, n, size, want)
		}
		for _, n := range []int{-1, limit, limit + 1, limit * 256, -limit} {
			checkEncodings(t, n, size, nil)
		}
	}
}

func TestIntegersAsBytesAreNewMemory(t *testing.T) {
	for size := 1; size <= 4; size++ {
		for _, encode := range []func(int, int) []byte{impl.BigEndian, impl.LittleEndian} {
			first, second := encode(77, size), encode(77, size)
			kept := bytes.Clone(second)
			whole := first[:cap(first)]
			for i := range whole {
				whole[i] = 99
			}
			if !bytes.Equal(second, kept) || !bytes.Equal(encode(77, size), kept) {
				t.Errorf("the results for the size %d share memory", size)
			}
		}
	}
}

func TestReadInteger(t *testing.T) {
	cases := []struct {
		b           []byte
		big, little int
	}{
		{nil, 0, 0}, {[]byte{}, 0, 0}, {[]byte{0}, 0, 0}, {[]byte{255}, 255, 255}, {[]byte{128}, 128, 128},
		{[]byte{1, 2}, 258, 513}, {[]byte{0, 1}, 1, 256}, {[]byte{1, 0}, 256, 1}, {[]byte{255, 255}, 65535, 65535},
		{[]byte{1, 2, 3}, 0x010203, 0x030201}, {[]byte{255, 0, 0}, 0xff0000, 255},
		{[]byte{1, 2, 3, 4}, 0x01020304, 0x04030201}, {[]byte{0, 0, 0, 0}, 0, 0},
		{[]byte{255, 255, 255, 255}, 1<<32 - 1, 1<<32 - 1}, {[]byte{128, 0, 0, 0}, 1 << 31, 128}, {[]byte{0, 0, 0, 128}, 128, 1 << 31},
		{[]byte{1, 2, 3, 4, 5}, 0, 0}, {[]byte{0, 0, 0, 0, 1}, 0, 0}, {[]byte{1, 0, 0, 0, 0}, 0, 0},
		{[]byte{255, 255, 255, 255, 255}, 0, 0}, {bytes.Repeat([]byte{1}, 8), 0, 0}, {bytes.Repeat([]byte{1}, 400), 0, 0},
	}
	for _, c := range cases {
		g := guard(c.b)
		if got := impl.ReadInteger(g.slice, false); got != c.big {
			t.Errorf("ReadInteger(%v, false) = %d, want %d", c.b, got, c.big)
		}
		g.check(t, "ReadInteger")
		if got := impl.ReadInteger(g.slice, true); got != c.little {
			t.Errorf("ReadInteger(%v, true) = %d, want %d", c.b, got, c.little)
		}
		g.check(t, "ReadInteger")
	}
}

func TestSumOfBytes(t *testing.T) {
	cases := []struct {
		b    []byte
		want int
	}{
		{nil, 0}, {[]byte{}, 0}, {[]byte{0}, 0}, {[]byte{0, 0, 0}, 0}, {[]byte{1, 2, 3}, 6}, {[]byte{255}, 255},
		{[]byte{255, 1}, 0}, {[]byte{254, 1}, 255}, {[]byte{200, 100}, 44}, {[]byte{255, 255}, 254}, {[]byte{128, 128}, 0},
		{[]byte{128, 128, 1}, 1}, {bytes.Repeat([]byte{255}, 256), 0}, {bytes.Repeat([]byte{255}, 257), 255},
		{bytes.Repeat([]byte{1}, 400), 144}, {bytes.Repeat([]byte{3}, 1000), 184}, {everyByte(), 128},
	}
	for _, c := range cases {
		g := guard(c.b)
		if got := impl.SumOfBytes(g.slice); got != c.want {
			t.Errorf("SumOfBytes(%v) = %d, want %d", c.b, got, c.want)
		}
		g.check(t, "SumOfBytes")
	}
	for _, b := range contents() {
		want := 0
		for _, c := range b {
			want += int(c)
		}
		if got := impl.SumOfBytes(b); got != want%256 {
			t.Errorf("SumOfBytes(%v) = %d, want %d", b, got, want%256)
		}
	}
}

func TestSpliceBytesCases(t *testing.T) {
	cases := []struct {
		b          string
		at, remove int
		insert     string
		want       string
	}{
		{"abc", 1, 1, "xy", "axyc"},
		{"abc", 0, 1, "xy", "xybc"}, {"abc", 0, 0, "xy", "xyabc"}, {"abc", 0, 2, "", "c"},
		{"abc", 1, 0, "xy", "axybc"}, {"abc", 1, 1, "", "ac"}, {"abc", 2, 0, "x", "abxc"}, {"abc", 1, 0, "", "abc"},
		{"abc", 2, 1, "xy", "abxy"}, {"abc", 2, 1, "", "ab"}, {"abc", 1, 2, "x", "ax"}, {"abc", 1, 2, "", "a"},
		{"abc", 3, 0, "xy", "abcxy"}, {"abc", 3, 0, "", "abc"}, {"abc", 0, 0, "", "abc"},
		{"abc", 0, 3, "", ""}, {"abc", 0, 3, "xyz", "xyz"}, {"abc", 0, 3, "x", "x"}, {"abc", 0, 3, "vwxyz", "vwxyz"},
		{"", 0, 0, "", ""}, {"", 0, 0, "xy", "xy"}, {"a", 0, 1, "", ""}, {"a", 1, 0, "b", "ab"},
	}
	for _, c := range cases {
		got, ok := impl.SpliceBytes([]byte(c.b), c.at, c.remove, []byte(c.insert))
		if !ok || string(got) != c.want {
			t.Errorf("SpliceBytes(%q, %d, %d, %q) = %q, %v, want %q, true", c.b, c.at, c.remove, c.insert, got, ok, c.want)
		}
	}
}

// checkSplice holds a splice, whether it is possible or not, against the document, the conventions and the promise.
func checkSplice(t *testing.T, b []byte, at int, remove int, insert []byte) {
	t.Helper()
	want, wantOK := string(b), false
	for end := max(at, 0); at >= 0 && end <= len(b); end++ {
		if end-at == remove {
			want, wantOK = string(b[:at])+string(insert)+string(b[end:]), true
		}
	}
	x, y := guard(b), guard(insert)
	got, ok := impl.SpliceBytes(x.slice, at, remove, y.slice)
	if string(got) != want || ok != wantOK {
		t.Errorf("SpliceBytes(%q, %d, %d, %q) = %q, %v, want %q, %v", b, at, remove, insert, got, ok, want, wantOK)
	}
	x.check(t, "SpliceBytes")
	y.check(t, "SpliceBytes")
	x.checkFresh(t, "SpliceBytes", got)
	y.checkFresh(t, "SpliceBytes", got)
	if !ok || !wantOK {
		return
	}
	undone, ok := impl.SpliceBytes(got, at, len(insert), b[at:at+remove])
	if !ok || string(undone) != string(b) {
		t.Errorf("SpliceBytes(%q, %d, %d, %q) is not undone: %q, %v", b, at, remove, insert, undone, ok)
	}
}

func TestSpliceBytesAtEveryPlace(t *testing.T) {
	inserts := [][]byte{nil, {}, {0}, {255}, []byte("x"), []byte("pl"), []byte("longer than the bytes"), everyByte()[:40]}
	for _, b := range [][]byte{nil, {}, {0}, {255}, []byte("a"), []byte("ab"), []byte("aaa"), []byte("splice"), everyByte()[:20]} {
		for at := -2; at <= len(b)+2; at++ {
			for remove := -2; remove <= len(b)+2; remove++ {
				for _, insert := range inserts {
					checkSplice(t, b, at, remove, insert)
				}
			}
		}
	}
}

func TestSpliceBytesOfLongBytes(t *testing.T) {
	for _, b := range contents() {
		for _, insert := range contents() {
			for _, at := range []int{0, 1, len(b) / 2, len(b) - 1, len(b)} {
				for _, remove := range []int{0, 1, len(b) / 2, len(b) - at, len(b) - at + 1, len(b)} {
					checkSplice(t, b, at, remove, insert)
				}
			}
		}
	}
}

func TestSpliceBytesFarOutside(t *testing.T) {
	far := []int{
		math.MinInt, math.MinInt + 1, math.MinInt + 3, math.MinInt / 2, -impl.MaxValue, -400, -4, -3, -1,
		0, 1, 2, 3, 4, 400, 1 << 31, 1 << 32, impl.MaxValue,
		math.MaxInt/2 - 1, math.MaxInt / 2, math.MaxInt/2 + 1, math.MaxInt - 4, math.MaxInt - 3, math.MaxInt - 2, math.MaxInt - 1, math.MaxInt,
	}
	for _, b := range [][]byte{nil, {1}, {1, 2, 3}, []byte("abcd")} {
		for _, at := range far {
			for _, remove := range far {
				checkSplice(t, b, at, remove, []byte("in"))
				checkSplice(t, b, at, remove, nil)
			}
		}
	}
}

func TestSpliceBytesIgnoresSpareCapacity(t *testing.T) {
	b := guard([]byte("abc"))
	for _, c := range []struct{ at, remove int }{{0, 4}, {1, 3}, {2, 2}, {3, 1}, {4, 0}, {5, 0}} {
		got, ok := impl.SpliceBytes(b.slice, c.at, c.remove, []byte("xy"))
		if ok || string(got) != "abc" {
			t.Errorf("SpliceBytes at %d of %d bytes, beyond the length but within the capacity = %q, %v", c.at, c.remove, got, ok)
		}
	}
	b.check(t, "SpliceBytes")
}

func TestSpliceBytesIntoItself(t *testing.T) {
	g := guard([]byte("abcdef"))
	got, ok := impl.SpliceBytes(g.slice, 2, 3, g.slice[1:4])
	if !ok || string(got) != "abbcdf" {
		t.Errorf("a part spliced into its own bytes: %q, %v", got, ok)
	}
	g.check(t, "SpliceBytes")
	g.checkFresh(t, "SpliceBytes", got)
	whole, ok := impl.SpliceBytes(g.slice, 6, 0, g.slice)
	if !ok || string(whole) != "abcdefabcdef" {
		t.Errorf("bytes appended to themselves: %q, %v", whole, ok)
	}
	g.checkFresh(t, "SpliceBytes", whole)
}
