package tests

import (
	"math"
	"math/rand"
	"regexp"
	"slices"
	"strconv"
	"strings"
	"testing"

	"loop.example/g00518/impl"
)

// checkReading tests ReadValue, and ReadFile where it does the same: for the last rule, from index 0.
func checkReading(t *testing.T, d impl.Description, rule int, b string, at int, want impl.Value, next int, code int) {
	t.Helper()
	v, gotNext, gotCode := impl.ReadValue(d, rule, []byte(b), at)
	if plainText(v) != plainText(want) || gotNext != next || gotCode != code {
		t.Fatalf("ReadValue of %q with %q at %d = %+v, %d, %d, want %+v, %d, %d", impl.FormatRule(d, rule), b, at, v, gotNext, gotCode, want, next, code)
	}
	if at != 0 || rule != len(d.Rules)-1 {
		return
	}
	if code == impl.ReadOK && next < len(b) {
		want, code = impl.Value{}, impl.ErrTrailing
	}
	checkFile(t, d, b, want, next, code)
}

func checkFile(t *testing.T, d impl.Description, b string, want impl.Value, next int, code int) {
	t.Helper()
	v, gotNext, gotCode := impl.ReadFile(d, []byte(b))
	if plainText(v) != plainText(want) || gotNext != next || gotCode != code {
		t.Fatalf("ReadFile of\n%s\nwith %q = %+v, %d, %d, want %+v, %d, %d", impl.FormatDescription(d), b, v, gotNext, gotCode, want, next, code)
	}
	if got := impl.IsFileOf(d, []byte(b)); got != (code == impl.ReadOK) {
		t.Fatalf("IsFileOf of\n%s\nwith %q = %v", impl.FormatDescription(d), b, got)
	}
}

// Bytes that stand before what is read, and behind it.
func bytesBefore() []string { return []string{"", "\x00", "\\", "other \xff\x01"} }

func bytesBehind() []string { return []string{"", "\x00", "\xff", "\\\n other"} }

// checkRead tests that the value is read from the pieces. Each of them is a part within which the bytes may end: then they are too short, and its beginning is the index.
func checkRead(t *testing.T, d impl.Description, rule int, want impl.Value, pieces ...string) {
	t.Helper()
	b := strings.Join(pieces, "")
	for _, before := range bytesBefore() {
		for _, behind := range bytesBehind() {
			if len(before)+len(b)+len(behind) <= 400 {
				checkReading(t, d, rule, before+b+behind, len(before), want, len(before)+len(b), impl.ReadOK)
			}
		}
		start := 0
		for _, piece := range pieces {
			for count := range len(piece) {
				if len(before)+start+count <= 400 {
					checkReading(t, d, rule, before+b[:start+count], len(before), impl.Value{}, len(before)+start, impl.ErrShort)
				}
			}
			start += len(piece)
		}
	}
}

// checkFailed tests that reading fails at this index, whatever stands before it or, but for bytes that are too short, behind it.
func checkFailed(t *testing.T, d impl.Description, rule int, b string, index int, code int) {
	t.Helper()
	for _, before := range bytesBefore() {
		for _, behind := range bytesBehind() {
			if code != impl.ErrShort || behind == "" {
				checkReading(t, d, rule, before+b+behind, len(before), impl.Value{}, len(before)+index, code)
			}
		}
	}
}

func TestReadIntegers(t *testing.T) {
	for _, c := range []struct {
		fields, encoding string
		n                int
	}{
		{"1", "\x00", 0}, {"1", "\x01", 1}, {"1", "\x5c", 92}, {"1", "\x7f", 127}, {"1", "\x80", 128}, {"1", "\xff", 255},
		{"2", "\x00\x00", 0}, {"2", "\x01\x02", 258}, {"2", "\x00\xff", 255}, {"2", "\xff\x00", 65280}, {"2", "\xff\xff", 65535},
		{"3", "\x00\x00\x00", 0}, {"3", "\x01\x02\x03", 66051}, {"3", "\x80\x00\x00", 8388608}, {"3", "\xff\xff\xff", 16777215},
		{"4", "\x00\x00\x00\x00", 0}, {"4", "\x01\x02\x03\x04", 16909060}, {"4", "\x7f\xff\xff\xff", 2147483647}, {"4", "\x80\x00\x00\x00", 2147483648}, {"4", "\x00\x00\x00\xff", 255}, {"4", "\xff\xff\xff\xff", 4294967295},
		{"2 little", "\x00\x00", 0}, {"2 little", "\x01\x02", 513}, {"2 little", "\xff\x00", 255}, {"2 little", "\x00\xff", 65280}, {"2 little", "\xff\xff", 65535},
		{"3 little", "\x00\x00\x00", 0}, {"3 little", "\x01\x02\x03", 197121}, {"3 little", "\x00\x00\x80", 8388608}, {"3 little", "\xff\xff\xff", 16777215},
		{"4 little", "\x00\x00\x00\x00", 0}, {"4 little", "\x01\x02\x03\x04", 67305985}, {"4 little", "\x00\x00\x00\x80", 2147483648}, {"4 little", "\xff\x00\x00\x00", 255}, {"4 little", "\xff\xff\xff\xff", 4294967295},
	} {
		checkRead(t, described(t, "i integer "+c.fields), 0, num(c.n), c.encoding)
		checkRead(t, described(t, "other integer 1", "i integer "+c.fields, "next integer 4"), 1, num(c.n), c.encoding)
	}
}

func TestReadConsts(t *testing.T) {
	for _, content := range []string{"\x00", "P", "\\", "\xff", "PK", "\x00\x00", "abcabd", "0123456789abcdef", strings.Repeat("\x00", 16), strings.Repeat("a", 15) + "b"} {
		d := described(t, "other const 07", "c const "+impl.FormatHex([]byte(content)), "next fixed 1")
		checkRead(t, d, 1, impl.Value{}, content)
		// The first byte that differs decides, also where the bytes end behind it or others differ as well.
		for at := range len(content) {
			for _, c := range []byte{0, 1, 'a', 'P', 0xff, content[at] + 1, content[at] ^ 0x80} {
				if c != content[at] {
					checkFailed(t, d, 1, content[:at]+string([]byte{c}), at, impl.ErrConst)
					checkFailed(t, d, 1, content[:at]+string([]byte{c})+content[at+1:], at, impl.ErrConst)
					checkFailed(t, d, 1, content[:at]+strings.Repeat(string([]byte{c}), 20), at, impl.ErrConst)
				}
			}
		}
	}
}

func TestReadFixed(t *testing.T) {
	for _, content := range []string{"\x00", "a", "\\", "\xff\xfe", "abc", "\\\\\n\x00", strings.Repeat("0123456789abcdef", 4)} {
		checkRead(t, described(t, "f fixed "+strconv.Itoa(len(content))), 0, raw(content), content)
		checkRead(t, described(t, "g fixed 1", "f fixed "+strconv.Itoa(len(content)), "h fixed 64"), 1, raw(content), content)
	}
}

func TestReadSized(t *testing.T) {
	for _, c := range []struct{ fields, length, content string }{
		{"1", "\x00", ""}, {"1", "\x01", "\x00"}, {"1", "\x03", "a\\\xff"}, {"1", "\xff", strings.Repeat("abcde", 51)},
		{"2", "\x00\x00", ""}, {"2", "\x00\x05", "\\\\\n\x00a"}, {"2", "\x01\x02", strings.Repeat("ab", 129)}, {"2", "\x01\x8e", strings.Repeat("a", 398)},
		{"2 little", "\x00\x00", ""}, {"2 little", "\x05\x00", "\\\\\n\x00a"}, {"2 little", "\x02\x01", strings.Repeat("ab", 129)}, {"2 little", "\x8e\x01", strings.Repeat("a", 398)},
		{"3", "\x00\x00\x00", ""}, {"3", "\x00\x00\x02", "bc"}, {"3", "\x00\x01\x00", strings.Repeat("bc", 128)},
		{"3 little", "\x00\x00\x00", ""}, {"3 little", "\x02\x00\x00", "bc"}, {"3 little", "\x00\x01\x00", strings.Repeat("bc", 128)},
		{"4", "\x00\x00\x00\x00", ""}, {"4", "\x00\x00\x00\x02", "bc"}, {"4", "\x00\x00\x01\x8c", strings.Repeat("bcde", 99)},
		{"4 little", "\x00\x00\x00\x00", ""}, {"4 little", "\x02\x00\x00\x00", "bc"}, {"4 little", "\x8c\x01\x00\x00", strings.Repeat("bcde", 99)},
	} {
		checkRead(t, described(t, "n integer "+c.fields, "s sized n"), 1, raw(c.content), c.length, c.content)
	}
	// The bytes begin behind the integer. There are never as many as the greatest integers say.
	for _, c := range []struct {
		fields, b string
		index     int
	}{
		{"1", "\xff", 1}, {"1", "\x02a", 1}, {"1", "\xff" + strings.Repeat("a", 254), 1}, {"2", "\x01\x00" + strings.Repeat("a", 255), 2}, {"2", "\xff\xff", 2}, {"2", "\x01\x00a", 2}, {"2 little", "\x00\x01a", 2}, {"2 little", "\xff\xffab", 2},
		{"3", "\x01\x00\x00a", 3}, {"3", "\xff\xff\xffa", 3}, {"3 little", "\x00\x00\x01a", 3}, {"4", "\x80\x00\x00\x00a", 4}, {"4", "\xff\xff\xff\xff", 4}, {"4", "\xff\xff\xff\xffabc", 4}, {"4", "\x7f\xff\xff\xfcabc", 4},
		{"4 little", "\x00\x00\x00\x80a", 4}, {"4 little", "\x00\x00\x00\x01a", 4}, {"4 little", "\xff\xff\xff\xffabc", 4},
	} {
		checkFailed(t, described(t, "n integer "+c.fields, "s sized n"), 1, c.b, c.index, impl.ErrShort)
	}
}

// Contents of terminated bytes with their encodings.
func terminated() []struct{ terminator, content, encoding string } {
	return []struct{ terminator, content, encoding string }{
		{"\n", "", "\n"}, {"\n", "a", "a\n"}, {"\n", "abc", "abc\n"}, {"\n", "\x00\xff", "\x00\xff\n"}, {"\x00", "abc\n", "abc\n\x00"}, {"\xff", "\x00", "\x00\xff"},
		// The escape before the terminator, before itself and before another byte.
		{"\n", "\n", "\\\n\n"}, {"\n", "\\", "\\\\\n"}, {"\n", "a", "\\a\n"}, {"\n", "a\nb", "a\\\nb\n"}, {"\n", "a\\b", "a\\\\b\n"}, {"\n", "abc", "a\\b\\c\n"}, {"\n", "\n\n", "\\\n\\\n\n"}, {"\n", "\\\\", "\\\\\\\\\n"}, {"\n", "\\\n", "\\\\\\\n\n"}, {"\n", "\n\\", "\\\n\\\\\n"}, {"\n", "\x00\xff", "\\\x00\\\xff\n"},
		{"\x00", "\x00", "\\\x00\x00"}, {"\x00", "n", "\\n\x00"}, {"\x00", "\n", "\\\n\x00"}, {"\xff", "\xff\\a", "\\\xff\\\\\\a\xff"}, {"a", "a\\b", "\\a\\\\ba"}, {"[", "[\\]", "\\[\\\\]["}, {"]", "[]", "[\\]]"},
	}
}

func TestReadTerminatedValues(t *testing.T) {
	for _, c := range terminated() {
		d := described(t, "other terminated 07", "s terminated "+impl.FormatHex([]byte(c.terminator)))
		checkRead(t, d, 1, raw(c.content), c.encoding)
	}
	d := described(t, "s terminated 0a")
	checkRead(t, d, 0, raw(strings.Repeat("a", 399)), strings.Repeat("a", 399)+"\n")
	checkRead(t, d, 0, raw(strings.Repeat("\n", 199)), strings.Repeat("\\\n", 199)+"\n")
	// The escape as the last byte, and before the only terminator.
	for _, b := range []string{"\\", "a\\", "\\\\\\", "\\\n", "abc\\\n", "\\\\\\\n", "\\\n\\", "a\\\nb", strings.Repeat("a", 390), strings.Repeat("\\", 390), strings.Repeat("\\", 389)} {
		checkFailed(t, d, 0, b, 0, impl.ErrShort)
	}
	checkReading(t, d, 0, strings.Repeat("a", 400), 0, impl.Value{}, 0, impl.ErrShort)
	checkReading(t, d, 0, strings.Repeat("\n", 400), 399, impl.Value{}, 400, impl.ReadOK)
}

func TestReadArrays(t *testing.T) {
	d := described(t, "n integer 1", "w integer 2 little", "far integer 4", "c const 504b", "s sized n", "an array n n", "aw array w w", "af array far c", "as array n s", "aa array n as")
	checkRead(t, d, 5, impl.Value{}, "\x00")
	checkRead(t, d, 5, parts(num(0)), "\x01", "\x00")
	checkRead(t, d, 5, parts(num(7), num(255), num(0)), "\x03", "\x07", "\xff", "\x00")
	checkRead(t, d, 5, times(40, num(41)), append([]string{"\x28"}, slices.Repeat([]string{"\x29"}, 40)...)...)
	checkRead(t, d, 6, impl.Value{}, "\x00\x00")
	checkRead(t, d, 6, parts(num(256), num(1)), "\x02\x00", "\x00\x01", "\x01\x00")
	checkRead(t, d, 7, impl.Value{}, "\x00\x00\x00\x00")
	checkRead(t, d, 7, parts(impl.Value{}, impl.Value{}), "\x00\x00\x00\x02", "PK", "PK")
	checkRead(t, d, 8, parts(raw("ab"), impl.Value{}, raw("c")), "\x03", "\x02", "ab", "\x00", "\x01", "c")
	checkRead(t, d, 9, parts(impl.Value{}, parts(impl.Value{}, raw("a")), impl.Value{}), "\x03", "\x00", "\x02", "\x00", "\x01", "a", "\x00")
	checkReading(t, d, 7, "\x00\x00\x00\x28"+strings.Repeat("PK", 40), 0, times(40, impl.Value{}), 84, impl.ReadOK)
	// A count that is too great, also one that ends with a small byte; the items do not matter.
	for _, b := range []string{"\x29", "\x2a", "\x5c", "\xff", "\x29" + strings.Repeat("\x00", 41)} {
		checkFailed(t, d, 5, b, 0, impl.ErrCount)
	}
	for _, b := range []string{"\x29\x00", "\x00\x01", "\x01\x01", "\xff\xff", "\x29\x00" + strings.Repeat("\x00", 82)} {
		checkFailed(t, d, 6, b, 0, impl.ErrCount)
	}
	for _, b := range []string{"\x00\x00\x00\x29", "\x00\x00\x01\x00", "\x00\x01\x00\x01", "\x01\x00\x00\x28", "\x80\x00\x00\x00", "\xff\xff\xff\xff", "\x00\x00\x00\x29PX"} {
		checkFailed(t, d, 7, b, 0, impl.ErrCount)
	}
	checkFailed(t, d, 9, "\x02\x01\x01a\x29", 4, impl.ErrCount)
	// A count that is not too great, but has too few bytes behind it.
	checkFailed(t, d, 5, "\x28", 1, impl.ErrShort)
	checkFailed(t, d, 5, "\x28"+strings.Repeat("\x00", 39), 40, impl.ErrShort)
	checkFailed(t, d, 6, "\x28\x00"+strings.Repeat("\x01", 79), 80, impl.ErrShort)
	checkFailed(t, d, 8, "\x02\x00\xffabc", 3, impl.ErrShort)
	checkFailed(t, d, 7, "\x00\x00\x00\x03PKPX", 7, impl.ErrConst)
}

func TestReadSequences(t *testing.T) {
	d := described(t,
		"n integer 1", "w integer 2", "f fixed 3", "s sized n", "c const 504b", "z terminated 00", "one sequence a:n", "two sequence a:w b:n", "again sequence a:f b:f",
		"eight sequence a:c b:n c:s d:z e:w f:n g:two h:c", "deep sequence a:one b:eight",
	)
	checkRead(t, d, 6, parts(num(255)), "\xff")
	checkRead(t, d, 7, parts(num(258), num(3)), "\x01\x02", "\x03")
	checkRead(t, d, 8, parts(raw("abc"), raw("def")), "abc", "def")
	eight := parts(impl.Value{}, num(9), raw("xy"), raw("\x00"), num(65535), num(0), parts(num(1), num(2)), impl.Value{})
	checkRead(t, d, 9, eight, "PK", "\x09", "\x02", "xy", "\\\x00\x00", "\xff\xff", "\x00", "\x00\x01", "\x02", "PK")
	checkRead(t, d, 10, parts(parts(num(4)), eight), "\x04", "PK", "\x09", "\x02", "xy", "\\\x00\x00", "\xff\xff", "\x00", "\x00\x01", "\x02", "PK")
	checkFailed(t, d, 9, "Pk", 1, impl.ErrConst)
	checkFailed(t, d, 9, "PK\x09\x02xy\x00\xff\xff\x00\x00\x01\x02QK", 13, impl.ErrConst)
	checkFailed(t, d, 10, "\x04PK\x09\x02xy\x00\xff\xff\x00\x00\x01\x02PP", 15, impl.ErrConst)
}

func TestReadChoices(t *testing.T) {
	d := described(t,
		"n integer 1", "w integer 2 little", "far integer 4", "f fixed 2", "c const 504b", "a array n n", "s terminated 0a",
		"k choice n 0:n 5:f 92:c 255:a", "kw choice w 1:s 256:n 258:f", "kf choice far 1:n 65536:f 4294967295:c", "kk choice n 1:k 2:kw", "q sequence x:kk y:kf", "many choice n 1:n 2:f 3:c 4:a 5:s 6:f 7:c 8:n",
	)
	checkRead(t, d, 7, tagged(0, num(7)), "\x00", "\x07")
	checkRead(t, d, 7, tagged(5, raw("ab")), "\x05", "ab")
	checkRead(t, d, 7, tagged(92, impl.Value{}), "\x5c", "PK")
	checkRead(t, d, 7, tagged(255, parts(num(1), num(2))), "\xff", "\x02", "\x01", "\x02")
	checkRead(t, d, 8, tagged(1, raw("a")), "\x01\x00", "a\n")
	checkRead(t, d, 8, tagged(256, num(1)), "\x00\x01", "\x01")
	checkRead(t, d, 8, tagged(258, raw("xy")), "\x02\x01", "xy")
	checkRead(t, d, 9, tagged(1, num(0)), "\x00\x00\x00\x01", "\x00")
	checkRead(t, d, 9, tagged(65536, raw("xy")), "\x00\x01\x00\x00", "xy")
	checkRead(t, d, 9, tagged(4294967295, impl.Value{}), "\xff\xff\xff\xff", "PK")
	checkRead(t, d, 10, tagged(1, tagged(5, raw("ab"))), "\x01", "\x05", "ab")
	checkRead(t, d, 10, tagged(2, tagged(258, raw("ab"))), "\x02", "\x02\x01", "ab")
	checkRead(t, d, 11, parts(tagged(1, tagged(0, num(1))), tagged(1, num(2))), "\x01", "\x00", "\x01", "\x00\x00\x00\x01", "\x02")
	two, none, list := raw("ab"), impl.Value{}, parts(num(3))
	for at, v := range []impl.Value{num(9), two, none, list, raw("a"), two, none, num(9)} {
		checkRead(t, d, 12, tagged(at+1, v), string(rune(at+1)), []string{"\x09", "ab", "PK", "\x01", "a\n", "ab", "PK", "\x09"}[at], []string{"", "", "", "\x03", "", "", "", ""}[at])
	}
	// A tag between others, below the least and beyond the greatest, and one of which only some bytes agree.
	for rule, list := range map[int][]string{
		7: {"\x01", "\x04", "\x06", "\x5b", "\xfe", "\x5d"}, 8: {"\x00\x00", "\x01\x01", "\x02\x00", "\x03\x01", "\xff\xff", "\x00\x02"}, 9: {"\x00\x00\x00\x00", "\x01\x00\x00\x00", "\x00\x00\x01\x00", "\xff\xff\xff\xfe", "\x7f\xff\xff\xff", "\x00\x01\x00\x01"},
		10: {"\x00", "\x03", "\xff"}, 12: {"\x00", "\x09", "\x80"},
	} {
		for _, b := range list {
			checkFailed(t, d, rule, b, 0, impl.ErrTag)
			checkFailed(t, d, rule, b+"PK\x01", 0, impl.ErrTag)
		}
	}
	checkFailed(t, d, 10, "\x01\x02", 1, impl.ErrTag)
	checkFailed(t, d, 10, "\x02\x02\x00", 1, impl.ErrTag)
	checkFailed(t, d, 11, "\x01\x00\x01\x00\x00\x00\x02", 3, impl.ErrTag)
}

func TestReadOptions(t *testing.T) {
	d := described(t, "n integer 2", "f fixed 2", "c const 01", "on option n", "of option f", "oc option c", "oo option on", "ooo option oo", "q sequence a:on b:oo c:of")
	for rule := 3; rule <= 7; rule++ {
		checkRead(t, d, rule, impl.Value{}, "\x00")
		for _, b := range []string{"\x02", "\x03", "\x5c", "\x80", "\xff", "\x02\x00\x01"} {
			checkFailed(t, d, rule, b, 0, impl.ErrFlag)
		}
	}
	checkRead(t, d, 3, parts(num(258)), "\x01", "\x01\x02")
	checkRead(t, d, 3, parts(num(0)), "\x01", "\x00\x00")
	checkRead(t, d, 4, parts(raw("ab")), "\x01", "ab")
	checkRead(t, d, 5, parts(impl.Value{}), "\x01", "\x01")
	checkRead(t, d, 6, parts(impl.Value{}), "\x01", "\x00")
	checkRead(t, d, 6, parts(parts(num(3))), "\x01", "\x01", "\x00\x03")
	checkRead(t, d, 7, parts(parts(impl.Value{})), "\x01", "\x01", "\x00")
	checkRead(t, d, 7, parts(parts(parts(num(65535)))), "\x01", "\x01", "\x01", "\xff\xff")
	checkRead(t, d, 8, parts(impl.Value{}, impl.Value{}, impl.Value{}), "\x00", "\x00", "\x00")
	checkRead(t, d, 8, parts(parts(num(1)), parts(parts(num(2))), parts(raw("\x02\x03"))), "\x01", "\x00\x01", "\x01", "\x01", "\x00\x02", "\x01", "\x02\x03")
	checkFailed(t, d, 5, "\x01\x00", 1, impl.ErrConst)
	checkFailed(t, d, 6, "\x01\x02", 1, impl.ErrFlag)
	checkFailed(t, d, 7, "\x01\x01\xff", 2, impl.ErrFlag)
	checkFailed(t, d, 8, "\x00\x01\x01\x00\x02\x02", 5, impl.ErrFlag)
}

func TestReadChecked(t *testing.T) {
	d := described(t, "n integer 2", "f fixed 3", "o option n", "s terminated 00", "c const ffff", "pn checked n", "pf checked f", "po checked o", "ps checked s", "pc checked c", "pp checked pn", "ppp checked pp", "q sequence a:n b:pn c:pp", "pq checked q")
	checkRead(t, d, 5, parts(num(0)), "\x00\x00", "\x00")
	checkRead(t, d, 5, parts(num(258)), "\x01\x02", "\x03")
	checkRead(t, d, 5, parts(num(65535)), "\xff\xff", "\xfe")
	checkRead(t, d, 6, parts(raw("\x80\x80\x01")), "\x80\x80\x01", "\x01")
	checkRead(t, d, 7, parts(impl.Value{}), "\x00", "\x00")
	checkRead(t, d, 7, parts(parts(num(515))), "\x01", "\x02\x03", "\x06")
	// The sum is that of the encoding: escapes and the terminator count.
	checkRead(t, d, 8, parts(impl.Value{}), "\x00", "\x00")
	checkRead(t, d, 8, parts(raw("\x01")), "\x01\x00", "\x01")
	checkRead(t, d, 8, parts(raw("\x01")), "\\\x01\x00", "\x5d")
	checkRead(t, d, 9, parts(impl.Value{}), "\xff\xff", "\xfe")
	checkRead(t, d, 10, parts(parts(num(258))), "\x01\x02", "\x03", "\x06")
	checkRead(t, d, 11, parts(parts(parts(num(258)))), "\x01\x02", "\x03", "\x06", "\x0c")
	// Each sum begins where its own kid begins.
	q := parts(num(1), parts(num(2)), parts(parts(num(3))))
	checkRead(t, d, 12, q, "\x00\x01", "\x00\x02", "\x02", "\x00\x03", "\x03", "\x06")
	checkRead(t, d, 13, parts(q), "\x00\x01", "\x00\x02", "\x02", "\x00\x03", "\x03", "\x06", "\x11")
	for sum := range 256 {
		for rule, c := range map[int]struct {
			b   string
			sum int
		}{5: {"\x01\x02", 3}, 6: {"\xff\xff\xff", 253}, 7: {"\x00", 0}, 8: {"\\\x00\x00", 92}, 9: {"\xff\xff", 254}, 10: {"\x01\x02\x03", 6}} {
			if sum != c.sum {
				checkFailed(t, d, rule, c.b+string([]byte{byte(sum)}), len(c.b), impl.ErrSum)
			}
		}
	}
	checkFailed(t, d, 10, "\x01\x02\x04\x07", 2, impl.ErrSum)
	checkFailed(t, d, 11, "\x01\x02\x03\x06\x0d", 4, impl.ErrSum)
	checkFailed(t, d, 13, "\x00\x01\x00\x02\x02\x00\x03\x03\x07", 8, impl.ErrSum)
	checkFailed(t, d, 13, "\x00\x01\x00\x02\x02\x00\x03\x03\x06\x10", 9, impl.ErrSum)
}

// The encoding of fullValue, in the parts within which bytes may end.
func fullPieces() []string {
	return []string{
		"\x01", "\x05\x00",
		"abc", "\x01", "\x05\x00", "\x03", "\x01\x00", "a", "\x00\x00", "\x03\x00", "bcd", "\x97",
		"def", "\x00", "\x00",
		"ghi", "\x01", "\x2c\x01", "\\\\\\\n\x00\n", "\x56",
		"jkl", "\x01", "\x2d\x01", "\xff", "\x2e",
		"mno", "\x01", "\x05\x00", "\x02", "\x01\x00", "x", "\x01\x00", "y", "\xfb",
		"PK", "\xe5",
	}
}

func TestReadManyLevels(t *testing.T) {
	d := levels(t)
	checkRead(t, d, 14, fullValue(), fullPieces()...)
	b := strings.Join(fullPieces(), "")
	checkReading(t, d, 10, b, 3, fullValue().Items[0].Items[0].Items[0].Items[0], 21, impl.ReadOK)
	checkReading(t, d, 7, b, 7, fullValue().Items[0].Items[0].Items[0].Items[0].Items[1].Items[0].Items[0], 20, impl.ReadOK)
	checkReading(t, d, 1, b, 1, num(5), 3, impl.ReadOK)
	for _, c := range []struct {
		at, b, index, code int
	}{
		{0, 2, 0, impl.ErrFlag}, {1, 41, 1, impl.ErrCount}, {2, 1, 1, impl.ErrCount}, {6, 2, 6, impl.ErrFlag}, {7, 4, 7, impl.ErrTag}, {8, 1, 7, impl.ErrTag}, {9, 41, 9, impl.ErrCount}, {12, 0, 20, impl.ErrSum}, {20, 0x96, 20, impl.ErrSum}, {24, 0xff, 24, impl.ErrFlag}, {25, 1, 25, impl.ErrSum},
		{30, 0x2e, 30, impl.ErrTag}, {len(b) - 3, 'Q', len(b) - 3, impl.ErrConst}, {len(b) - 2, 'k', len(b) - 2, impl.ErrConst}, {len(b) - 1, 0xe4, len(b) - 1, impl.ErrSum}, {3, 'b', len(b) - 1, impl.ErrSum}, {11, 255, 12, impl.ErrShort},
	} {
		changed := []byte(b)
		changed[c.at] = byte(c.b)
		checkReading(t, d, 14, string(changed), 0, impl.Value{}, c.index, c.code)
	}
}

// Sequences of sequences may have more parts than can be walked: reading ends where the bytes do.
func TestReadRulesOfVeryManyParts(t *testing.T) {
	for first, least := range map[string]string{"integer 1": "\x00", "const 07": "\x07", "fixed 1": "\x00", "terminated 0a": "\n"} {
		d := described(t, append(chain(first, eightParts)[:20], "n integer 1", "o option r19", "k choice n 1:r19 2:o", "p checked k")...)
		for _, count := range []int{0, 1, 7, 8, 9, 399, 400} {
			checkReading(t, d, 19, strings.Repeat(least, count), 0, impl.Value{}, count, impl.ErrShort)
		}
		checkReading(t, d, 3, strings.Repeat(least, 200), 0, impl.Value{}, 200, impl.ErrShort)
		checkReading(t, d, 2, strings.Repeat(least, 65), 0, times(8, times(8, plainDefault(d, 0))), 64, impl.ReadOK)
		checkReading(t, d, 23, "\x01"+strings.Repeat(least, 399), 0, impl.Value{}, 400, impl.ErrShort)
		checkReading(t, d, 23, "\x02\x00\x02", 0, parts(tagged(2, impl.Value{})), 3, impl.ReadOK)
		checkReading(t, d, 23, "\x02\x01", 0, impl.Value{}, 2, impl.ErrShort)
	}
	d := described(t, chain("integer 1", "array r0 %")...)
	checkReading(t, d, 23, strings.Repeat("\x28", 400), 0, impl.Value{}, 400, impl.ErrShort)
	deep := num(1)
	for range 23 {
		deep = parts(deep)
	}
	checkReading(t, d, 23, strings.Repeat("\x01", 24)+"\x02", 0, deep, 24, impl.ReadOK)
}

// Of two errors, the one that is further to the left is reported.
func TestFirstErrors(t *testing.T) {
	d := described(t, "n integer 1", "w integer 2", "c const 504b", "o option n", "a array n n", "k choice n 1:c 2:o", "p checked k", "q sequence a:p b:c c:a d:o", "sealed checked q", "rows array w sealed", "s sized w", "mix sequence a:s b:rows c:c")
	for _, c := range []struct {
		rule  int
		b     string
		index int
		code  int
	}{
		{7, "\x03\x00QQ\xff\x02", 0, impl.ErrTag}, {7, "\x02\x07\xffQQ\xff\x02", 1, impl.ErrFlag}, {7, "\x01PX\x00QQ\xff\x02", 2, impl.ErrConst}, {7, "\x02\x00\x01QQ\xff\x02", 2, impl.ErrSum}, {7, "\x02\x00\x02QQ\xff\x02", 3, impl.ErrConst},
		{7, "\x02\x00\x02PQ\xff\x02", 4, impl.ErrConst}, {7, "\x02\x00\x02PK\xff\x02", 5, impl.ErrCount}, {7, "\x02\x00\x02PK\x00\x02", 6, impl.ErrFlag}, {7, "\x02\x00\x02PK\x02\x02", 7, impl.ErrShort}, {7, "\x02\x00\x02PK", 5, impl.ErrShort},
		// A sum is wrong behind its kid only: what is wrong within the kid comes first.
		{8, "\x02\x00\x02PK\x00\x02\x00", 6, impl.ErrFlag}, {8, "\x02\x00\x02PK\x00\x00", 7, impl.ErrShort}, {8, "\x02\x00\x02PK\x00\x00\x00", 7, impl.ErrSum}, {8, "\x02\x00\x03PK\x00\x00\x00", 2, impl.ErrSum}, {8, "\x02\x00\x02PK\x00\x00\x9f", 8, impl.ReadOK},
		{9, "\x00\x29\x03", 0, impl.ErrCount}, {9, "\x00\x02\x02\x00\x02PK\x00\x00\x9f\x03", 10, impl.ErrTag}, {9, "\x00\x02\x02\x00\x02PK\x00\x00\x9e\x03", 9, impl.ErrSum}, {9, "\x00\x28\x02\x00\x02PK\x00\x00\x9f", 10, impl.ErrShort}, {9, "\x00", 0, impl.ErrShort},
		// The content of a sized is not looked at.
		{11, "\x00\x02QQ\x00\x00PX", 7, impl.ErrConst}, {11, "\x00\x02QQ\x01\x00PX", 4, impl.ErrCount}, {11, "\x00\x09QQ\x01\x00PX", 2, impl.ErrShort}, {11, "\x00\x06QQ\x01\x00PX", 8, impl.ErrShort}, {11, "\x00\x05QQ\x01\x00PX", 7, impl.ErrShort},
	} {
		if c.code == impl.ReadOK {
			checkReading(t, d, c.rule, c.b, 0, parts(parts(parts(tagged(2, impl.Value{})), impl.Value{}, impl.Value{}, impl.Value{})), c.index, c.code)
		} else {
			checkFailed(t, d, c.rule, c.b, c.index, c.code)
		}
	}
}

// Reading begins anywhere up to the end; outside, there is nothing to read.
func TestReadAt(t *testing.T) {
	d := described(t, "n integer 1", "w integer 2", "f fixed 3", "z terminated 00", "o option n")
	b := "\x00\x01\x02\x00\x05"
	for at, want := range []impl.Value{num(0), num(1), num(2), num(0), num(5)} {
		checkReading(t, d, 0, b, at, want, at+1, impl.ReadOK)
	}
	for at, want := range []impl.Value{num(1), num(258), num(512), num(5)} {
		checkReading(t, d, 1, b, at, want, at+2, impl.ReadOK)
	}
	for at, want := range []string{"\x00\x01\x02", "\x01\x02\x00", "\x02\x00\x05"} {
		checkReading(t, d, 2, b, at, raw(want), at+3, impl.ReadOK)
	}
	for at, want := range []string{"", "\x01\x02", "\x02", ""} {
		checkReading(t, d, 3, b, at, raw(want), []int{1, 4, 4, 4}[at], impl.ReadOK)
	}
	checkReading(t, d, 4, b, 0, impl.Value{}, 1, impl.ReadOK)
	checkReading(t, d, 4, b, 1, parts(num(2)), 3, impl.ReadOK)
	checkReading(t, d, 4, b, 2, impl.Value{}, 2, impl.ErrFlag)
	checkReading(t, d, 1, b, 4, impl.Value{}, 4, impl.ErrShort)
	checkReading(t, d, 2, b, 3, impl.Value{}, 3, impl.ErrShort)
	checkReading(t, d, 3, b, 4, impl.Value{}, 4, impl.ErrShort)
	for rule := range d.Rules {
		checkReading(t, d, rule, b, 5, impl.Value{}, 5, impl.ErrShort)
		checkReading(t, d, rule, "", 0, impl.Value{}, 0, impl.ErrShort)
		for _, text := range []string{"", "a", b} {
			for _, at := range append(outsideIndexes(400), -1, len(text)+1, len(text)+2, math.MinInt, math.MaxInt) {
				if at < 0 || at > len(text) {
					checkReading(t, d, rule, text, at, impl.Value{}, 0, impl.ErrRule)
				}
			}
		}
	}
}

// What cannot be read at all has the index 0, wherever reading was to begin.
func TestReadNothing(t *testing.T) {
	d := described(t, "n integer 1", "f fixed 64", "o option n")
	for _, count := range []int{399, 400} {
		b := strings.Repeat("\x01", count)
		checkReading(t, d, 0, b, count-1, num(1), count, impl.ReadOK)
		checkReading(t, d, 1, b, count-64, raw(b[:64]), count, impl.ReadOK)
		checkReading(t, d, 2, b, count-2, parts(num(1)), count, impl.ReadOK)
		checkReading(t, d, 2, b, count-1, impl.Value{}, count, impl.ErrShort)
	}
	for _, count := range []int{401, 402, 800, 100000} {
		for _, at := range []int{0, 1, 300, 400, 401, count - 1, count} {
			for rule := range d.Rules {
				checkReading(t, d, rule, strings.Repeat("\x01", count), at, impl.Value{}, 0, impl.ErrRule)
			}
		}
	}
	checkFile(t, d, strings.Repeat("\x01", 401), impl.Value{}, 0, impl.ErrRule)
	eachMissingRule(func(d impl.Description, rule int) {
		for at := range 3 {
			checkReading(t, d, rule, "\x00\x01", at, impl.Value{}, 0, impl.ErrRule)
		}
	})
}

func TestReadWithInvalidDescriptions(t *testing.T) {
	texts := []string{"", "\x00", "\x00\x01", "PK", strings.Repeat("\x01", 400), strings.Repeat("\x01", 401)}
	eachInvalidRule(func(d impl.Description, rule int) {
		for _, b := range texts {
			for _, at := range []int{-1, 0, 1, len(b)} {
				checkReading(t, d, rule, b, at, impl.Value{}, 0, impl.ErrRule)
			}
		}
	})
	for _, d := range invalidDescriptions() {
		for _, b := range texts {
			checkFile(t, d, b, impl.Value{}, 0, impl.ErrRule)
		}
	}
	for _, broken := range brokenBehind() {
		checkRead(t, impl.Description{Rules: broken.Rules[:11]}, 0, num(7), "\x07")
	}
}

func TestReadFiles(t *testing.T) {
	d := described(t, "n integer 1", "f fixed 2", "file sequence a:f b:n")
	checkFile(t, d, "ab\x07", parts(raw("ab"), num(7)), 3, impl.ReadOK)
	checkFile(t, d, "ab\x07\x00", impl.Value{}, 3, impl.ErrTrailing)
	checkFile(t, d, "ab\x07ab\x07", impl.Value{}, 3, impl.ErrTrailing)
	checkFile(t, d, "ab\x07"+strings.Repeat("\xff", 397), impl.Value{}, 3, impl.ErrTrailing)
	checkFile(t, d, "ab\x07"+strings.Repeat("\xff", 398), impl.Value{}, 0, impl.ErrRule)
	checkFile(t, d, "ab", impl.Value{}, 2, impl.ErrShort)
	checkFile(t, d, "a", impl.Value{}, 0, impl.ErrShort)
	checkFile(t, d, "", impl.Value{}, 0, impl.ErrShort)
	// The last rule describes files, not the one that uses most others.
	d = described(t, "n integer 1", "q sequence a:n b:n", "c const 504b")
	checkFile(t, d, "PK", impl.Value{}, 2, impl.ReadOK)
	checkFile(t, d, "PKP", impl.Value{}, 2, impl.ErrTrailing)
	checkFile(t, d, "\x01\x02", impl.Value{}, 0, impl.ErrConst)
	checkFile(t, described(t, "n integer 1"), "\x05", num(5), 1, impl.ReadOK)
	checkFile(t, described(t, "n integer 1"), "\x05\x05", impl.Value{}, 1, impl.ErrTrailing)
	full := described(t, "n integer 2", "s sized n")
	checkFile(t, full, "\x01\x8e"+strings.Repeat("a", 398), raw(strings.Repeat("a", 398)), 400, impl.ReadOK)
	checkFile(t, full, "\x01\x8d"+strings.Repeat("a", 398), impl.Value{}, 399, impl.ErrTrailing)
	checkFile(t, full, "\x01\x8f"+strings.Repeat("a", 398), impl.Value{}, 2, impl.ErrShort)
	checkFile(t, full, "\x01\x8f"+strings.Repeat("a", 399), impl.Value{}, 0, impl.ErrRule)
	b := strings.Join(fullPieces(), "")
	checkFile(t, levels(t), b, fullValue(), len(b), impl.ReadOK)
	checkFile(t, levels(t), b+"\x00", impl.Value{}, len(b), impl.ErrTrailing)
	checkFile(t, levels(t), b[:len(b)-1]+"\x00\x00", impl.Value{}, len(b)-1, impl.ErrSum)
}

func TestErrorNames(t *testing.T) {
	names := []string{"ok", "short", "const", "tag", "flag", "sum", "count", "trailing", "rule"}
	codes := []int{impl.ReadOK, impl.ErrShort, impl.ErrConst, impl.ErrTag, impl.ErrFlag, impl.ErrSum, impl.ErrCount, impl.ErrTrailing, impl.ErrRule}
	for at, code := range codes {
		if code != at || impl.ErrorName(code) != names[at] {
			t.Errorf("the code %d has the name %q, want %q", code, impl.ErrorName(code), names[at])
		}
	}
	for _, code := range []int{-1, -2, -8, 9, 10, 17, 256, 1 << 32, 1<<32 + 1, math.MinInt, math.MaxInt} {
		if got := impl.ErrorName(code); got != "" {
			t.Errorf("ErrorName(%d) = %q", code, got)
		}
	}
}

func TestDescriptionsOfErrors(t *testing.T) {
	for _, c := range []struct {
		position, code int
		want           string
	}{
		{0, 0, "ok"}, {3, 0, "ok"}, {-3, 0, "ok"}, {400, 0, "ok"}, {0, 1, "short at 0"}, {3, 1, "short at 3"}, {17, 2, "const at 17"}, {3, 3, "tag at 3"}, {10, 4, "flag at 10"}, {399, 5, "sum at 399"}, {400, 6, "count at 400"}, {1, 7, "trailing at 1"}, {0, 8, "rule at 0"},
		{-1, 1, "short at -1"}, {-20, 8, "rule at -20"}, {math.MinInt, 2, "const at -9223372036854775808"}, {math.MaxInt, 2, "const at 9223372036854775807"},
		// A number that is no code has the empty name.
		{3, 9, " at 3"}, {3, -1, " at 3"}, {-5, 100, " at -5"}, {0, math.MinInt, " at 0"}, {0, math.MaxInt, " at 0"},
	} {
		if got := impl.DescribeError(c.position, c.code); got != c.want {
			t.Errorf("DescribeError(%d, %d) = %q, want %q", c.position, c.code, got, c.want)
		}
	}
}

func checkTerminated(t *testing.T, b string, at int, terminator byte, content string, next int, ok bool) {
	t.Helper()
	got, gotNext, gotOK := impl.ReadTerminated([]byte(b), at, terminator)
	if string(got) != content || gotNext != next || gotOK != ok {
		t.Fatalf("ReadTerminated(%q, %d, %q) = %q, %d, %v, want %q, %d, %v", b, at, terminator, got, gotNext, gotOK, content, next, ok)
	}
}

func TestReadTerminated(t *testing.T) {
	for _, c := range terminated() {
		for _, before := range bytesBefore() {
			for _, behind := range bytesBehind() {
				checkTerminated(t, before+c.encoding+behind, len(before), c.terminator[0], c.content, len(before)+len(c.encoding), true)
			}
			for count := range len(c.encoding) {
				checkTerminated(t, before+c.encoding[:count], len(before), c.terminator[0], "", len(before), false)
			}
		}
	}
	// The bytes may be begun anywhere, also behind an escape.
	b := "a\\\nb\nc\\\n"
	for at, c := range []struct {
		content string
		next    int
		ok      bool
	}{{"a\nb", 5, true}, {"\nb", 5, true}, {"", 3, true}, {"b", 5, true}, {"", 5, true}, {"", 5, false}, {"", 6, false}, {"", 8, true}, {"", 8, false}} {
		checkTerminated(t, b, at, '\n', c.content, c.next, c.ok)
	}
	// It reads of any number of bytes.
	for _, count := range []int{400, 401, 1000, 1 << 20} {
		checkTerminated(t, strings.Repeat("a", count)+"\n", 0, '\n', strings.Repeat("a", count), count+1, true)
		checkTerminated(t, strings.Repeat("\\\n", count)+"\nb", 0, '\n', strings.Repeat("\n", count), 2*count+1, true)
		checkTerminated(t, strings.Repeat("a", count), 7, '\n', "", 7, false)
	}
}

// Where the terminator is the escape, nothing is escaped.
func TestReadTerminatedByTheEscape(t *testing.T) {
	for _, c := range []struct {
		b       string
		at      int
		content string
		next    int
	}{{"\\", 0, "", 1}, {"\\\\", 0, "", 1}, {"\\\\", 1, "", 2}, {"a\\", 0, "a", 2}, {"a\\\\b", 0, "a", 2}, {"a\\\\b", 2, "", 3}, {"\\a\\", 1, "a", 3}, {"\n\x00\xff\\b\\", 0, "\n\x00\xff", 4}, {"\n\x00\xff\\b\\", 4, "b", 6}} {
		checkTerminated(t, c.b, c.at, impl.Escape, c.content, c.next, true)
	}
	for _, b := range []string{"", "a", "abc", "\n\x00", "\xff"} {
		checkTerminated(t, b, 0, impl.Escape, "", 0, false)
	}
	checkTerminated(t, "\\a", 1, impl.Escape, "", 1, false)
	checkTerminated(t, "\\\\", 2, impl.Escape, "", 2, false)
}

func TestReadTerminatedOutside(t *testing.T) {
	for _, b := range []string{"", "\n", "ab\n", "\n\n\n", "a\\\n\n"} {
		for _, at := range append(outsideIndexes(400), -1, len(b)+1) {
			if at < 0 || at > len(b) {
				checkTerminated(t, b, at, '\n', "", at, false)
			}
		}
		checkTerminated(t, b, len(b), '\n', "", len(b), false)
		if b != "" {
			checkTerminated(t, b, len(b)-1, '\n', "", len(b), true)
			checkTerminated(t, b, len(b)-1, 'x', "", len(b)-1, false)
		}
	}
}

// All short bytes of an escape, two terminators and another byte, against regular expressions.
func TestReadTerminatedOfAllShortBytes(t *testing.T) {
	escaped := regexp.MustCompile(`(?s)\\(.)`)
	for terminator, expression := range map[byte]*regexp.Regexp{
		'\n': regexp.MustCompile(`(?s)^((?:\\.|[^\\\n])*)\n`), 'a': regexp.MustCompile(`(?s)^((?:\\.|[^\\a])*)a`), '\\': regexp.MustCompile(`(?s)^([^\\]*)\\`),
	} {
		allTexts("\\\nab", 7, func(b string) {
			for at := range len(b) + 1 {
				found := expression.FindStringSubmatch(b[at:])
				if found == nil {
					checkTerminated(t, b, at, terminator, "", at, false)
					continue
				}
				content := found[1]
				if terminator != impl.Escape {
					content = escaped.ReplaceAllString(content, "$1")
				}
				checkTerminated(t, b, at, terminator, content, at+len(found[0]), true)
			}
		})
	}
}

// A stopped reading has the index and the code of its error.
type stopped struct{ at, code int }

// A plainReader reads as the document says, part by part from left to right; it panics at the first error.
type plainReader struct {
	d  impl.Description
	b  string
	at int
}

func (p *plainReader) require(met bool, at int, code int) {
	if !met {
		panic(stopped{at, code})
	}
}

func (p *plainReader) take(count int) string {
	p.require(p.at+count <= len(p.b), p.at, impl.ErrShort)
	p.at += count
	return p.b[p.at-count : p.at]
}

func (p *plainReader) number(integer impl.Rule) int {
	b := []byte(p.take(integer.Size))
	if integer.Little {
		slices.Reverse(b)
	}
	n := 0
	for _, c := range b {
		n = 256*n + int(c)
	}
	return n
}

func (p *plainReader) content(terminator byte) string {
	from, content := p.at, ""
	for p.at < len(p.b) && p.b[p.at] != terminator {
		if p.b[p.at] == '\\' {
			p.at++
		}
		if p.at < len(p.b) {
			content += p.b[p.at : p.at+1]
		}
		p.at++
	}
	p.require(p.at < len(p.b), from, impl.ErrShort)
	p.at++
	return content
}

func (p *plainReader) items(rules ...int) []impl.Value {
	list := []impl.Value{}
	for _, rule := range rules {
		list = append(list, p.read(rule))
	}
	return list
}

func (p *plainReader) read(rule int) impl.Value {
	r, from, v := p.d.Rules[rule], p.at, impl.Value{}
	kid := func() impl.Rule { return p.d.Rules[r.Kids[0]] }
	switch r.Kind {
	case impl.KindInteger:
		v.Number = p.number(r)
	case impl.KindConst:
		for at := range r.Bytes {
			p.require(from+at < len(p.b), from, impl.ErrShort)
			p.require(p.b[from+at] == r.Bytes[at], from+at, impl.ErrConst)
		}
		p.take(len(r.Bytes))
	case impl.KindFixed:
		v.Bytes = []byte(p.take(r.Size))
	case impl.KindSized:
		v.Bytes = []byte(p.take(p.number(kid())))
	case impl.KindTerminated:
		v.Bytes = []byte(p.content(r.Bytes[0]))
	case impl.KindArray:
		count := p.number(kid())
		p.require(count <= 40, from, impl.ErrCount)
		v.Items = p.items(slices.Repeat(r.Kids[1:], count)...)
	case impl.KindSequence:
		v.Items = p.items(r.Kids...)
	case impl.KindChoice:
		v.Number = p.number(kid())
		at := slices.Index(r.Tags, v.Number)
		p.require(at >= 0, from, impl.ErrTag)
		v.Items = p.items(r.Kids[at+1])
	case impl.KindOption:
		flag := p.take(1)[0]
		p.require(flag <= 1, from, impl.ErrFlag)
		v.Items = p.items(slices.Repeat(r.Kids, int(flag))...)
	case impl.KindChecked:
		v.Items = p.items(r.Kids[0])
		end := p.at
		sum := p.take(1)[0]
		p.require(sum == sumOf(p.b[from:end]), end, impl.ErrSum)
	}
	return v
}

// plainReading is for rules of valid descriptions, an index within the bytes, and not too many of these.
func plainReading(d impl.Description, rule int, b string, at int) (v impl.Value, next int, code int) {
	p := plainReader{d, b, at}
	defer func() {
		if failed, ok := recover().(stopped); ok {
			v, next, code = impl.Value{}, failed.at, failed.code
		}
	}()
	v = p.read(rule)
	return v, p.at, impl.ReadOK
}

// checkPlain tests ReadValue against plainReading, and returns the code.
func checkPlain(t *testing.T, d impl.Description, rule int, b string, at int) int {
	t.Helper()
	v, next, code := plainReading(d, rule, b, at)
	checkReading(t, d, rule, b, at, v, next, code)
	if end := encodingEnd(d, rule, b, at); (code == impl.ReadOK) != (end >= 0) || end >= 0 && end != next {
		t.Fatalf("the rule %d of\n%s\nwith %q at %d ends at %d", rule, impl.FormatDescription(d), b, at, end)
	}
	return code
}

// disturbed returns bytes that differ from these at a few places, or end before them.
func disturbed(random *rand.Rand, b string) string {
	for range 1 + random.Intn(2) {
		at := random.Intn(len(b) + 1)
		c := string([]byte{[]byte{0, 1, 2, 40, 41, 92, 255, byte(random.Intn(256))}[random.Intn(8)]})
		switch random.Intn(6) {
		case 0:
			b = b[:at]
		case 1:
			b = b[:at] + c + b[at:]
		case 2:
			b = b[:at] + b[min(at+1, len(b)):]
		default:
			b = b[:at] + c + b[min(at+1, len(b)):]
		}
	}
	return b[:min(len(b), 400)]
}

func TestReadRandomEncodings(t *testing.T) {
	random := rand.New(rand.NewSource(11))
	kinds, codes := map[int]int{}, map[int]int{}
	for _, d := range startDescriptions(600) {
		for rule, r := range d.Rules {
			if impl.MinSize(d, rule) > impl.MaxInput {
				checkPlain(t, d, rule, strings.Repeat("\x00", 400), 0)
				continue
			}
			w := encodingWriter{random: random, d: d}
			w.write(rule)
			b := string(w.out)
			if len(b) > 380 {
				continue
			}
			kinds[r.Kind]++
			for _, before := range bytesBefore() {
				if code := checkPlain(t, d, rule, before+b+"behind", len(before)); code != impl.ReadOK {
					t.Fatalf("%q is an encoding of the rule %d of\n%s\nbut not read: %d", b, rule, impl.FormatDescription(d), code)
				}
			}
			if code := checkPlain(t, d, rule, b[:random.Intn(len(b))], 0); code != impl.ErrShort {
				t.Fatalf("a beginning of %q is an encoding of the rule %d of\n%s, or fails: %d", b, rule, impl.FormatDescription(d), code)
			}
			for range 12 {
				codes[checkPlain(t, d, rule, disturbed(random, b), 0)]++
			}
			checkPlain(t, d, random.Intn(len(d.Rules)), b, random.Intn(len(b)+1))
		}
	}
	for kind := 1; kind <= 10; kind++ {
		if kinds[kind] < 30 {
			t.Errorf("only %d encodings of the kind %d", kinds[kind], kind)
		}
	}
	for code := impl.ReadOK; code <= impl.ErrCount; code++ {
		if codes[code] < 100 {
			t.Errorf("only %d readings had the code %d", codes[code], code)
		}
	}
}

// Up to the byte that decides, all beginnings are too short; behind it, nothing changes the error.
func TestBeginningsOfEncodings(t *testing.T) {
	random := rand.New(rand.NewSource(12))
	failed := 0
	for _, d := range startDescriptions(60) {
		for rule := range d.Rules {
			if impl.MinSize(d, rule) > 100 {
				continue
			}
			w := encodingWriter{random: random, d: d}
			w.write(rule)
			b := disturbed(random, string(w.out[:min(len(w.out), 150)]))
			decided := false
			for count := range len(b) + 1 {
				code := checkPlain(t, d, rule, b[:count], 0)
				if code == impl.ErrShort && decided {
					t.Fatalf("with %d bytes, %q is too short for the rule %d of\n%s, but not with less", count, b, rule, impl.FormatDescription(d))
				}
				decided = code != impl.ErrShort
				if code > impl.ErrShort {
					failed++
				}
			}
		}
	}
	if failed < 1000 {
		t.Errorf("only %d readings failed", failed)
	}
}

// All short bytes of those that matter, for small rules.
func TestReadAllShortBytes(t *testing.T) {
	d := described(t,
		"n integer 1", "w integer 2 little", "v integer 2", "c const 0102", "f fixed 2", "s sized n", "sw sized w", "z terminated 00", "a array n n", "av array v n", "aa array n a", "az array n z", "q sequence a:c b:n", "k choice n 0:n 2:c", "kw choice w 1:s 258:z",
		"o option c", "oo option o", "p checked n", "pp checked p", "pz checked z", "ap array n p", "op option pz", "last sequence a:o b:p",
	)
	codes := map[int]int{}
	for rule := range d.Rules {
		allTexts("\x00\x01\x02\\)", 5, func(b string) {
			codes[checkPlain(t, d, rule, b, 0)]++
			if len(b) > 0 {
				checkPlain(t, d, rule, b, 1)
			}
		})
	}
	for code := impl.ReadOK; code <= impl.ErrCount; code++ {
		if codes[code] < 500 {
			t.Errorf("only %d readings had the code %d", codes[code], code)
		}
	}
}

// Bytes that are guarded lie in a larger array, the description as well: what is read is the same.
func TestReadingValuesModifiesNothing(t *testing.T) {
	random := rand.New(rand.NewSource(13))
	for _, d := range startDescriptions(40) {
		g := guardDescription(d)
		for rule := range d.Rules {
			if impl.MinSize(d, rule) > 300 {
				continue
			}
			w := encodingWriter{random: random, d: d}
			w.write(rule)
			for _, b := range []string{string(w.out), disturbed(random, string(w.out)), string(w.out[:len(w.out)/2])} {
				content := guard([]byte(b))
				for other := -1; other <= len(d.Rules); other++ {
					v, next, code := impl.ReadValue(g.d, other, content.slice, 0)
					w, wantNext, wantCode := impl.ReadValue(d, other, []byte(b), 0)
					if plainText(v) != plainText(w) || next != wantNext || code != wantCode {
						t.Fatalf("with spare capacity, ReadValue of the rule %d with %q = %+v, %d, %d", other, b, v, next, code)
					}
				}
				impl.ReadFile(g.d, content.slice)
				impl.IsFileOf(g.d, content.slice)
				impl.ReadTerminated(content.slice, len(b)/2, 's')
				impl.ReadTerminated(content.slice, len(b), 's')
				impl.ReadTerminated(content.slice, len(b)+1, 's')
				content.check(t, "a function of chapter 11")
			}
		}
		g.check(t, "a function of chapter 11")
	}
}

// What stands in the spare capacity of the bytes is not read.
func TestSpareCapacityIsNotRead(t *testing.T) {
	b := []byte("\x01ab\x00PK\x07\x00\x00")
	d := described(t, "n integer 1", "c const 01616200", "f fixed 9", "z terminated 4b", "s sized n", "o option n", "p checked n")
	for rule, count := range []int{0, 3, 8, 5, 1, 1, 0} {
		if v, next, code := impl.ReadValue(d, rule, b[:count], 0); !isZero(v) || code != impl.ErrShort || next > 1 {
			t.Errorf("ReadValue of the rule %d with %q = %+v, %d, %d", rule, b[:count], v, next, code)
		}
	}
	if content, next, ok := impl.ReadTerminated(b[:5], 0, 'K'); len(content) != 0 || next != 0 || ok {
		t.Errorf("ReadTerminated read the spare capacity: %q, %d, %v", content, next, ok)
	}
}

func TestReadValuesAreNewMemory(t *testing.T) {
	random := rand.New(rand.NewSource(14))
	check := func(d impl.Description, rule int, b string) {
		g, content := guardDescription(d), guard([]byte(b))
		checkArguments := func() {
			g.check(t, "writing to a value that was read")
			content.check(t, "writing to a value that was read")
		}
		overwriteArguments := func() {
			overwrite(g.arrays)
			overwrite(g.list)
			for at := range content.array {
				content.array[at] ^= 0x55
			}
		}
		checkNewValue(t, "ReadValue", func() impl.Value {
			v, _, _ := impl.ReadValue(g.d, rule, content.slice, 0)
			return v
		}, checkArguments, overwriteArguments)
		g, content = guardDescription(d), guard([]byte(b))
		checkNewValue(t, "ReadFile", func() impl.Value {
			v, _, _ := impl.ReadFile(g.d, content.slice)
			return v
		}, checkArguments, overwriteArguments)
	}
	check(levels(t), 14, strings.Join(fullPieces(), ""))
	for _, d := range startDescriptions(40) {
		for rule := range d.Rules {
			if impl.MinSize(d, rule) < 300 {
				w := encodingWriter{random: random, d: d}
				w.write(rule)
				check(d, rule, string(w.out))
				check(d, rule, string(w.out[:len(w.out)-1]))
			}
		}
	}
}

// A part alone is changed, on every level: neither the bytes nor another value change, and a change of the bytes changes no value.
func TestReadValuesPartByPart(t *testing.T) {
	d := levels(t)
	b := []byte(strings.Join(fullPieces(), ""))
	other, _, _ := impl.ReadFile(d, b)
	want := plainText(fullValue())
	for at := range everyPartOf(&other) {
		v, _, _ := impl.ReadFile(d, b)
		part := everyPartOf(&v)[at]
		part.Number += 9
		for k := range part.Bytes[:cap(part.Bytes)] {
			part.Bytes[:cap(part.Bytes)][k] ^= 0x55
		}
		for k := range part.Items[:cap(part.Items)] {
			part.Items[:cap(part.Items)][k] = impl.Value{Number: 99, Bytes: []byte("other")}
		}
		if string(b) != strings.Join(fullPieces(), "") || plainText(other) != want {
			t.Fatalf("writing to the part %d of a value that was read changed the bytes or another value: %q, %+v", at, b, other)
		}
	}
	for at := range b {
		b[at] ^= 0xff
	}
	if plainText(other) != want {
		t.Errorf("writing to the bytes changed the value that was read: %+v", other)
	}
}

func TestReadTerminatedIsNewMemory(t *testing.T) {
	for _, b := range []string{"abc\n", "\n", "a\\\nb\nc", "abc", "", strings.Repeat("ab", 100) + "\n"} {
		for at := -1; at <= len(b)+1; at++ {
			g := guard([]byte(b))
			first, next, ok := impl.ReadTerminated(g.slice, at, '\n')
			second, _, _ := impl.ReadTerminated(g.slice, at, '\n')
			want := string(second)
			first = first[:cap(first)]
			for k := range first {
				first[k] ^= 0x55
			}
			g.check(t, "writing to a result of ReadTerminated")
			if third, again, same := impl.ReadTerminated(g.slice, at, '\n'); string(second) != want || string(third) != want || next != again || ok != same {
				t.Fatalf("writing to a result of ReadTerminated(%q, %d) changed another one: %q", b, at, second)
			}
			for k := range g.array {
				g.array[k] ^= 0x55
			}
			if string(second) != want {
				t.Fatalf("writing to the bytes changed a result of ReadTerminated(%q, %d): %q", b, at, second)
			}
		}
	}
}

// Values are read by the description as it is now, not as it was at an earlier call.
func TestReadingValuesFollowsTheDescription(t *testing.T) {
	d := described(t, "n integer 1", "c const 0102", "k choice n 3:c 4:n", "q sequence a:k b:n", "o option q")
	for range 2 {
		checkReading(t, d, 4, "\x01\x03\x01\x02\x07", 0, parts(parts(tagged(3, impl.Value{}), num(7))), 5, impl.ReadOK)
	}
	d.Rules[1].Bytes[1] = 5
	checkReading(t, d, 4, "\x01\x03\x01\x02\x07", 0, impl.Value{}, 3, impl.ErrConst)
	d.Rules[2].Tags[0] = 2
	checkReading(t, d, 4, "\x01\x03\x01\x02\x07", 0, impl.Value{}, 1, impl.ErrTag)
	d.Rules[2].Kids[1] = 0
	checkReading(t, d, 4, "\x01\x02\x01\x02", 0, parts(parts(tagged(2, num(1)), num(2))), 4, impl.ReadOK)
	d.Rules[0].Size = 2
	checkReading(t, d, 4, "\x01\x00\x02\x01\x02\x03\x04", 0, parts(parts(tagged(2, num(258)), num(772))), 7, impl.ReadOK)
	d.Rules[0].Little = true
	checkReading(t, d, 4, "\x01\x02\x00\x01\x02\x03\x04", 0, parts(parts(tagged(2, num(513)), num(1027))), 7, impl.ReadOK)
	d.Rules[4].Kind = impl.KindChecked
	checkReading(t, d, 4, "\x02\x00\x01\x02\x03\x04\x0c", 0, parts(parts(tagged(2, num(513)), num(1027))), 7, impl.ReadOK)
	d.Rules[0].Size = 5
	checkReading(t, d, 4, "\x02\x00\x01\x02\x03\x04\x0c", 0, impl.Value{}, 0, impl.ErrRule)
}
