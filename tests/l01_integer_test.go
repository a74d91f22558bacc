package tests

import (
	"math"
	"math/big"
	"regexp"
	"strings"
	"testing"

	"loop.example/g00518/impl"
)

// edgeInts holds the numbers at which the rules of chapter 1 change, and their neighbours.
func edgeInts() []int {
	list := []int{
		math.MinInt, math.MinInt + 1, math.MaxInt - 1, math.MaxInt,
		-impl.MaxValue - 1, -impl.MaxValue, -impl.MaxValue + 1,
		impl.MaxValue - 1, impl.MaxValue, impl.MaxValue + 1,
		1 << 31, 1 << 32, -(1 << 31), -(1 << 32),
	}
	for n := -12; n <= 12; n++ {
		list = append(list, n)
	}
	for power := 10; power <= impl.MaxValue; power *= 10 {
		list = append(list, power-1, power, power+1, -power)
	}
	return list
}

func TestMaxValue(t *testing.T) {
	if impl.MaxValue != 1000000000000 {
		t.Error(impl.MaxValue)
	}
}

func TestFormatInt(t *testing.T) {
	cases := []struct {
		n    int
		want string
	}{
		{-3, "-3"}, {0, "0"}, {7, "7"}, {10, "10"}, {120, "120"}, {-100, "-100"},
		{impl.MaxValue, "1000000000000"},
		{impl.MaxValue + 1, "1000000000001"},
		{-impl.MaxValue, "-1000000000000"},
		{math.MaxInt, "9223372036854775807"},
		{math.MinInt, "-9223372036854775808"},
	}
	for _, c := range cases {
		if got := impl.FormatInt(c.n); got != c.want {
			t.Errorf("FormatInt(%d) = %q, want %q", c.n, got, c.want)
		}
	}
	for _, n := range edgeInts() {
		if got, want := impl.FormatInt(n), big.NewInt(int64(n)).String(); got != want {
			t.Errorf("FormatInt(%d) = %q, want %q", n, got, want)
		}
	}
}

func TestParseIntAccepts(t *testing.T) {
	cases := []struct {
		s    string
		want int
	}{
		{"0", 0}, {"1", 1}, {"9", 9}, {"10", 10}, {"17", 17}, {"100", 100}, {"256", 256},
		{"1234567890", 1234567890},
		{"999999999999", impl.MaxValue - 1},
		{"1000000000000", impl.MaxValue},
	}
	for _, c := range cases {
		if n, ok := impl.ParseInt(c.s); !ok || n != c.want {
			t.Errorf("ParseInt(%q) = %d, %v, want %d, true", c.s, n, ok, c.want)
		}
	}
}

func TestParseIntRejects(t *testing.T) {
	cases := []string{
		"", "-1", "+1", "-0", "+0", "-", "+", "--1", "-3", "-1000000000000",
		"00", "01", "017", "007", "0000000000000", "01000000000000", "00000000000000000000000001",
		" ", " 1", "1 ", "1 2", "\t1", "1\n", "1\r\n", "\n", "1x", "x1", "x", "1a", "a1", "1-", "1+",
		"1.0", "1.", ".1", "1e3", "1,000", "1_000", "_1", "1_", "0x10", "0b1", "0o7", "0x", "inf", "NaN",
		"\x00", "1\x00", "\x001", "/", ":", "1/", "1:", "\xff", "1\xff", "\u0663", "\uff11", "1\u0663",
		"1000000000001", "1000000000010", "2000000000000", "9999999999999", "10000000000000",
		"9223372036854775807", "9223372036854775808", "-9223372036854775808", "-9223372036854775809",
		// These come to 0, 17 and MaxValue if the digits are added up in 64 bits.
		"18446744073709551616", "18446744073709551633", "18446745073709551616",
		"99999999999999999999", "100000000000000000000000",
		strings.Repeat("0", 400), strings.Repeat("1", 400), strings.Repeat("9", 100000),
		strings.Repeat("0", 400) + "1", "1" + strings.Repeat("0", 400),
	}
	for _, s := range cases {
		if n, ok := impl.ParseInt(s); ok || n != 0 {
			t.Errorf("ParseInt(%.40q) = %d, %v, want 0, false", s, n, ok)
		}
	}
}

func TestParseIntUndoesFormatInt(t *testing.T) {
	list := edgeInts()
	for n := 0; n <= 20000; n++ {
		list = append(list, n)
	}
	for n := 1; n <= impl.MaxValue; n = n*3 + 1 {
		list = append(list, n, impl.MaxValue-n, impl.MaxValue+n)
	}
	for _, n := range list {
		got, ok := impl.ParseInt(impl.FormatInt(n))
		inside := n >= 0 && n <= impl.MaxValue
		if ok != inside || inside && got != n || !inside && got != 0 {
			t.Errorf("ParseInt(FormatInt(%d)) = %d, %v", n, got, ok)
		}
	}
}

var decimalForm = regexp.MustCompile(`\A(0|[1-9][0-9]*)\z`)

// checkParseInt compares ParseInt with a reading of the document that shares no code with it.
func checkParseInt(t *testing.T, s string) {
	t.Helper()
	want, wantOK := 0, false
	if decimalForm.MatchString(s) {
		n, _ := new(big.Int).SetString(s, 10)
		if n.Cmp(big.NewInt(impl.MaxValue)) <= 0 {
			want, wantOK = int(n.Int64()), true
		}
	}
	if n, ok := impl.ParseInt(s); n != want || ok != wantOK {
		t.Errorf("ParseInt(%q) = %d, %v, want %d, %v", s, n, ok, want, wantOK)
	}
}

func TestParseIntOfAllShortTexts(t *testing.T) {
	texts := []string{""}
	for start := 0; len(texts[start]) < 5; start++ {
		for _, c := range []byte("0179+-_ x") {
			texts = append(texts, texts[start]+string(c))
		}
	}
	for _, s := range texts {
		checkParseInt(t, s)
	}
}

func TestParseIntOfEveryByte(t *testing.T) {
	for c := 0; c < 256; c++ {
		b := string([]byte{byte(c)})
		for _, s := range []string{b, b + "1", "1" + b, "1" + b + "1", "99999999999" + b, "100000000000" + b} {
			checkParseInt(t, s)
		}
	}
}

func TestMinMax(t *testing.T) {
	for _, a := range edgeInts() {
		for _, b := range edgeInts() {
			smaller, larger := a, b
			if b < a {
				smaller, larger = b, a
			}
			if got := impl.Min(a, b); got != smaller {
				t.Errorf("Min(%d, %d) = %d, want %d", a, b, got, smaller)
			}
			if got := impl.Max(a, b); got != larger {
				t.Errorf("Max(%d, %d) = %d, want %d", a, b, got, larger)
			}
		}
	}
}

func TestCeilDivCases(t *testing.T) {
	cases := []struct{ a, b, want int }{
		{7, 3, 3}, {6, 3, 2}, {1, 3, 1}, {2, 3, 1}, {3, 3, 1}, {4, 3, 2}, {0, 3, 0}, {0, 1, 0}, {5, 1, 5},
		{impl.MaxValue, 1, impl.MaxValue},
		{impl.MaxValue, impl.MaxValue, 1},
		{impl.MaxValue, impl.MaxValue - 1, 2},
		{impl.MaxValue - 1, impl.MaxValue, 1},
		{1, impl.MaxValue, 1},
		{0, impl.MaxValue, 0},
		{impl.MaxValue, 7, 142857142858},
		{-1, 2, 0}, {-7, 3, 0}, {math.MinInt, 1, 0},
		{impl.MaxValue + 1, 1, 0}, {impl.MaxValue + 1, impl.MaxValue, 0}, {math.MaxInt, 2, 0},
		{1, 0, 0}, {7, -3, 0}, {-7, -3, 0}, {1, math.MinInt, 0}, {math.MinInt, -1, 0},
		{5, impl.MaxValue + 1, 0}, {impl.MaxValue, impl.MaxValue + 1, 0}, {5, math.MaxInt, 0}, {0, 0, 0},
	}
	for _, c := range cases {
		if got := impl.CeilDiv(c.a, c.b); got != c.want {
			t.Errorf("CeilDiv(%d, %d) = %d, want %d", c.a, c.b, got, c.want)
		}
	}
}

func TestCeilDivRoundsUp(t *testing.T) {
	for _, a := range edgeInts() {
		for _, b := range edgeInts() {
			got := impl.CeilDiv(a, b)
			if a < 0 || a > impl.MaxValue || b < 1 || b > impl.MaxValue {
				if got != 0 {
					t.Errorf("CeilDiv(%d, %d) = %d, want 0", a, b, got)
				}
				continue
			}
			want := a / b
			if a%b != 0 {
				want++
			}
			if got != want {
				t.Errorf("CeilDiv(%d, %d) = %d, want %d", a, b, got, want)
			}
		}
	}
}

func TestModCases(t *testing.T) {
	cases := []struct{ p, q, want int }{
		{-1, 7, 6}, {15, 7, 1}, {0, 7, 0}, {6, 7, 6}, {7, 7, 0}, {-6, 7, 1}, {-7, 7, 0}, {-8, 7, 6}, {-14, 7, 0},
		{5, 1, 0}, {-5, 1, 0},
		{impl.MaxValue, impl.MaxValue, 0},
		{-1, impl.MaxValue, impl.MaxValue - 1},
		{impl.MaxValue + 1, impl.MaxValue, 1},
		{math.MaxInt, impl.MaxValue, 36854775807},
		{math.MinInt, impl.MaxValue, impl.MaxValue - 36854775808},
		{math.MinInt, 1, 0}, {math.MinInt, 2, 0}, {math.MaxInt, 2, 1},
		{3, 0, 0}, {-3, 0, 0}, {3, -1, 0}, {3, -7, 0}, {-3, -7, 0}, {math.MinInt, -1, 0}, {3, math.MinInt, 0},
		{3, impl.MaxValue + 1, 0}, {-3, impl.MaxValue + 1, 0}, {3, math.MaxInt, 0},
	}
	for _, c := range cases {
		if got := impl.Mod(c.p, c.q); got != c.want {
			t.Errorf("Mod(%d, %d) = %d, want %d", c.p, c.q, got, c.want)
		}
	}
}

func TestModIsTheRemainder(t *testing.T) {
	for _, p := range edgeInts() {
		for _, q := range edgeInts() {
			want := 0
			if q >= 1 && q <= impl.MaxValue {
				want = int(new(big.Int).Mod(big.NewInt(int64(p)), big.NewInt(int64(q))).Int64())
			}
			if got := impl.Mod(p, q); got != want {
				t.Errorf("Mod(%d, %d) = %d, want %d", p, q, got, want)
			}
		}
	}
}

func TestInRange(t *testing.T) {
	cases := []struct {
		n, low, high int
		want         bool
	}{
		{2, 2, 3, true}, {3, 2, 3, true}, {1, 2, 3, false}, {4, 2, 3, false}, {5, 0, 10, true},
		{2, 2, 2, true}, {1, 2, 2, false}, {3, 2, 2, false}, {0, 0, 0, true},
		{-2, -3, -1, true}, {-4, -3, -1, false}, {0, -3, -1, false}, {0, -1, 1, true},
		// In an empty range, neither the bounds nor what is between them count.
		{2, 3, 2, false}, {3, 3, 2, false}, {5, 10, 0, false}, {0, 10, 0, false}, {10, 10, 0, false},
		{0, math.MinInt, math.MaxInt, true},
		{math.MinInt, math.MinInt, math.MaxInt, true},
		{math.MaxInt, math.MinInt, math.MaxInt, true},
		{math.MinInt, math.MinInt, math.MinInt, true},
		{math.MaxInt, math.MaxInt, math.MaxInt, true},
		{math.MaxInt, math.MinInt, math.MaxInt - 1, false},
		{math.MinInt, math.MinInt + 1, math.MaxInt, false},
		{0, math.MaxInt, math.MinInt, false},
	}
	for _, c := range cases {
		if got := impl.InRange(c.n, c.low, c.high); got != c.want {
			t.Errorf("InRange(%d, %d, %d) = %v, want %v", c.n, c.low, c.high, got, c.want)
		}
	}
}
