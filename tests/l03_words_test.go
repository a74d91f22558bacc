package tests

import (
	"slices"
	"strings"
	"testing"

	"loop.example/g00518/impl"
)

// A guarded list lies in the middle of a larger array, so that writes in front of it and into its spare capacity are seen.
type guardedTexts struct {
	array  []string
	before []string
	slice  []string
}

func guardTexts(content []string) *guardedTexts {
	array := append([]string{"front", "before"}, content...)
	for range 8 {
		array = append(array, "spare")
	}
	slice := array[2 : 2+len(content)]
	if content == nil {
		slice = nil
	}
	return &guardedTexts{array, slices.Clone(array), slice}
}

func (g *guardedTexts) check(t *testing.T, name string) {
	t.Helper()
	if !slices.Equal(g.array, g.before) {
		t.Errorf("%s changed an argument: %q, was %q", name, g.array, g.before)
	}
}

// texts holds texts without separators, of separators only, with separators at either end and in a row, of several bytes a character and of no valid UTF-8.
func texts() []string {
	list := []string{
		"", "a", "abc", "no separator here", ":", "::", ":::::", " ", "   ", "\n", "\n\n", "\n\n\n", "\x00", "\x00\x00",
		"a:b", "a::b", ":a", "a:", ":a:", "::a::b::", "a b", " a  b ", "a\nb", "a\nb\n", "a\nb\n\n", "\na\n\nb",
		"a\x00b\x00", "\xff", "\xff\xff", "\x80a\x80", "a\xffb\xfe", "\xc3", "\xa9", "\xc3\xc3\xa9", "\xed\xa0\x80", "\xc0\x80", "\xf5\xbf",
		"\u00e9", "caf\u00e9:\u00e9", "\u00ff\u00c3", "\u20ac:\u20ac", "\U0001f600 \U0001f600", "\ufffd", "\ufffd\xff\ufffd", "a\u00a0b", "\u2028\u0085",
		"a\tb", "a\r\nb\r\n", "\v\f", string(everyByte()), string(everyByte()) + string(reversed(everyByte())),
		strings.Repeat("long ", 200), strings.Repeat(":", 400), strings.Repeat("x", 401),
	}
	for _, c := range everyByte() {
		list = append(list, string([]byte{c}), string([]byte{'a', c, 'b', c}))
	}
	return list
}

// partsOf walks over the bytes one by one: the division that the document asks for, written another way.
func partsOf(s string, separator byte) []string {
	list := []string{}
	part := []byte{}
	for i := 0; i < len(s); i++ {
		if s[i] == separator {
			list = append(list, string(part))
			part = nil
			continue
		}
		part = append(part, s[i])
	}
	return append(list, string(part))
}

func TestSplitText(t *testing.T) {
	cases := []struct {
		s         string
		separator byte
		want      []string
	}{
		{"", ':', []string{""}}, {"abc", ':', []string{"abc"}}, {"a", ':', []string{"a"}},
		{":", ':', []string{"", ""}}, {"::", ':', []string{"", "", ""}}, {":::", ':', []string{"", "", "", ""}},
		{"a:b", ':', []string{"a", "b"}}, {"a::b", ':', []string{"a", "", "b"}}, {"a:::b", ':', []string{"a", "", "", "b"}},
		{":a", ':', []string{"", "a"}}, {"a:", ':', []string{"a", ""}}, {":a:", ':', []string{"", "a", ""}},
		{"::a:b::", ':', []string{"", "", "a", "b", "", ""}}, {"a,b:c", ',', []string{"a", "b:c"}},
		{"", 0, []string{""}}, {"ab", 0, []string{"ab"}}, {"a\x00b", 0, []string{"a", "b"}}, {"\x00", 0, []string{"", ""}},
		{"aba", 'a', []string{"", "b", ""}}, {"ABA", 'a', []string{"ABA"}}, {" a ", ' ', []string{"", "a", ""}},
		{"\n", 10, []string{"", ""}}, {"a\r\nb", 10, []string{"a\r", "b"}},
		{"\xff", 255, []string{"", ""}}, {"a\xffb", 255, []string{"a", "b"}}, {"a\xfeb", 255, []string{"a\xfeb"}},
		{"a\x80b\x80", 128, []string{"a", "b", ""}}, {"\x00", 128, []string{"\x00"}}, {"\x7f", 255, []string{"\x7f"}},
		// The separators are bytes, also within a character, and not the characters with their numbers.
		{"\u00e9", 0xe9, []string{"\u00e9"}}, {"\u00e9", 0xc3, []string{"", "\xa9"}}, {"\u00e9", 0xa9, []string{"\xc3", ""}},
		{"\u20ac", 0x82, []string{"\xe2", "\xac"}}, {"\u00e9:\u20ac", ':', []string{"\u00e9", "\u20ac"}},
		{"\ufffd\xff", 255, []string{"\ufffd", ""}}, {"\xff:\xfe", ':', []string{"\xff", "\xfe"}}, {"\xff\ufffd", 0xef, []string{"\xff", "\xbf\xbd"}},
	}
	for _, c := range cases {
		if got := impl.SplitText(c.s, c.separator); !slices.Equal(got, c.want) {
			t.Errorf("SplitText(%q, %d) = %q, want %q", c.s, c.separator, got, c.want)
		}
	}
}

func TestSplitTextByEveryByte(t *testing.T) {
	for _, s := range texts() {
		for _, separator := range everyByte() {
			got, want := impl.SplitText(s, separator), partsOf(s, separator)
			if !slices.Equal(got, want) {
				t.Errorf("SplitText(%.40q, %d) = %.40q, want %.40q", s, separator, got, want)
			}
			if count := strings.Count(s, string([]byte{separator})); len(got) != count+1 {
				t.Errorf("SplitText(%.40q, %d) has %d parts, and the text %d separators", s, separator, len(got), count)
			}
		}
	}
}

func TestPartsAreJoinedToTheirText(t *testing.T) {
	for _, s := range texts() {
		for _, separator := range everyByte() {
			parts := guardTexts(impl.SplitText(s, separator))
			if got := impl.JoinText(parts.slice, string([]byte{separator})); got != s {
				t.Errorf("the parts of %.40q at %d are joined to %.40q", s, separator, got)
			}
			parts.check(t, "JoinText")
		}
	}
}

func TestJoinText(t *testing.T) {
	cases := []struct {
		parts     []string
		separator string
		want      string
	}{
		{nil, "-", ""}, {[]string{}, "-", ""}, {nil, "", ""}, {[]string{}, "", ""}, {nil, "long", ""},
		{[]string{"a"}, "-", "a"}, {[]string{""}, "-", ""}, {[]string{"a"}, "", "a"}, {[]string{"-"}, "-", "-"},
		{[]string{"a", "b"}, "-", "a-b"}, {[]string{"a", "b", "c"}, "-", "a-b-c"}, {[]string{"b", "a"}, "-", "b-a"},
		{[]string{"a", "b", "c"}, "", "abc"}, {[]string{"a", "b", "c"}, ", ", "a, b, c"}, {[]string{"ab", "cd"}, "\n", "ab\ncd"},
		{[]string{"", ""}, "-", "-"}, {[]string{"", "", ""}, "-", "--"}, {[]string{"", "", ""}, "", ""}, {[]string{"", ""}, "ab", "ab"},
		{[]string{"", "a"}, "-", "-a"}, {[]string{"a", ""}, "-", "a-"}, {[]string{"", "a", ""}, "-", "-a-"}, {[]string{"a", "", "b"}, "-", "a--b"},
		{[]string{"a-b", "-"}, "-", "a-b--"}, {[]string{"a", "a"}, "a", "aaa"},
		{[]string{"\xff", "\u00e9"}, "\x00", "\xff\x00\u00e9"}, {[]string{"\xc3", "\xa9"}, "", "\u00e9"}, {[]string{"x", "y"}, "\x80\xff", "x\x80\xffy"},
		{[]string{"x", "y"}, "\u20ac", "x\u20acy"},
	}
	for _, c := range cases {
		g := guardTexts(c.parts)
		if got := impl.JoinText(g.slice, c.separator); got != c.want {
			t.Errorf("JoinText(%q, %q) = %q, want %q", c.parts, c.separator, got, c.want)
		}
		g.check(t, "JoinText")
	}
}

func TestJoinTextOfManyParts(t *testing.T) {
	for _, separator := range []string{"", " ", ", ", "\x00", "\xff", "\u20ac"} {
		want := ""
		for i, part := range texts() {
			if i > 0 {
				want += separator
			}
			want += part
		}
		if got := impl.JoinText(texts(), separator); got != want {
			t.Errorf("JoinText of all texts with %q is wrong", separator)
		}
	}
}

func TestSplitLines(t *testing.T) {
	cases := []struct {
		s    string
		want []string
	}{
		{"", nil}, {"\n", []string{""}}, {"\n\n", []string{"", ""}}, {"\n\n\n", []string{"", "", ""}},
		{"x", []string{"x"}}, {"x\n", []string{"x"}}, {"x\n\n", []string{"x", ""}}, {"x\n\n\n", []string{"x", "", ""}},
		{"\nx", []string{"", "x"}}, {"\n\nx", []string{"", "", "x"}}, {"\nx\n", []string{"", "x"}},
		{"x\ny", []string{"x", "y"}}, {"x\ny\n", []string{"x", "y"}}, {"x\n\ny\n", []string{"x", "", "y"}}, {"x\n\ny", []string{"x", "", "y"}},
		{" ", []string{" "}}, {"x\n ", []string{"x", " "}}, {" \n", []string{" "}}, {"no line feed", []string{"no line feed"}},
		// Only the line feed divides lines.
		{"x\r\ny\r\n", []string{"x\r", "y\r"}}, {"x\ry", []string{"x\ry"}}, {"\r", []string{"\r"}}, {"x\n\r", []string{"x", "\r"}},
		{"x\vy\fz", []string{"x\vy\fz"}}, {"x\u0085y\u2028z", []string{"x\u0085y\u2028z"}}, {"x\\ny", []string{"x\\ny"}},
		{"\x00\n\x00", []string{"\x00", "\x00"}}, {"\xff\n\xfe\n", []string{"\xff", "\xfe"}}, {"\u00e9\n\u20ac", []string{"\u00e9", "\u20ac"}},
	}
	for _, c := range cases {
		if got := impl.SplitLines(c.s); !slices.Equal(got, c.want) {
			t.Errorf("SplitLines(%q) = %q, want %q", c.s, got, c.want)
		}
	}
	for _, s := range texts() {
		want := partsOf(s, 10)
		if want[len(want)-1] == "" {
			want = want[:len(want)-1]
		}
		if got := impl.SplitLines(s); !slices.Equal(got, want) {
			t.Errorf("SplitLines(%.40q) = %.40q, want %.40q", s, got, want)
		}
	}
}

func TestWords(t *testing.T) {
	cases := []struct {
		line string
		want []string
	}{
		{"", nil}, {" ", nil}, {"  ", nil}, {strings.Repeat(" ", 400), nil},
		{"a", []string{"a"}}, {"abc", []string{"abc"}}, {" a", []string{"a"}}, {"a ", []string{"a"}}, {"   a   ", []string{"a"}},
		{"a b", []string{"a", "b"}}, {"a  b", []string{"a", "b"}}, {"  a   bc    d ", []string{"a", "bc", "d"}}, {"b a b", []string{"b", "a", "b"}},
		// Only the space divides words.
		{"a\tb", []string{"a\tb"}}, {"\t", []string{"\t"}}, {" \t ", []string{"\t"}}, {"a\nb c", []string{"a\nb", "c"}}, {"\n", []string{"\n"}}, {"a \r\n", []string{"a", "\r\n"}},
		{"a\u00a0b", []string{"a\u00a0b"}}, {"a\u2003b \u3000", []string{"a\u2003b", "\u3000"}}, {"a\x00b \x00", []string{"a\x00b", "\x00"}}, {"\v \f", []string{"\v", "\f"}},
		{"\xff \xfe", []string{"\xff", "\xfe"}}, {" \u00e9  \u20ac", []string{"\u00e9", "\u20ac"}}, {"\xa0\x85 \xe2", []string{"\xa0\x85", "\xe2"}},
	}
	for _, c := range cases {
		if got := impl.Words(c.line); !slices.Equal(got, c.want) {
			t.Errorf("Words(%q) = %q, want %q", c.line, got, c.want)
		}
	}
	for _, s := range texts() {
		want := slices.DeleteFunc(partsOf(s, 32), func(part string) bool { return part == "" })
		if got := impl.Words(s); !slices.Equal(got, want) {
			t.Errorf("Words(%.40q) = %.40q, want %.40q", s, got, want)
		}
	}
}

func TestIsName(t *testing.T) {
	names := []string{
		"a", "z", "m", "a0", "z9", "a1b2", "aa", "zz", "n0000", "abcdefghijkl", "mnopqrstuvwx", "yz0123456789", "a99999999999",
	}
	for _, s := range names {
		if !impl.IsName(s) {
			t.Errorf("IsName(%q) = false", s)
		}
	}
	others := []string{
		"", "abcdefghijklm", "a012345678901", strings.Repeat("a", 24), strings.Repeat("a", 400),
		"0", "9", "1a", "0a", "9z", "12", "012345678901", "0123456789012",
		"A", "Z", "aB", "Ab", "aZ", "ABC", "nameX", "nAme", "abcdefghijkL",
		" ", "a ", " a", "a b", "a\n", "\na", "a\x00", "\x00", "\x00a", "a_b", "a-b", "_a", "a.b", "a+", "a\t",
		"`", "{", "/", ":", "@", "[", "a`", "a{", "a/", "a:", "a@", "a[", "z{", "a9:",
		"\x80", "\xff", "a\x80", "a\xff", "\xffa", "a\xe1", "\xe1",
		"\u00e9", "a\u00e9", "\u00e9a", "\uff41", "a\uff11", "a\u0663", "\u0430", "a\u00b2", "\ufffd", "a\ufffd", "\u017f", "\u212a",
		// These have at most 12 characters and more than 12 bytes, or 12 bytes and a character of several bytes.
		"abcdefghijk\u00e9", "abcdefghij\u00e9", "\u00e9\u00e9\u00e9\u00e9\u00e9\u00e9", "a\u20ac\u20ac\u20ac\u20ac",
		// Characters whose numbers end in the byte of a letter or of a digit.
		"\u0161", "\u0161a", "a\u0131", "\U00010061",
	}
	for _, s := range others {
		if impl.IsName(s) {
			t.Errorf("IsName(%q) = true", s)
		}
	}
}

func TestIsNameWithEveryByte(t *testing.T) {
	for _, c := range everyByte() {
		letter := 'a' <= c && c <= 'z'
		inside := letter || '0' <= c && c <= '9'
		b := string([]byte{c})
		cases := []struct {
			s    string
			want bool
		}{
			{b, letter}, {b + "a", letter}, {b + "abcdefghijk", letter}, {b + "abcdefghijkl", false},
			{"a" + b, inside}, {"a" + b + "z", inside}, {"abcde" + b + "fghij", inside}, {"abcdefghijk" + b, inside}, {"abcdefghijkl" + b, false},
			{"1" + b, false}, {b + b, letter}, {strings.Repeat(b, 12), letter}, {strings.Repeat(b, 13), false},
		}
		for _, x := range cases {
			if got := impl.IsName(x.s); got != x.want {
				t.Errorf("IsName(%q) = %v", x.s, got)
			}
		}
	}
}

func TestIsNameOfEveryLength(t *testing.T) {
	for length := 0; length <= 40; length++ {
		want := 1 <= length && length <= 12
		for _, s := range []string{strings.Repeat("k", length), ("a" + strings.Repeat("7", 40))[:length]} {
			if got := impl.IsName(s); got != want {
				t.Errorf("IsName(%q), of %d characters, = %v", s, length, got)
			}
		}
	}
}

func TestCutAt(t *testing.T) {
	cases := []struct {
		s             string
		separator     byte
		before, after string
		found         bool
	}{
		{"", ':', "", "", false}, {"xyz", ':', "xyz", "", false}, {"x", ':', "x", "", false}, {"x;y", ':', "x;y", "", false},
		{":", ':', "", "", true}, {"::", ':', "", ":", true}, {":::", ':', "", "::", true},
		{"x:y", ':', "x", "y", true}, {"x:y:z", ':', "x", "y:z", true}, {"x::z", ':', "x", ":z", true},
		{":x", ':', "", "x", true}, {"x:", ':', "x", "", true}, {":x:", ':', "", "x:", true}, {"xy:::", ':', "xy", "::", true},
		{"", 0, "", "", false}, {"ab", 0, "ab", "", false}, {"a\x00b", 0, "a", "b", true}, {"\x00", 0, "", "", true},
		{"a b", ' ', "a", "b", true}, {"a\nb\n", 10, "a", "b\n", true},
		{"\xff", 255, "", "", true}, {"a\xffb\xff", 255, "a", "b\xff", true}, {"a\xfe", 255, "a\xfe", "", false}, {"\x7f\x00", 255, "\x7f\x00", "", false},
		{"a\x80b", 128, "a", "b", true}, {"\xff:\xfe", ':', "\xff", "\xfe", true}, {"\xff\xfe", ':', "\xff\xfe", "", false},
		// The separator is a byte, also within a character, and not the character with its number.
		{"\u00e9", 0xe9, "\u00e9", "", false}, {"\u00e9", 0xc3, "", "\xa9", true}, {"\u00e9", 0xa9, "\xc3", "", true}, {"\u20ac", 0x82, "\xe2", "\xac", true},
		{"\u00e9=\u20ac=", '=', "\u00e9", "\u20ac=", true}, {"\ufffd\xffx", 255, "\ufffd", "x", true},
	}
	for _, c := range cases {
		before, after, found := impl.CutAt(c.s, c.separator)
		if before != c.before || after != c.after || found != c.found {
			t.Errorf("CutAt(%q, %d) = %q, %q, %v, want %q, %q, %v", c.s, c.separator, before, after, found, c.before, c.after, c.found)
		}
	}
}

func TestCutAtEveryByte(t *testing.T) {
	for _, s := range texts() {
		for _, separator := range everyByte() {
			parts := partsOf(s, separator)
			wantFound := len(parts) > 1
			wantAfter := strings.Join(parts[1:], string([]byte{separator}))
			before, after, found := impl.CutAt(s, separator)
			if before != parts[0] || after != wantAfter || found != wantFound {
				t.Errorf("CutAt(%.40q, %d) = %.40q, %.40q, %v", s, separator, before, after, found)
			}
		}
	}
}

func TestContainsText(t *testing.T) {
	list := []string{"one", "two words", "three", "two words", "\xff", "\u00e9", "a:b"}
	cases := []struct {
		list []string
		s    string
		want bool
	}{
		{nil, "", false}, {nil, "a", false}, {[]string{}, "", false}, {[]string{}, "a", false},
		{[]string{""}, "", true}, {[]string{""}, "a", false}, {[]string{"a"}, "", false}, {[]string{"a", ""}, "", true}, {[]string{"a", "b"}, "", false},
		{[]string{"a"}, "a", true}, {[]string{"a"}, "b", false}, {[]string{"a"}, "A", false}, {[]string{"a", "b"}, "b", true}, {[]string{"a", "b"}, "ab", false},
		{list, "one", true}, {list, "three", true}, {list, "two words", true}, {list, "\xff", true}, {list, "\u00e9", true}, {list, "a:b", true},
		{list, "on", false}, {list, "ne", false}, {list, "n", false}, {list, "two", false}, {list, "words", false}, {list, "hree", false}, {list, "one ", false}, {list, " one", false},
		{list, "onetwo words", false}, {list, "ones", false}, {list, "ONE", false}, {list, "", false}, {list, "\xfe", false}, {list, "\ufffd", false}, {list, "\xc3", false}, {list, "e\u0301", false},
		{[]string{"\ufffd"}, "\xff", false}, {[]string{"a\x00"}, "a", false}, {[]string{"a"}, "a\x00", false},
	}
	for _, c := range cases {
		g := guardTexts(c.list)
		if got := impl.ContainsText(g.slice, c.s); got != c.want {
			t.Errorf("ContainsText(%q, %q) = %v", c.list, c.s, got)
		}
		// The elements of the array that are not in the list are not found either.
		if impl.ContainsText(g.slice, "spare") || impl.ContainsText(g.slice, "front") || impl.ContainsText(g.slice, "before") {
			t.Errorf("ContainsText(%q, ..) finds what is not in the list", c.list)
		}
		g.check(t, "ContainsText")
	}
	for at, s := range texts() {
		if !impl.ContainsText(texts(), s) || impl.ContainsText(texts(), s+"\x00no") || impl.ContainsText(texts()[:min(at, 50)], s) && at < 50 {
			t.Errorf("ContainsText of the text %d, %.40q", at, s)
		}
	}
}

// Writing to all memory of one result must not be seen in another one of the same text.
func TestListsOfTextsAreNewMemory(t *testing.T) {
	divisions := []struct {
		name   string
		divide func(string) []string
	}{
		{"SplitText", func(s string) []string { return impl.SplitText(s, ' ') }},
		{"SplitLines", impl.SplitLines},
		{"Words", impl.Words},
	}
	for _, d := range divisions {
		for _, s := range texts() {
			first, second := d.divide(s), d.divide(s)
			kept := slices.Clone(second)
			whole := first[:cap(first)]
			for i := range whole {
				whole[i] = "overwritten"
			}
			if !slices.Equal(second, kept) || !slices.Equal(d.divide(s), kept) {
				t.Errorf("the results of %s(%.40q) share memory", d.name, s)
			}
		}
	}
}
