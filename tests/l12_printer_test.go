package tests

import (
	"bytes"
	"math"
	"math/rand"
	"slices"
	"strconv"
	"strings"
	"testing"

	"loop.example/g00518/impl"
)

// checkPrint tests that the value has the encoding that the pieces make up, and that it is read from it again.
func checkPrint(t *testing.T, d impl.Description, rule int, v impl.Value, pieces ...string) {
	t.Helper()
	want := strings.Join(pieces, "")
	for _, w := range []impl.Value{v, plainCopy(v, false), plainCopy(v, true)} {
		b, ok := impl.PrintValue(d, rule, w)
		if !ok || string(b) != want {
			t.Fatalf("PrintValue of %q with %+v = %q, %v, want %q", impl.FormatRule(d, rule), w, b, ok, want)
		}
		if length := impl.EncodedLength(d, rule, w); length != len(want) {
			t.Fatalf("EncodedLength of %q with %+v = %d, want %d", impl.FormatRule(d, rule), w, length, len(want))
		}
		if rule == len(d.Rules)-1 {
			checkPrintedFile(t, d, w, want)
		}
	}
	checkReading(t, d, rule, want, 0, v, len(want), impl.ReadOK)
}

func checkPrintedFile(t *testing.T, d impl.Description, v impl.Value, want string) {
	t.Helper()
	b, ok := impl.PrintFile(d, v)
	if !ok || string(b) != want {
		t.Fatalf("PrintFile of\n%s\nwith %+v = %q, %v, want %q", impl.FormatDescription(d), v, b, ok, want)
	}
	if w, next, code := impl.ReadFile(d, b); code != impl.ReadOK || next != len(b) || !impl.EqualValues(v, w) {
		t.Fatalf("ReadFile of\n%s\nwith %q = %+v, %d, %d, want %+v", impl.FormatDescription(d), b, w, next, code, v)
	}
}

// checkUnprinted tests a value that is not printed: one that is not valid, or too long.
func checkUnprinted(t *testing.T, d impl.Description, rule int, v impl.Value) {
	t.Helper()
	if b, ok := impl.PrintValue(d, rule, v); ok || len(b) != 0 {
		t.Fatalf("PrintValue of the rule %d of\n%s\nwith %+v = %q, %v", rule, impl.FormatDescription(d), v, b, ok)
	}
	if length := impl.EncodedLength(d, rule, v); length != -1 {
		t.Fatalf("EncodedLength of the rule %d of\n%s\nwith %+v = %d", rule, impl.FormatDescription(d), v, length)
	}
	if rule != len(d.Rules)-1 {
		return
	}
	if b, ok := impl.PrintFile(d, v); ok || len(b) != 0 {
		t.Fatalf("PrintFile of\n%s\nwith %+v = %q, %v", impl.FormatDescription(d), v, b, ok)
	}
}

// integerEnds has, for the fields of every integer, numbers with their encodings: the least, the greatest, and others whose bytes differ.
func integerEnds() map[string]map[int]string {
	return map[string]map[int]string{
		"1":        {0: "\x00", 1: "\x01", 92: "\\", 127: "\x7f", 128: "\x80", 254: "\xfe", 255: "\xff"},
		"2":        {0: "\x00\x00", 1: "\x00\x01", 255: "\x00\xff", 256: "\x01\x00", 258: "\x01\x02", 65280: "\xff\x00", 65535: "\xff\xff"},
		"3":        {0: "\x00\x00\x00", 1: "\x00\x00\x01", 256: "\x00\x01\x00", 66051: "\x01\x02\x03", 16777215: "\xff\xff\xff"},
		"4":        {0: "\x00\x00\x00\x00", 1: "\x00\x00\x00\x01", 65536: "\x00\x01\x00\x00", 16909060: "\x01\x02\x03\x04", 2147483648: "\x80\x00\x00\x00", 4294967295: "\xff\xff\xff\xff"},
		"2 little": {0: "\x00\x00", 1: "\x01\x00", 255: "\xff\x00", 256: "\x00\x01", 258: "\x02\x01", 65280: "\x00\xff", 65535: "\xff\xff"},
		"3 little": {0: "\x00\x00\x00", 1: "\x01\x00\x00", 256: "\x00\x01\x00", 66051: "\x03\x02\x01", 16777215: "\xff\xff\xff"},
		"4 little": {0: "\x00\x00\x00\x00", 1: "\x01\x00\x00\x00", 65536: "\x00\x00\x01\x00", 16909060: "\x04\x03\x02\x01", 2147483648: "\x00\x00\x00\x80", 4294967295: "\xff\xff\xff\xff"},
	}
}

// checkInteger tests PrintInteger.
func checkInteger(t *testing.T, d impl.Description, rule int, n int, want string, wantOK bool) {
	t.Helper()
	if b, ok := impl.PrintInteger(d, rule, n); string(b) != want || ok != wantOK {
		t.Fatalf("PrintInteger of the rule %d of\n%s\nwith %d = %q, %v, want %q, %v", rule, impl.FormatDescription(d), n, b, ok, want, wantOK)
	}
}

func TestPrintIntegers(t *testing.T) {
	limits := []int{255, 65535, 16777215, 4294967295, 65535, 16777215, 4294967295}
	for at, fields := range integerFields() {
		alone := described(t, "i integer "+fields)
		d := described(t, "other integer 4", "more integer 3 little", "i integer "+fields, "next integer 1")
		for n, encoding := range integerEnds()[fields] {
			checkPrint(t, alone, 0, num(n), encoding)
			checkPrint(t, d, 2, num(n), encoding)
			checkInteger(t, alone, 0, n, encoding, true)
			checkInteger(t, d, 2, n, encoding, true)
		}
		limit := limits[at]
		for _, n := range []int{1, limit / 3, limit - 1, limit} {
			checkInteger(t, d, 2, n, plainTag(d.Rules[2], n), true)
			checkPrint(t, d, 2, num(n), plainTag(d.Rules[2], n))
		}
		for _, n := range []int{-1, -2, -limit, limit + 1, limit + 2, 2*limit + 1, limit + 1<<32 + 1, 1 << 32, 1 << 62, math.MinInt, math.MaxInt} {
			checkInteger(t, alone, 0, n, "", false)
			checkInteger(t, d, 2, n, "", false)
			checkUnprinted(t, d, 2, num(n))
			checkUnprinted(t, alone, 0, num(n))
		}
	}
}

func TestPrintIntegersOfOtherRules(t *testing.T) {
	for _, d := range append(validDescriptions(), startDescriptions(40)...) {
		for rule, r := range d.Rules {
			for _, n := range []int{math.MinInt, -1, 0, 1, 7, 255, 256, 65535, 65536, math.MaxInt} {
				limit := -1
				if r.Kind == impl.KindInteger {
					limit = 1<<(8*r.Size) - 1
				}
				if 0 <= n && n <= limit {
					checkInteger(t, d, rule, n, plainTag(r, n), true)
				} else {
					checkInteger(t, d, rule, n, "", false)
				}
			}
		}
		for _, rule := range outsideIndexes(len(d.Rules)) {
			for _, n := range []int{-1, 0, 1, 255} {
				checkInteger(t, d, rule, n, "", false)
			}
		}
	}
	whole := manyRules(24).Rules
	for count := range whole {
		for rule := count; rule < len(whole); rule++ {
			checkInteger(t, impl.Description{Rules: whole[:count]}, rule, 0, "", false)
		}
	}
}

func TestPrintConsts(t *testing.T) {
	for _, content := range []string{"\x00", "P", "\\", "\xff", "PK", "\n\n", "\x00\x00\x00", "0123456789abcdef", strings.Repeat("\x00", 16), strings.Repeat("\\", 16)} {
		d := described(t, "other const 07", "c const "+impl.FormatHex([]byte(content)), "next fixed 1", "q sequence a:c b:other c:c")
		checkPrint(t, d, 1, impl.Value{}, content)
		checkPrint(t, d, 3, times(3, impl.Value{}), content, "\x07", content)
		checkPrint(t, described(t, "c const "+impl.FormatHex([]byte(content))), 0, impl.Value{}, content)
		for _, v := range []impl.Value{num(1), raw(content), parts(impl.Value{})} {
			checkUnprinted(t, d, 1, v)
		}
	}
}

func TestPrintFixed(t *testing.T) {
	for _, content := range []string{"\x00", "a", "\\", "\xff\xfe", "abc", "\\\\\n\x00", strings.Repeat("0123456789abcdef", 4)} {
		size := len(content)
		d := described(t, "g fixed 1", "f fixed "+strconv.Itoa(size), "h fixed 64")
		checkPrint(t, d, 1, raw(content), content)
		checkPrint(t, described(t, "f fixed "+strconv.Itoa(size)), 0, raw(content), content)
		for _, v := range []impl.Value{{}, raw(content + "a"), raw(content[1:]), zeros(size + 256), num(size), {Number: 1, Bytes: []byte(content)}, {Bytes: []byte(content), Items: make([]impl.Value, 1)}} {
			checkUnprinted(t, d, 1, v)
		}
	}
}

func TestPrintSized(t *testing.T) {
	for _, c := range []struct{ fields, length, content string }{
		{"1", "\x00", ""}, {"1", "\x01", "\x00"}, {"1", "\x03", "a\\\xff"}, {"1", "\\", strings.Repeat("\n", 92)}, {"1", "\xff", strings.Repeat("abcde", 51)},
		{"2", "\x00\x00", ""}, {"2", "\x00\x05", "\\\\\n\x00a"}, {"2", "\x01\x00", strings.Repeat("ab", 128)}, {"2", "\x01\x02", strings.Repeat("ab", 129)}, {"2", "\x01\x8e", strings.Repeat("a", 398)},
		{"3", "\x00\x00\x00", ""}, {"3", "\x00\x00\x02", "bc"}, {"3", "\x00\x01\x00", strings.Repeat("bc", 128)}, {"3", "\x00\x01\x8d", strings.Repeat("b", 397)},
		{"4", "\x00\x00\x00\x00", ""}, {"4", "\x00\x00\x00\x02", "bc"}, {"4", "\x00\x00\x01\x8c", strings.Repeat("bcde", 99)},
		{"2 little", "\x00\x00", ""}, {"2 little", "\x05\x00", "\\\\\n\x00a"}, {"2 little", "\x00\x01", strings.Repeat("ab", 128)}, {"2 little", "\x02\x01", strings.Repeat("ab", 129)}, {"2 little", "\x8e\x01", strings.Repeat("a", 398)},
		{"3 little", "\x00\x00\x00", ""}, {"3 little", "\x02\x00\x00", "bc"}, {"3 little", "\x00\x01\x00", strings.Repeat("bc", 128)}, {"3 little", "\x8d\x01\x00", strings.Repeat("b", 397)},
		{"4 little", "\x00\x00\x00\x00", ""}, {"4 little", "\x02\x00\x00\x00", "bc"}, {"4 little", "\x8c\x01\x00\x00", strings.Repeat("bcde", 99)},
	} {
		d := described(t, "other integer 1", "n integer "+c.fields, "s sized n", "none fixed 1")
		checkPrint(t, d, 2, raw(c.content), c.length, c.content)
		checkPrint(t, described(t, "n integer "+c.fields, "s sized n"), 1, raw(c.content), c.length, c.content)
		for _, v := range []impl.Value{num(len(c.content) + 1), num(-1), {Number: 1, Bytes: []byte(c.content)}, {Bytes: []byte(c.content), Items: make([]impl.Value, 1)}, zeros(401), zeros(65536)} {
			checkUnprinted(t, d, 2, v)
		}
	}
	d := described(t, "n integer 1", "s sized n")
	for count := range 260 {
		content := strings.Repeat("s", count)
		if count <= 255 {
			checkPrint(t, d, 1, raw(content), string([]byte{byte(count)}), content)
		} else {
			checkUnprinted(t, d, 1, raw(content))
		}
	}
}

// Contents of terminated bytes with their canonical encodings.
func escaped() []struct{ terminator, content, encoding string } {
	return []struct{ terminator, content, encoding string }{
		{"\n", "", "\n"}, {"\n", "a", "a\n"}, {"\n", "abc", "abc\n"}, {"\n", "\x00\xff", "\x00\xff\n"}, {"\x00", "abc\n", "abc\n\x00"}, {"\xff", "\x00", "\x00\xff"},
		// The escape stands before the terminator and before itself alone.
		{"\n", "\n", "\\\n\n"}, {"\n", "\\", "\\\\\n"}, {"\n", "a\nb", "a\\\nb\n"}, {"\n", "a\\b", "a\\\\b\n"}, {"\n", "\n\n", "\\\n\\\n\n"}, {"\n", "\\\\", "\\\\\\\\\n"}, {"\n", "\\\n", "\\\\\\\n\n"}, {"\n", "\n\\", "\\\n\\\\\n"}, {"\n", "\\n", "\\\\n\n"},
		{"\n", "\nabc", "\\\nabc\n"}, {"\n", "abc\n", "abc\\\n\n"}, {"\n", "\\abc", "\\\\abc\n"}, {"\n", "abc\\", "abc\\\\\n"}, {"\n", "\n\\\n\\a", "\\\n\\\\\\\n\\\\a\n"},
		{"\x00", "\x00", "\\\x00\x00"}, {"\x00", "n", "n\x00"}, {"\x00", "\n\\", "\n\\\\\x00"}, {"\xff", "\xff\\a", "\\\xff\\\\a\xff"}, {"a", "a\\b", "\\a\\\\ba"}, {"[", "[\\]", "\\[\\\\]["}, {"]", "[\\]", "[\\\\\\]]"}, {"]", "[]", "[\\]]"},
	}
}

func TestPrintTerminated(t *testing.T) {
	for _, c := range escaped() {
		d := described(t, "other terminated 07", "s terminated "+impl.FormatHex([]byte(c.terminator)))
		checkPrint(t, d, 1, raw(c.content), c.encoding)
		checkPrint(t, impl.Description{Rules: d.Rules[1:]}, 0, raw(c.content), c.encoding)
		for _, v := range []impl.Value{num(1), {Number: 1, Bytes: []byte(c.content)}, {Bytes: []byte(c.content), Items: make([]impl.Value, 1)}, zeros(401)} {
			checkUnprinted(t, d, 1, v)
		}
	}
	// No description has a rule with the escape as its terminator.
	d := impl.Description{Rules: []impl.Rule{{Name: "s", Kind: impl.KindTerminated, Bytes: []byte{impl.Escape}}}}
	for _, v := range []impl.Value{{}, raw("a"), raw("\\"), raw("a\\b")} {
		checkUnprinted(t, d, 0, v)
	}
}

func checkEscaped(t *testing.T, content string, terminator byte, want string) {
	t.Helper()
	if got := impl.EscapeBytes([]byte(content), terminator); string(got) != want {
		t.Fatalf("EscapeBytes(%q, %q) = %q, want %q", content, terminator, got, want)
	}
}

func TestEscapeBytes(t *testing.T) {
	for _, c := range escaped() {
		checkEscaped(t, c.content, c.terminator[0], c.encoding)
	}
	if got := impl.EscapeBytes(nil, 7); string(got) != "\x07" {
		t.Errorf("EscapeBytes of nil = %q", got)
	}
	// The escape as the terminator has one escape before it, like any other terminator.
	for content, want := range map[string]string{"": "\\", "a": "a\\", "\\": "\\\\\\", "\\\\": "\\\\\\\\\\", "a\\b": "a\\\\b\\", "\n\x00\xff": "\n\x00\xff\\", "ab\\": "ab\\\\\\"} {
		checkEscaped(t, content, impl.Escape, want)
	}
	// Every byte as the terminator, every byte as the content.
	for terminator := range 256 {
		for c := range 256 {
			content, end := string([]byte{byte(c)}), string([]byte{byte(terminator)})
			want := content + end
			if c == terminator || c == '\\' {
				want = "\\" + want
			}
			checkEscaped(t, content, byte(terminator), want)
			escaped := strings.TrimSuffix(want, end)
			checkEscaped(t, content+content+content, byte(terminator), escaped+escaped+escaped+end)
		}
	}
	// There is no limit on the number of bytes.
	for _, count := range []int{200, 399, 400, 401, 1000, 1 << 20} {
		checkEscaped(t, strings.Repeat("a", count), '\n', strings.Repeat("a", count)+"\n")
		checkEscaped(t, strings.Repeat("\n", count), '\n', strings.Repeat("\\\n", count)+"\n")
		checkEscaped(t, strings.Repeat("a\\", count), '\n', strings.Repeat("a\\\\", count)+"\n")
	}
}

// All short contents: what is escaped is what replacing says, and read again.
func TestEscapeAllShortContents(t *testing.T) {
	for _, terminator := range []string{"\n", "a", "\x00"} {
		replacer := strings.NewReplacer(terminator, "\\"+terminator, "\\", "\\\\")
		allTexts("\\\nab", 7, func(content string) {
			encoding := replacer.Replace(content) + terminator
			checkEscaped(t, content, terminator[0], encoding)
			checkTerminated(t, encoding, 0, terminator[0], content, len(encoding), true)
			checkTerminated(t, "\\"+encoding+"b", 1, terminator[0], content, len(encoding)+1, true)
		})
	}
	allTexts("\\\na", 7, func(content string) {
		checkEscaped(t, content, impl.Escape, strings.ReplaceAll(content, "\\", "\\\\")+"\\")
	})
}

func TestPrintArrays(t *testing.T) {
	counts := map[string][]string{
		"1": {"\x00", "\x01", "\x03", "\x28"}, "2": {"\x00\x00", "\x00\x01", "\x00\x03", "\x00\x28"}, "3": {"\x00\x00\x00", "\x00\x00\x01", "\x00\x00\x03", "\x00\x00\x28"}, "4": {"\x00\x00\x00\x00", "\x00\x00\x00\x01", "\x00\x00\x00\x03", "\x00\x00\x00\x28"},
		"2 little": {"\x00\x00", "\x01\x00", "\x03\x00", "\x28\x00"}, "3 little": {"\x00\x00\x00", "\x01\x00\x00", "\x03\x00\x00", "\x28\x00\x00"}, "4 little": {"\x00\x00\x00\x00", "\x01\x00\x00\x00", "\x03\x00\x00\x00", "\x28\x00\x00\x00"},
	}
	for _, fields := range integerFields() {
		d := described(t, "i integer "+fields, "byte integer 1", "w integer 2 little", "c const 504b", "s sized byte", "a array i byte", "aw array i w", "ac array i c", "as array i s", "az array byte i", "last array i aw")
		heads := counts[fields]
		for _, rule := range []int{5, 6, 7, 8, 10} {
			checkPrint(t, d, rule, impl.Value{}, heads[0])
		}
		checkPrint(t, d, 5, parts(num(0)), heads[1], "\x00")
		checkPrint(t, d, 5, parts(num(7), num(255), num(0)), heads[2], "\x07", "\xff", "\x00")
		checkPrint(t, d, 6, parts(num(256), num(1), num(513)), heads[2], "\x00\x01", "\x01\x00", "\x01\x02")
		checkPrint(t, d, 7, times(3, impl.Value{}), heads[2], "PK", "PK", "PK")
		checkPrint(t, d, 8, parts(raw("ab"), impl.Value{}, raw("c")), heads[2], "\x02ab", "\x00", "\x01c")
		checkPrint(t, d, 5, times(40, num(41)), heads[3], strings.Repeat("\x29", 40))
		checkPrint(t, d, 6, times(40, num(258)), heads[3], strings.Repeat("\x02\x01", 40))
		checkPrint(t, d, 9, parts(num(0), num(3), num(40)), "\x03", heads[0], heads[2], heads[3])
		checkPrint(t, d, 10, parts(impl.Value{}, parts(num(258), num(3), num(4)), parts(num(5))), heads[2], heads[0], heads[2], "\x02\x01\x03\x00\x04\x00", heads[1], "\x05\x00")
		for _, count := range []int{41, 42, 256, 65536} {
			checkUnprinted(t, d, 5, times(count, num(1)))
			checkUnprinted(t, d, 7, times(count, impl.Value{}))
			checkUnprinted(t, d, 10, parts(times(count, num(1))))
		}
		checkUnprinted(t, d, 5, parts(num(256)))
		for _, v := range []impl.Value{num(1), raw("a"), parts(num(65536)), parts(num(1), num(-1)), parts(num(1), raw("a")), {Number: 1, Items: []impl.Value{num(1)}}, {Bytes: []byte{1}, Items: []impl.Value{num(1)}}} {
			checkUnprinted(t, d, 5, v)
			checkUnprinted(t, d, 10, parts(parts(num(1)), v))
		}
	}
}

func TestPrintSequences(t *testing.T) {
	d := described(t,
		"n integer 1", "w integer 2", "f fixed 3", "s sized n", "c const 504b", "z terminated 00", "one sequence a:n", "two sequence a:w b:n", "again sequence a:f b:f",
		"eight sequence a:c b:n c:s d:z e:w f:n g:two h:c", "deep sequence a:one b:eight",
	)
	checkPrint(t, d, 6, parts(num(255)), "\xff")
	checkPrint(t, d, 7, parts(num(258), num(3)), "\x01\x02", "\x03")
	checkPrint(t, d, 8, parts(raw("abc"), raw("def")), "abc", "def")
	eight := parts(impl.Value{}, num(9), raw("xy"), raw("\x00"), num(65535), num(0), parts(num(1), num(2)), impl.Value{})
	checkPrint(t, d, 9, eight, "PK", "\x09", "\x02", "xy", "\\\x00\x00", "\xff\xff", "\x00", "\x00\x01", "\x02", "PK")
	checkPrint(t, d, 10, parts(parts(num(4)), eight), "\x04", "PK", "\x09", "\x02", "xy", "\\\x00\x00", "\xff\xff", "\x00", "\x00\x01", "\x02", "PK")
	for _, v := range []impl.Value{{}, num(1), parts(num(1)), parts(num(1), num(256)), parts(num(65536), num(1)), parts(num(1), num(2), num(3)), parts(parts(num(1)), num(2)), tagged(1, num(1), num(2))} {
		checkUnprinted(t, d, 7, v)
		checkUnprinted(t, d, 9, parts(impl.Value{}, num(9), raw("xy"), raw("\x00"), num(65535), num(0), v, impl.Value{}))
		checkUnprinted(t, d, 10, parts(parts(num(4)), v))
	}
}

func TestPrintChoices(t *testing.T) {
	for _, fields := range integerFields() {
		ends := integerEnds()[fields]
		list := []int{}
		for n := range ends {
			list = append(list, n)
		}
		slices.Sort(list)
		kids, line := []string{"c", "f", "n", "a", "s", "q", "o", "f"}, "k choice i"
		values := []impl.Value{{}, raw("ab"), num(7), parts(num(1), num(2)), raw("a\n"), parts(num(8), raw("xy")), parts(impl.Value{}), raw("cd")}
		encodings := []string{"PK", "ab", "\x07", "\x02\x01\x02", "a\\\n\n", "\x08xy", "\x01PK", "cd"}
		for at, tag := range list {
			line += " " + strconv.Itoa(tag) + ":" + kids[at]
		}
		d := described(t, "n integer 1", "f fixed 2", "c const 504b", "a array n n", "s terminated 0a", "q sequence a:n b:f", "o option c", "i integer "+fields, line, "kk choice n 5:c 200:k")
		for at, tag := range list {
			checkPrint(t, d, 8, tagged(tag, values[at]), ends[tag], encodings[at])
			checkPrint(t, d, 9, tagged(200, tagged(tag, values[at])), "\xc8", ends[tag], encodings[at])
			for _, v := range []impl.Value{tagged(tag), num(tag), tagged(tag, values[at], values[at]), tagged(tag, impl.Value{Number: -1}), tagged(tag+2, values[at]), tagged(-1, values[at]), tagged(-tag-1, values[at]), tagged(tag+1<<32, values[at]), {Number: tag, Bytes: []byte{1}, Items: []impl.Value{values[at]}}} {
				checkUnprinted(t, d, 8, v)
				checkUnprinted(t, d, 9, tagged(200, v))
			}
			for _, other := range []int{0, 5, 199, 201} {
				checkUnprinted(t, d, 9, tagged(other, tagged(tag, values[at])))
			}
		}
		checkPrint(t, d, 9, tagged(5, impl.Value{}), "\x05", "PK")
	}
}

func TestPrintOptions(t *testing.T) {
	d := described(t, "n integer 2", "f fixed 2", "c const 01", "on option n", "of option f", "oc option c", "oo option on", "ooo option oo", "q sequence a:on b:oo c:of")
	for rule := 3; rule <= 7; rule++ {
		checkPrint(t, d, rule, impl.Value{}, "\x00")
		for _, v := range []impl.Value{num(1), num(0x5c), raw("\x01"), {Number: 1, Items: []impl.Value{{}}}, parts(num(1), num(1)), times(2, impl.Value{}), times(256, impl.Value{}), times(257, impl.Value{}), parts(num(-1)), parts(raw("a"))} {
			checkUnprinted(t, d, rule, v)
		}
	}
	checkPrint(t, d, 3, parts(num(258)), "\x01", "\x01\x02")
	checkPrint(t, d, 3, parts(num(0)), "\x01", "\x00\x00")
	checkPrint(t, d, 4, parts(raw("ab")), "\x01", "ab")
	checkPrint(t, d, 5, parts(impl.Value{}), "\x01", "\x01")
	checkPrint(t, d, 6, parts(impl.Value{}), "\x01", "\x00")
	checkPrint(t, d, 6, parts(parts(num(3))), "\x01", "\x01", "\x00\x03")
	checkPrint(t, d, 7, parts(parts(impl.Value{})), "\x01", "\x01", "\x00")
	checkPrint(t, d, 7, parts(parts(parts(num(65535)))), "\x01", "\x01", "\x01", "\xff\xff")
	checkPrint(t, d, 8, parts(impl.Value{}, impl.Value{}, impl.Value{}), "\x00", "\x00", "\x00")
	checkPrint(t, d, 8, parts(parts(num(1)), parts(parts(num(2))), parts(raw("\x02\x03"))), "\x01", "\x00\x01", "\x01", "\x01", "\x00\x02", "\x01", "\x02\x03")
}

func TestPrintChecked(t *testing.T) {
	d := described(t, "n integer 2", "f fixed 3", "o option n", "s terminated 00", "c const ffff", "pn checked n", "pf checked f", "po checked o", "ps checked s", "pc checked c", "pp checked pn", "ppp checked pp", "q sequence a:n b:pn c:pp", "pq checked q")
	checkPrint(t, d, 5, parts(num(0)), "\x00\x00", "\x00")
	checkPrint(t, d, 5, parts(num(258)), "\x01\x02", "\x03")
	// Sums of 255, 256 and 257, and greater ones.
	checkPrint(t, d, 5, parts(num(254<<8|1)), "\xfe\x01", "\xff")
	checkPrint(t, d, 5, parts(num(254<<8|2)), "\xfe\x02", "\x00")
	checkPrint(t, d, 5, parts(num(254<<8|3)), "\xfe\x03", "\x01")
	checkPrint(t, d, 5, parts(num(65535)), "\xff\xff", "\xfe")
	checkPrint(t, d, 6, parts(raw("\x80\x80\x01")), "\x80\x80\x01", "\x01")
	checkPrint(t, d, 6, parts(raw("\xff\xff\xff")), "\xff\xff\xff", "\xfd")
	checkPrint(t, d, 7, parts(impl.Value{}), "\x00", "\x00")
	checkPrint(t, d, 7, parts(parts(num(515))), "\x01", "\x02\x03", "\x06")
	// The sum is that of the encoding: escapes and the terminator count.
	checkPrint(t, d, 8, parts(impl.Value{}), "\x00", "\x00")
	checkPrint(t, d, 8, parts(raw("\x01")), "\x01\x00", "\x01")
	checkPrint(t, d, 8, parts(raw("\x00")), "\\\x00\x00", "\x5c")
	checkPrint(t, d, 8, parts(raw("\\")), "\\\\\x00", "\xb8")
	checkPrint(t, d, 8, parts(raw("\\\x00\xb8")), "\\\\\\\x00\xb8\x00", "\xcc")
	checkPrint(t, d, 9, parts(impl.Value{}), "\xff\xff", "\xfe")
	checkPrint(t, d, 10, parts(parts(num(258))), "\x01\x02", "\x03", "\x06")
	checkPrint(t, d, 10, parts(parts(num(65535))), "\xff\xff", "\xfe", "\xfc")
	checkPrint(t, d, 11, parts(parts(parts(num(258)))), "\x01\x02", "\x03", "\x06", "\x0c")
	// Each sum begins where its own kid begins.
	q := parts(num(1), parts(num(2)), parts(parts(num(3))))
	checkPrint(t, d, 12, q, "\x00\x01", "\x00\x02", "\x02", "\x00\x03", "\x03", "\x06")
	checkPrint(t, d, 13, parts(q), "\x00\x01", "\x00\x02", "\x02", "\x00\x03", "\x03", "\x06", "\x11")
	for _, v := range []impl.Value{{}, num(1), parts(num(65536)), parts(num(-1)), parts(num(1), num(3)), parts(raw("\x01\x02")), tagged(3, num(258)), {Bytes: []byte{3}, Items: []impl.Value{num(258)}}} {
		checkUnprinted(t, d, 5, v)
		checkUnprinted(t, d, 10, parts(v))
		checkUnprinted(t, d, 13, parts(parts(num(1), v, parts(parts(num(3))))))
		checkUnprinted(t, d, 13, parts(parts(num(1), parts(num(2)), parts(v))))
	}
}

func TestPrintManyLevels(t *testing.T) {
	d := levels(t)
	checkPrint(t, d, 14, fullValue(), fullPieces()...)
	v := fullValue()
	b := strings.Join(fullPieces(), "")
	checkPrint(t, d, 10, v.Items[0].Items[0].Items[0].Items[0], b[3:21])
	checkPrint(t, d, 7, v.Items[0].Items[0].Items[0].Items[0].Items[1].Items[0].Items[0], b[7:20])
	checkPrint(t, d, 11, v.Items[0].Items[0].Items[0], b[1:len(b)-3])
	// With another number or byte in it, a value has other sums on all levels around it.
	v.Items[0].Items[0].Items[0].Items[3].Items[1].Items[0].Items[0].Items[0].Number = 254
	changed := []byte(b)
	at := strings.Index(b, "jkl")
	changed[at+6], changed[at+7], changed[len(b)-1] = 254, 0x2d, 0xe3
	checkPrint(t, d, 14, v, string(changed))
}

// plainPrinting is the canonical encoding of a valid value; it is for values that are not too large.
func plainPrinting(d impl.Description, rule int, v impl.Value) string {
	return plainEncoding(d, rule, v, func(content string, end string) string {
		return strings.ReplaceAll(strings.ReplaceAll(content, "\\", "\\\\"), end, "\\"+end) + end
	})
}

// plainEncoding is an encoding of a valid value as the document says it, kind by kind; escape writes the content of a terminated, with its end.
func plainEncoding(d impl.Description, rule int, v impl.Value, escape func(content string, end string) string) string {
	r, encoding := d.Rules[rule], ""
	number := func(n int) string { return plainTag(d.Rules[r.Kids[0]], n) }
	items := func(rules ...int) {
		for at, kid := range rules {
			encoding += plainEncoding(d, kid, v.Items[at], escape)
		}
	}
	switch r.Kind {
	case impl.KindInteger:
		return plainTag(r, v.Number)
	case impl.KindConst:
		return string(r.Bytes)
	case impl.KindFixed:
		return string(v.Bytes)
	case impl.KindSized:
		return number(len(v.Bytes)) + string(v.Bytes)
	case impl.KindTerminated:
		return escape(string(v.Bytes), string(r.Bytes))
	case impl.KindArray:
		items(slices.Repeat(r.Kids[1:], len(v.Items))...)
		return number(len(v.Items)) + encoding
	case impl.KindSequence:
		items(r.Kids...)
	case impl.KindChoice:
		items(r.Kids[1+slices.Index(r.Tags, v.Number)])
		return number(v.Number) + encoding
	case impl.KindOption:
		items(slices.Repeat(r.Kids, len(v.Items))...)
		return string([]byte{byte(len(v.Items))}) + encoding
	case impl.KindChecked:
		items(r.Kids...)
		return withSum(encoding)
	}
	return encoding
}

// checkPlainPrint tests a value against plainPrinting, and returns whether it is printed.
func checkPlainPrint(t *testing.T, d impl.Description, rule int, v impl.Value) bool {
	t.Helper()
	if !plainValid(d, rule, v) {
		checkUnprinted(t, d, rule, v)
		return false
	}
	encoding := plainPrinting(d, rule, v)
	if len(encoding) > 400 {
		checkUnprinted(t, d, rule, v)
		return false
	}
	checkPrint(t, d, rule, v, encoding)
	return true
}

func TestPrintRandomValues(t *testing.T) {
	random := rand.New(rand.NewSource(12))
	kinds, long, invalid := map[int]int{}, 0, 0
	for _, m := range madeValues(400) {
		if checkPlainPrint(t, m.d, m.rule, m.v) {
			kinds[m.d.Rules[m.rule].Kind]++
			least, greatest := impl.MinSize(m.d, m.rule), impl.MaxSize(m.d, m.rule)
			if length := impl.EncodedLength(m.d, m.rule, m.v); length < least || length > greatest {
				t.Fatalf("an encoding of %q has %d bytes, but the bounds are %d and %d", impl.FormatRule(m.d, m.rule), length, least, greatest)
			}
		} else {
			long++
		}
		for range 6 {
			w := plainCopy(m.v, false)
			spoil(random, &w)
			if !checkPlainPrint(t, m.d, m.rule, w) {
				invalid++
			}
		}
		// The value is one of other rules only by chance.
		for rule := range m.d.Rules {
			checkPlainPrint(t, m.d, rule, m.v)
		}
	}
	for kind := 1; kind <= 10; kind++ {
		if kinds[kind] < 15 {
			t.Errorf("only %d values of the kind %d", kinds[kind], kind)
		}
	}
	if long < 30 || invalid < 3000 {
		t.Errorf("%d values were too long, and %d spoiled ones not printed", long, invalid)
	}
}

// checkUnprintedFaults makes each part of a value that is printed invalid in turn, in all ways: it is not printed then.
func checkUnprintedFaults(t *testing.T, d impl.Description, rule int, v impl.Value) {
	t.Helper()
	checkPlainPrint(t, d, rule, v)
	for at, kid := range plainRules(d, rule, v) {
		for _, fault := range faults()[d.Rules[kid].Kind] {
			w := plainCopy(v, false)
			fault(everyPartOf(&w)[at])
			checkUnprinted(t, d, rule, w)
		}
	}
}

func TestPartsThatAreNotPrinted(t *testing.T) {
	checkUnprintedFaults(t, levels(t), 14, fullValue())
	for _, m := range madeValues(30) {
		if len(everyPartOf(&m.v)) < 60 {
			checkUnprintedFaults(t, m.d, m.rule, m.v)
		}
	}
	// A part of a value is no value of the rules around it.
	v, d := fullValue(), levels(t)
	for _, part := range everyPartOf(&v) {
		for rule := range d.Rules {
			checkPlainPrint(t, d, rule, *part)
		}
	}
}

// A long rule has values whose encodings have a given number of bytes, from 380 on.
type longRule struct {
	name   string
	lines  []string
	valued func(count int) impl.Value
}

// filled returns a value with as many bytes.
func filled(count int) impl.Value { return raw(strings.Repeat("s", count)) }

func longRules() []longRule {
	sized := []string{"n integer 1", "w integer 2", "s sized w", "f fixed 64"}
	with := func(lines ...string) []string { return append(slices.Clone(sized), lines...) }
	// The first parts are the same for all lengths; the last one, with two bytes before its content, fills up.
	return []longRule{
		{"sized", with("long sized w"), func(count int) impl.Value { return filled(count - 2) }},
		{"sized by four bytes", []string{"v integer 4 little", "long sized v"}, func(count int) impl.Value { return filled(count - 4) }},
		{"terminated", with("long terminated 0a"), func(count int) impl.Value { return filled(count - 1) }},
		{"escapes of the terminator", with("long terminated 0a"), func(count int) impl.Value {
			return raw(strings.Repeat("\n", 150) + strings.Repeat("a", count-301))
		}},
		{"escapes of the escape", with("long terminated 0a"), func(count int) impl.Value {
			return raw(strings.Repeat("a", (count+1)%2) + strings.Repeat("\\", (count-1)/2))
		}},
		{"escapes at the end", with("long terminated 00"), func(count int) impl.Value {
			return raw(strings.Repeat("a", count-21) + strings.Repeat("\x00\\", 5))
		}},
		{"array of long items", with("long array n s"), func(count int) impl.Value { return parts(filled(98), filled(148), filled(count-253)) }},
		{"array of forty items", with("long array w s"), func(count int) impl.Value { return parts(append(times(39, filled(7)).Items, filled(count-355))...) }},
		{"array of fixed items", with("q sequence a:f b:s", "long array n q"), func(count int) impl.Value {
			return parts(append(times(4, parts(zeros(64), filled(10))).Items, parts(zeros(64), filled(count-371)))...)
		}},
		{"sequence", with("long sequence a:f b:f c:f d:f e:f f:s g:n"), func(count int) impl.Value {
			return parts(zeros(64), zeros(64), zeros(64), zeros(64), zeros(64), filled(count-323), num(7))
		}},
		{"sequence with the long part first", with("c const 0123456789", "long sequence a:s b:c"), func(count int) impl.Value { return parts(filled(count-7), impl.Value{}) }},
		{"choice", with("long choice w 1:n 300:s"), func(count int) impl.Value { return tagged(300, filled(count-4)) }},
		{"option", with("long option s"), func(count int) impl.Value { return parts(filled(count - 3)) }},
		{"checked", with("long checked s"), func(count int) impl.Value { return parts(filled(count - 3)) }},
		{"checked within checked", with("p checked s", "pp checked p", "long checked pp"), func(count int) impl.Value { return parts(parts(parts(filled(count - 5)))) }},
		{"many levels", with("o option s", "p checked o", "k choice n 9:p", "q sequence a:n b:k c:w", "a array w q", "z terminated 00", "long sequence a:z b:a"), func(count int) impl.Value {
			row := func(count int) impl.Value {
				return parts(num(255), tagged(9, parts(parts(filled(count-8)))), num(65535))
			}
			return parts(raw("\x00\\"), parts(row(100), row(count-107)))
		}},
	}
}

// around returns values around a value of the last rule: it is in an item, a part, an alternative and so on, on one level more.
func around(t *testing.T, lines []string, v impl.Value) []made {
	list := []made{}
	for _, c := range []struct {
		lines []string
		v     impl.Value
	}{
		{nil, v}, {[]string{"o9 option long"}, parts(v)}, {[]string{"p9 checked long"}, parts(v)}, {[]string{"i9 integer 1", "k9 choice i9 5:long"}, tagged(5, v)}, {[]string{"i9 integer 4", "a9 array i9 long"}, parts(v)}, {[]string{"q9 sequence a:long"}, parts(v)},
		{[]string{"i9 integer 1", "q9 sequence a:i9 b:long c:i9"}, parts(num(1), v, num(2))}, {[]string{"o9 option long", "p9 checked o9", "pp9 checked p9"}, parts(parts(parts(v)))},
	} {
		d := described(t, append(slices.Clone(lines), c.lines...)...)
		list = append(list, made{d, len(d.Rules) - 1, c.v})
	}
	return list
}

func TestPrintLongValues(t *testing.T) {
	for _, c := range longRules() {
		printed, refused := 0, 0
		for count := 388; count <= 401; count++ {
			v := c.valued(count)
			for at, m := range around(t, c.lines, v) {
				if !plainValid(m.d, m.rule, m.v) {
					t.Fatalf("%s: %+v is not valid", c.name, m.v)
				}
				encoding := plainPrinting(m.d, m.rule, m.v)
				if len(encoding) != count+[]int{0, 1, 1, 1, 4, 0, 2, 3}[at] {
					t.Fatalf("%s: the encoding has %d bytes, not %d", c.name, len(encoding), count)
				}
				if len(encoding) <= 400 {
					checkPrint(t, m.d, m.rule, m.v, encoding)
					printed++
				} else {
					checkUnprinted(t, m.d, m.rule, m.v)
					refused++
				}
			}
		}
		if printed < 80 || refused < 16 {
			t.Errorf("%s: %d printed, %d refused", c.name, printed, refused)
		}
	}
}

func TestPrintValuesThatAreMuchTooLong(t *testing.T) {
	d := described(t, "n integer 1", "w integer 2", "s sized w", "z terminated 0a", "f fixed 64", "as array n s", "af array n f", "az array n z", "aas array n as", "q sequence a:as b:s", "k choice n 1:az 2:aas", "o option k", "p checked o", "all sequence a:p b:q")
	long := zeros(64)
	for _, c := range []struct {
		rule int
		v    impl.Value
	}{
		{2, zeros(399)}, {2, zeros(400)}, {3, filled(400)}, {3, raw(strings.Repeat("\n", 200))}, {3, raw(strings.Repeat("\n", 400))}, {3, raw(strings.Repeat("\\", 400))},
		{5, times(40, filled(400))}, {5, times(40, filled(9))}, {5, times(2, filled(200))}, {6, times(7, long)}, {6, times(40, long)}, {7, times(40, raw(strings.Repeat("\\", 5)))}, {7, times(40, raw(strings.Repeat("\n", 400)))},
		{8, times(40, times(40, filled(400)))}, {8, times(40, times(40, impl.Value{}))}, {9, parts(times(3, filled(100)), filled(100))}, {9, parts(impl.Value{}, filled(400))}, {9, parts(times(40, filled(400)), impl.Value{})},
		{10, tagged(1, times(40, filled(400)))}, {11, parts(tagged(2, times(40, times(40, filled(400)))))}, {12, parts(parts(tagged(1, times(5, filled(80)))))}, {13, parts(parts(parts(tagged(1, times(5, filled(80))))), parts(impl.Value{}, impl.Value{}))}, {13, parts(parts(impl.Value{}), parts(times(40, filled(400)), filled(400)))},
	} {
		if !plainValid(d, c.rule, c.v) {
			t.Fatalf("%+v is not valid", c.v)
		}
		checkUnprinted(t, d, c.rule, c.v)
	}
	// The items of the greatest arrays.
	checkPrint(t, d, 6, times(6, long), "\x06", strings.Repeat("\x00", 384))
	checkPrint(t, d, 8, times(40, times(4, impl.Value{})), "\x28", strings.Repeat("\x04"+strings.Repeat("\x00\x00", 4), 40))
	checkUnprinted(t, d, 8, times(40, times(5, impl.Value{})))
}

// Items that share memory make values of more parts than can be walked, and values that are parts of themselves: printing them ends.
func TestPrintValuesOfVeryManyParts(t *testing.T) {
	for _, c := range []struct {
		line  string
		count int
	}{{"array r0 %", 40}, {eightParts, 8}, {"sequence a:% b:%", 2}} {
		d := described(t, chain("integer 1", c.line)...)
		v := num(1)
		for rule := 1; rule < 24; rule++ {
			v = times(c.count, v)
			if encoded := math.Pow(float64(c.count), float64(rule)); encoded > 400 {
				checkManyParts(t, d, rule, v)
			}
		}
	}
	d := described(t, chain("integer 1", "option %")...)
	v := parts(impl.Value{})
	v.Items[0].Items = v.Items
	for rule := range d.Rules {
		checkManyParts(t, d, rule, v)
	}
	d = described(t, chain("integer 1", "array r0 %")...)
	v = times(40, impl.Value{})
	for at := range v.Items {
		v.Items[at].Items = v.Items
	}
	for rule := range d.Rules {
		checkManyParts(t, d, rule, v)
	}
}

// checkManyParts is checkUnprinted for a value that cannot be written in a message.
func checkManyParts(t *testing.T, d impl.Description, rule int, v impl.Value) {
	t.Helper()
	b, ok := impl.PrintValue(d, rule, v)
	if length := impl.EncodedLength(d, rule, v); ok || len(b) != 0 || length != -1 {
		t.Fatalf("PrintValue of the rule %d of\n%s\nwith very many parts = %q, %v, and EncodedLength %d", rule, impl.FormatDescription(d), b, ok, length)
	}
	if b, ok = impl.PrintFile(impl.Description{Rules: d.Rules[:rule+1]}, v); ok || len(b) != 0 {
		t.Fatalf("PrintFile of the rule %d of\n%s\nwith very many parts = %q, %v", rule, impl.FormatDescription(d), b, ok)
	}
}

// Values may have one more wrong part behind what is already too long, or before it.
func TestPrintValuesThatAreWrongAndTooLong(t *testing.T) {
	d := described(t, "n integer 1", "w integer 2", "s sized w", "a array n s", "q sequence a:n b:a c:n")
	long := times(40, filled(100))
	checkUnprinted(t, d, 4, parts(num(256), long, num(1)))
	checkUnprinted(t, d, 4, parts(num(1), long, num(256)))
	checkUnprinted(t, d, 4, parts(num(1), long))
	checkUnprinted(t, d, 3, parts(append(long.Items, filled(401))...))
	checkUnprinted(t, d, 4, nested(100000, num(1)))
}

func TestPrintOverManyLevels(t *testing.T) {
	for line, v := range map[string]func(impl.Value) impl.Value{
		"checked %": func(v impl.Value) impl.Value { return parts(v) }, "option %": func(v impl.Value) impl.Value { return parts(v) }, "choice r0 200:% 201:r0": func(v impl.Value) impl.Value { return tagged(200, v) },
		"sequence a:%": func(v impl.Value) impl.Value { return parts(v) }, "sequence a:r0 b:%": func(v impl.Value) impl.Value { return parts(num(9), v) }, "array r0 %": func(v impl.Value) impl.Value { return parts(v) },
	} {
		d := described(t, chain("integer 1", line)...)
		whole := num(77)
		for rule := range d.Rules {
			if !checkPlainPrint(t, d, rule, whole) {
				t.Fatalf("%+v is not printed", whole)
			}
			whole = v(whole)
		}
		checkUnprinted(t, d, 23, whole)
	}
}

func TestPrintFiles(t *testing.T) {
	// The last rule describes files, not the one that uses most others.
	d := described(t, "n integer 1", "q sequence a:n b:n", "c const 504b")
	checkPrintedFile(t, d, impl.Value{}, "PK")
	for _, v := range []impl.Value{parts(num(1), num(2)), num(1)} {
		if b, ok := impl.PrintFile(d, v); ok || len(b) != 0 {
			t.Errorf("PrintFile of a value of another rule = %q, %v", b, ok)
		}
	}
	d = described(t, "n integer 1", "f fixed 2", "file sequence a:f b:n")
	checkPrintedFile(t, d, parts(raw("ab"), num(7)), "ab\x07")
	full := described(t, "n integer 2", "s sized n")
	checkPrintedFile(t, full, filled(398), "\x01\x8e"+strings.Repeat("s", 398))
	checkPrintedFile(t, full, filled(397), "\x01\x8d"+strings.Repeat("s", 397))
	checkUnprinted(t, full, 1, filled(399))
	// The value is that of each last rule in turn.
	d = allKinds()
	for count := 1; count <= len(d.Rules); count++ {
		v := plainDefault(d, count-1)
		checkPrintedFile(t, impl.Description{Rules: d.Rules[:count]}, v, plainPrinting(d, count-1, v))
	}
}

// checkSmallest tests SmallestFile; without a text, there is none.
func checkSmallest(t *testing.T, d impl.Description, want string, wantOK bool) {
	t.Helper()
	b, ok := impl.SmallestFile(d)
	if string(b) != want || ok != wantOK {
		t.Fatalf("SmallestFile of\n%s\n= %q, %v, want %q, %v", impl.FormatDescription(d), b, ok, want, wantOK)
	}
	if ok && !impl.IsFileOf(d, b) {
		t.Fatalf("SmallestFile of\n%s\n= %q, which is no file", impl.FormatDescription(d), b)
	}
}

func TestSmallestFiles(t *testing.T) {
	lines := []string{
		"byte integer 1", "word integer 2 little", "far integer 4", "magic const 504b", "id fixed 3", "text sized word", "line terminated 0a", "list array far id",
		"kind choice word 258:id 300:byte", "maybe option id", "sealed checked magic", "deep checked sealed", "last choice far 7:kind", "pair sequence a:text b:byte c:magic",
		"all sequence a:kind b:maybe c:sealed d:pair e:list f:text g:line h:magic", "file checked all",
	}
	all := "\x02\x01\x00\x00\x00" + "\x00" + "PK\x9b" + "\x00\x00\x00PK" + "\x00\x00\x00\x00" + "\x00\x00" + "\n" + "PK"
	for count, want := range []string{
		"\x00", "\x00\x00", "\x00\x00\x00\x00", "PK", "\x00\x00\x00", "\x00\x00", "\n", "\x00\x00\x00\x00", "\x02\x01\x00\x00\x00", "\x00", "PK\x9b", "PK\x9b\x36", "\x00\x00\x00\x07\x02\x01\x00\x00\x00", "\x00\x00\x00PK",
		// The sum of the last rule: 3 for the tag, 0x136 for the sealed part, 0x9b for the magic of the pair and 0x9b for the last one, and 0x0a.
		all, all + "\x79",
	} {
		checkSmallest(t, described(t, lines[:count+1]...), want, true)
	}
}

// The first alternative is taken, also where it is the longer one.
func TestSmallestFilesOfChoices(t *testing.T) {
	d := described(t, "n integer 1", "f fixed 2", "c const 504b", "s sized n", "k choice n 5:f 6:s 7:c", "kk choice n 0:k 1:n")
	checkSmallest(t, d, "\x00\x05\x00\x00", true)
	d = described(t, "n integer 1", "f fixed 2", "c const 504b", "s sized n", "k choice n 6:s 7:c", "kk choice n 0:n 1:k 255:f", "q sequence a:kk b:k")
	checkSmallest(t, d, "\x00\x00\x06\x00", true)
}

func TestSmallestFilesThatAreTooLong(t *testing.T) {
	for _, c := range []struct {
		lines []string
		count int
	}{
		{[]string{"f fixed 64", "h fixed 15", "q sequence a:f b:f c:f d:f e:f f:f g:h"}, 399},
		{[]string{"f fixed 64", "h fixed 16", "q sequence a:f b:f c:f d:f e:f f:f g:h"}, 400},
		{[]string{"f fixed 64", "h fixed 17", "q sequence a:f b:f c:f d:f e:f f:f g:h"}, 401},
		{[]string{"f fixed 64", "h fixed 14", "q sequence a:f b:f c:f d:f e:f f:f g:h", "p checked q"}, 399},
		{[]string{"f fixed 64", "h fixed 15", "q sequence a:f b:f c:f d:f e:f f:f g:h", "p checked q"}, 400},
		{[]string{"f fixed 64", "h fixed 16", "q sequence a:f b:f c:f d:f e:f f:f g:h", "p checked q"}, 401},
		{[]string{"f fixed 50", "q sequence a:f b:f c:f d:f e:f f:f g:f h:f"}, 400},
		{[]string{"f fixed 50", "q sequence a:f b:f c:f d:f e:f f:f g:f h:f", "r sequence a:q"}, 400},
		{[]string{"f fixed 50", "n integer 1", "q sequence a:f b:f c:f d:f e:f f:f g:f h:f", "r sequence a:q b:n"}, 401},
		{[]string{"f fixed 50", "n integer 1", "q sequence a:f b:f c:f d:f e:f f:f g:f h:f", "r option q"}, 1},
		{[]string{"f fixed 50", "n integer 1", "q sequence a:f b:f c:f d:f e:f f:f g:f h:f", "r array n q"}, 1},
		// The first alternative is too long, and the other is not; and the other way round.
		{[]string{"f fixed 50", "n integer 1", "q sequence a:f b:f c:f d:f e:f f:f g:f h:f", "k choice n 0:q 1:f"}, 401},
		{[]string{"f fixed 50", "n integer 1", "q sequence a:f b:f c:f d:f e:f f:f g:f h:f", "k choice n 0:f 1:q"}, 51},
		{[]string{"f fixed 57", "n integer 1", "q sequence a:f b:f c:f d:f e:f f:f g:f", "k choice n 0:q 1:f"}, 400},
		{[]string{"f fixed 49", "n integer 1", "k choice n 0:f 1:n", "q sequence a:k b:k c:k d:k e:k f:k g:k h:k"}, 400},
		{[]string{"f fixed 49", "n integer 1", "k choice n 0:f 1:n", "q sequence a:k b:k c:k d:k e:k f:k g:k h:k", "r sequence a:q b:n"}, 401},
		{[]string{"f fixed 64", "n integer 2", "z terminated 00", "s sized n", "q sequence a:f b:f c:f d:f e:f f:f g:s h:z", "r sequence a:q b:s c:s d:s e:s f:s"}, 397},
	} {
		d := described(t, c.lines...)
		v := plainDefault(d, len(d.Rules)-1)
		want := plainPrinting(d, len(d.Rules)-1, v)
		if len(want) != c.count {
			t.Fatalf("the smallest file of\n%s\nhas %d bytes", impl.FormatDescription(d), len(want))
		}
		if c.count > 400 {
			want = ""
		}
		checkSmallest(t, d, want, c.count <= 400)
	}
}

// A default value may have more parts than fit into any memory: it is too long.
func TestSmallestFilesOfVeryManyParts(t *testing.T) {
	for first, least := range map[string]string{"integer 1": "\x00", "const 07": "\x07", "fixed 1": "\x00", "terminated 0a": "\n", "fixed 64": strings.Repeat("\x00", 64)} {
		rules := described(t, chain(first, eightParts)...).Rules
		want := least
		for count := 1; count <= len(rules); count++ {
			checkSmallest(t, impl.Description{Rules: rules[:count]}, want, want != "")
			if want = strings.Repeat(want, 8); len(want) > 400 {
				want = ""
			}
		}
		lines := append(chain(first, eightParts)[:20], "n integer 1")
		checkSmallest(t, described(t, append(lines, "o option r19")...), "\x00", true)
		checkSmallest(t, described(t, append(lines, "a array n r19")...), "\x00", true)
		checkSmallest(t, described(t, append(lines, "k choice n 3:n 4:r19", "p checked k")...), "\x03\x00\x03", true)
		checkSmallest(t, described(t, append(lines, "k choice n 3:r19 4:n", "p checked k")...), "", false)
		checkSmallest(t, described(t, append(lines, "k choice n 3:r19 4:n", "o option k", "q sequence a:o b:n")...), "\x00\x00", true)
	}
}

func TestSmallestFilesOfRandomDescriptions(t *testing.T) {
	printed, long := 0, 0
	for _, d := range append(validDescriptions(), startDescriptions(600)...) {
		for count := 1; count <= len(d.Rules); count++ {
			cut := impl.Description{Rules: d.Rules[:count]}
			if leastParts(cut, true)[count-1] > 3000 {
				checkSmallest(t, cut, "", false)
				long++
				continue
			}
			want := plainPrinting(cut, count-1, plainDefault(cut, count-1))
			if len(want) > 400 {
				checkSmallest(t, cut, "", false)
				long++
			} else {
				checkSmallest(t, cut, want, true)
				printed++
			}
		}
	}
	if printed < 2000 || long < 20 {
		t.Errorf("%d smallest files, and %d that are too long", printed, long)
	}
}

// checkNothingPrinted tests everything about a rule that does not exist, or one of an invalid description.
func checkNothingPrinted(t *testing.T, d impl.Description, rule int) {
	t.Helper()
	for _, v := range someValues() {
		checkUnprinted(t, d, rule, v)
	}
	for _, n := range []int{math.MinInt, -1, 0, 1, 255, 256, math.MaxInt} {
		checkInteger(t, d, rule, n, "", false)
	}
}

func TestPrintNothing(t *testing.T) {
	eachMissingRule(func(d impl.Description, rule int) { checkNothingPrinted(t, d, rule) })
}

func TestPrintWithInvalidDescriptions(t *testing.T) {
	eachInvalidRule(func(d impl.Description, rule int) { checkNothingPrinted(t, d, rule) })
	for _, d := range invalidDescriptions() {
		for _, v := range someValues() {
			if b, ok := impl.PrintFile(d, v); ok || len(b) != 0 {
				t.Errorf("PrintFile of %+v with %+v = %q, %v", d, v, b, ok)
			}
		}
		checkSmallest(t, d, "", false)
	}
	for _, broken := range brokenBehind() {
		d := impl.Description{Rules: broken.Rules[:11]}
		checkPrint(t, d, 0, num(7), "\x07")
		checkInteger(t, d, 0, 7, "\x07", true)
	}
}

// Descriptions and values that are guarded lie in larger arrays: what is printed is the same.
func TestPrintingModifiesNothing(t *testing.T) {
	full := []made{{levels(t), 14, fullValue()}}
	for _, m := range append(full, madeValues(60)...) {
		d, v := guardDescription(m.d), guardValue(m.v)
		for rule := -1; rule <= len(m.d.Rules); rule++ {
			got, ok := impl.PrintValue(d.d, rule, v.v)
			want, wantOK := impl.PrintValue(m.d, rule, m.v)
			if !bytes.Equal(got, want) || ok != wantOK || impl.EncodedLength(d.d, rule, v.v) != impl.EncodedLength(m.d, rule, m.v) {
				t.Fatalf("with spare capacity, PrintValue of the rule %d with %+v = %q, %v, want %q, %v", rule, m.v, got, ok, want, wantOK)
			}
			impl.PrintInteger(d.d, rule, m.v.Number)
			impl.PrintInteger(d.d, rule, 7)
		}
		impl.PrintFile(d.d, v.v)
		impl.SmallestFile(d.d)
		for _, part := range everyPartOf(&v.v) {
			impl.EscapeBytes(part.Bytes, 's')
			impl.EscapeBytes(part.Bytes, impl.Escape)
		}
		d.check(t, "a function of chapter 12")
		v.check(t, "a function of chapter 12")
	}
}

// checkNewBytes overwrites printed bytes: neither other ones nor the arguments change, and the other way round.
func checkNewBytes(t *testing.T, name string, print func() []byte, checkArguments func(), overwriteArguments func()) {
	t.Helper()
	first, second := print(), print()
	want := string(second)
	if string(first) != want {
		t.Fatalf("two results of %s differ: %q and %q", name, first, second)
	}
	whole := first[:cap(first)]
	for at := range whole {
		whole[at] ^= 0x55
	}
	checkArguments()
	if string(second) != want || string(print()) != want {
		t.Fatalf("writing to a result of %s changed another one: %q", name, second)
	}
	written := string(whole)
	overwriteArguments()
	if string(second) != want || string(whole) != written {
		t.Fatalf("writing to the arguments of %s changed a result: %q", name, second)
	}
}

func TestPrintedBytesAreNewMemory(t *testing.T) {
	lists := []made{{levels(t), 14, fullValue()}, {allKinds(), 2, impl.Value{}}, {described(t, "c const 504b"), 0, impl.Value{}}, {described(t, "f fixed 5"), 0, raw("abcde")}, {described(t, "n integer 2", "s sized n"), 1, filled(398)}, {described(t, "n integer 2", "s sized n"), 1, filled(399)}}
	for _, m := range append(lists, madeValues(40)...) {
		for _, c := range []struct {
			name  string
			print func(d impl.Description, v impl.Value) []byte
		}{
			{"PrintValue", func(d impl.Description, v impl.Value) []byte {
				b, _ := impl.PrintValue(d, m.rule, v)
				return b
			}},
			{"PrintFile", func(d impl.Description, v impl.Value) []byte {
				b, _ := impl.PrintFile(impl.Description{Rules: d.Rules[:m.rule+1]}, v)
				return b
			}},
			{"PrintInteger", func(d impl.Description, v impl.Value) []byte {
				b, _ := impl.PrintInteger(d, 0, 7)
				return b
			}},
			{"SmallestFile", func(d impl.Description, v impl.Value) []byte {
				b, _ := impl.SmallestFile(impl.Description{Rules: d.Rules[:m.rule+1]})
				return b
			}},
			{"EscapeBytes", func(d impl.Description, v impl.Value) []byte { return impl.EscapeBytes(v.Bytes, 's') }},
		} {
			d, v := guardDescription(m.d), guardValue(m.v)
			checkNewBytes(t, c.name, func() []byte { return c.print(d.d, v.v) }, func() {
				d.check(t, "writing to a result of "+c.name)
				v.check(t, "writing to a result of "+c.name)
			}, func() {
				overwrite(d.arrays)
				overwrite(d.list)
				v.overwriteAll()
			})
		}
	}
	for _, content := range []string{"", "a", "abc", "\n", "a\\\nb", strings.Repeat("ab\n", 100)} {
		for _, terminator := range []byte{'\n', 'a', 0, impl.Escape} {
			g := guard([]byte(content))
			g.checkFresh(t, "EscapeBytes", impl.EscapeBytes(g.slice, terminator))
		}
	}
}

// Values are printed by the description as it is now, not as it was at an earlier call.
func TestPrintingFollowsTheDescription(t *testing.T) {
	d := described(t, "n integer 1", "c const 0102", "k choice n 3:c 4:n", "q sequence a:k b:n", "o option q")
	v := parts(parts(tagged(3, impl.Value{}), num(7)))
	for range 2 {
		checkPrint(t, d, 4, v, "\x01\x03\x01\x02\x07")
		checkInteger(t, d, 0, 7, "\x07", true)
	}
	d.Rules[1].Bytes[1] = 5
	checkPrint(t, d, 4, v, "\x01\x03\x01\x05\x07")
	d.Rules[2].Tags[0] = 2
	checkUnprinted(t, d, 4, v)
	v.Items[0].Items[0].Number = 2
	checkPrint(t, d, 4, v, "\x01\x02\x01\x05\x07")
	d.Rules[2].Kids[1] = 0
	checkPrint(t, d, 4, v, "\x01\x02\x00\x07")
	d.Rules[0].Size = 2
	checkPrint(t, d, 4, v, "\x01\x00\x02\x00\x00\x00\x07")
	d.Rules[0].Little = true
	checkPrint(t, d, 4, v, "\x01\x02\x00\x00\x00\x07\x00")
	checkInteger(t, d, 0, 7, "\x07\x00", true)
	d.Rules[4].Kind = impl.KindChecked
	checkPrint(t, d, 4, v, "\x02\x00\x00\x00\x07\x00\x09")
	checkSmallest(t, d, "\x02\x00\x00\x00\x00\x00\x02", true)
	d.Rules[0].Size = 5
	checkNothingPrinted(t, d, 4)
	checkSmallest(t, d, "", false)
}
