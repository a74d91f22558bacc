package tests

import (
	"bytes"
	"math/rand"
	"regexp"
	"slices"
	"strings"
	"testing"

	"loop.example/g00518/impl"
)

// checkCanonical tests everything about a file whose canonical form is known; that one is a file as well.
func checkCanonical(t *testing.T, d impl.Description, b string, want string) {
	t.Helper()
	got, ok := impl.CanonicalFile(d, []byte(b))
	if !ok || string(got) != want {
		t.Fatalf("CanonicalFile of\n%s\nwith %q = %q, %v, want %q", impl.FormatDescription(d), b, got, ok, want)
	}
	if is := impl.IsCanonical(d, []byte(b)); is != (b == want) {
		t.Fatalf("IsCanonical of\n%s\nwith %q = %v, but the canonical file is %q", impl.FormatDescription(d), b, is, want)
	}
	if count := impl.CountRedundant(d, []byte(b)); count != len(b)-len(want) || count < 0 {
		t.Fatalf("CountRedundant of\n%s\nwith %q = %d, but the canonical file is %q", impl.FormatDescription(d), b, count, want)
	}
	checkSame(t, d, b, want, true)
	checkSame(t, d, b, b, true)
	v, _, code := impl.ReadFile(d, []byte(b))
	w, _, codeOfWant := impl.ReadFile(d, got)
	if code != impl.ReadOK || codeOfWant != impl.ReadOK || plainText(v) != plainText(w) {
		t.Fatalf("the files %q and %q of\n%s\nhave the values %+v and %+v", b, got, impl.FormatDescription(d), v, w)
	}
	if b != want {
		checkCanonical(t, d, want, want)
	}
}

// checkSame tests SameFile in both orders.
func checkSame(t *testing.T, d impl.Description, a string, b string, want bool) {
	t.Helper()
	if there, back := impl.SameFile(d, []byte(a), []byte(b)), impl.SameFile(d, []byte(b), []byte(a)); there != want || back != want {
		t.Fatalf("SameFile of\n%s\nwith %q and %q = %v, the other way round %v, want %v", impl.FormatDescription(d), a, b, there, back, want)
	}
}

// checkNoFile tests everything about bytes that are no file; the others, which may be files, have no value in common with them.
func checkNoFile(t *testing.T, d impl.Description, b string, others ...string) {
	t.Helper()
	if got, ok := impl.CanonicalFile(d, []byte(b)); ok || len(got) != 0 {
		t.Fatalf("CanonicalFile of\n%s\nwith %q, which is no file, = %q, %v", impl.FormatDescription(d), b, got, ok)
	}
	if impl.IsCanonical(d, []byte(b)) {
		t.Fatalf("IsCanonical of\n%s\nwith %q, which is no file", impl.FormatDescription(d), b)
	}
	if count := impl.CountRedundant(d, []byte(b)); count != 0 {
		t.Fatalf("CountRedundant of\n%s\nwith %q, which is no file, = %d", impl.FormatDescription(d), b, count)
	}
	for _, other := range append(others, b, "", "\x00") {
		checkSame(t, d, b, other, false)
	}
}

// Terminated bytes with their canonical encodings.
func unescaped() []struct{ terminator, encoding, canonical string } {
	return []struct{ terminator, encoding, canonical string }{
		// No byte is escaped.
		{"\n", "\n", "\n"}, {"\n", "a\n", "a\n"}, {"\n", "abc\n", "abc\n"}, {"\n", "\x00\xff\n", "\x00\xff\n"}, {"\x00", "abc\n\x00", "abc\n\x00"}, {"\xff", "\x00\n\xff", "\x00\n\xff"},
		// One byte is escaped that needs no escape, several are, every one is.
		{"\n", "\\abc\n", "abc\n"}, {"\n", "a\\bc\n", "abc\n"}, {"\n", "ab\\c\n", "abc\n"}, {"\n", "\\a\n", "a\n"}, {"\n", "\\a\\bc\n", "abc\n"}, {"\n", "\\ab\\c\n", "abc\n"}, {"\n", "\\a\\b\\c\n", "abc\n"}, {"\n", "\\\x00\\\xff\n", "\x00\xff\n"}, {"\n", "\\n\n", "n\n"},
		// Only the terminator and the escape are escaped.
		{"\n", "\\\n\n", "\\\n\n"}, {"\n", "\\\\\n", "\\\\\n"}, {"\n", "\\\n\\\\\n", "\\\n\\\\\n"}, {"\n", "\\\\\\\n\n", "\\\\\\\n\n"}, {"\n", "a\\\nb\\\\c\n", "a\\\nb\\\\c\n"}, {"\n", "\\\\\\\\\\\\\n", "\\\\\\\\\\\\\n"}, {"\n", "\\\\n\n", "\\\\n\n"}, {"\n", "\\\n\\\n\\\n\n", "\\\n\\\n\\\n\n"},
		// Others are escaped as well, before and behind them.
		{"\n", "\\a\\\n\n", "a\\\n\n"}, {"\n", "\\\n\\a\n", "\\\na\n"}, {"\n", "\\a\\\\\n", "a\\\\\n"}, {"\n", "\\\\\\a\n", "\\\\a\n"}, {"\n", "\\\\\\\\\\a\n", "\\\\\\\\a\n"}, {"\n", "\\a\\\n\\b\\\\\\c\n", "a\\\nb\\\\c\n"}, {"\n", "\\n\\\n\\n\n", "n\\\nn\n"},
		// Another terminator is a byte like others.
		{"\x00", "\\\n\x00", "\n\x00"}, {"\x00", "\\\x00\\\n\x00", "\\\x00\n\x00"}, {"\x00", "\\0\x00", "0\x00"}, {"\xff", "\\\xff\\\\\\\xfe\xff", "\\\xff\\\\\xfe\xff"}, {"a", "\\b\\aa", "b\\aa"}, {"[", "\\[\\][", "\\[]["}, {"]", "\\[\\]]", "[\\]]"},
	}
}

func TestCanonicalTerminated(t *testing.T) {
	for _, c := range unescaped() {
		d := described(t, "other terminated 07", "z terminated "+impl.FormatHex([]byte(c.terminator)))
		checkCanonical(t, d, c.encoding, c.canonical)
		checkCanonical(t, impl.Description{Rules: d.Rules[1:]}, c.encoding, c.canonical)
		for count := range len(c.encoding) {
			checkNoFile(t, d, c.encoding[:count], c.encoding, c.canonical)
		}
		checkNoFile(t, d, c.encoding+"\\", c.encoding, c.canonical)
		checkNoFile(t, d, c.encoding+c.encoding, c.encoding, c.canonical)
	}
}

// All short bytes of an escape, a terminator and other bytes, against regular expressions.
func TestCanonicalFilesOfAllShortBytes(t *testing.T) {
	d := described(t, "z terminated 0a")
	file := regexp.MustCompile(`(?s)^(?:\\.|[^\\\n])*\n$`)
	escape := regexp.MustCompile(`(?s)\\(.)`)
	files, redundant := 0, 0
	allTexts("\\\nab", 8, func(b string) {
		if !file.MatchString(b) {
			checkNoFile(t, d, b, "a\n")
			return
		}
		want := escape.ReplaceAllStringFunc(b, func(pair string) string {
			if pair == "\\\n" || pair == "\\\\" {
				return pair
			}
			return pair[1:]
		})
		checkCanonical(t, d, b, want)
		files++
		if want != b {
			redundant++
		}
	})
	if files < 3800 || redundant < 2400 {
		t.Errorf("%d files, of which %d are not canonical", files, redundant)
	}
}

// A terminated within other rules; what is not one of its bytes stays, whatever it is.
func TestCanonicalFilesOfEveryKind(t *testing.T) {
	n, z, y := "n integer 1", "z terminated 0a", "y terminated 00"
	for _, c := range []struct {
		lines   []string
		b, want string
		count   int
	}{
		{[]string{n, z, "a array n z"}, "\x00", "\x00", 0},
		{[]string{n, z, "a array n z"}, "\x01\\x\n", "\x01x\n", 1},
		{[]string{n, z, "a array n z"}, "\x03\\a\n\n\\b\\\nc\n", "\x03a\n\nb\\\nc\n", 2},
		{[]string{n, z, "a array n z"}, "\x02\\\\\n\\\n\n", "\x02\\\\\n\\\n\n", 0},
		{[]string{"w integer 2 little", z, "a array w z"}, "\x02\x00\\a\n\\b\n", "\x02\x00a\nb\n", 2},
		{[]string{n, z, "a array n z", "aa array n a"}, "\x02\x01\\a\n\x02\\\\\n\\b\\c\n", "\x02\x01a\n\x02\\\\\nbc\n", 3},
		{[]string{z, "q sequence a:z"}, "\\a\n", "a\n", 1},
		{[]string{n, z, y, "q sequence a:z b:n c:y d:z"}, "\\a\n" + "\\" + "\\\n\x00" + "\\b\n", "a\n" + "\\" + "\n\x00" + "b\n", 3},
		{[]string{n, z, y, "q sequence a:z b:n c:y d:z"}, "\n" + "\n" + "\\\\\x00" + "\\\n\n", "\n" + "\n" + "\\\\\x00" + "\\\n\n", 0},
		{[]string{n, z, y, "k choice n 1:z 2:n 92:y"}, "\x01\\a\\\n\n", "\x01a\\\n\n", 1},
		{[]string{n, z, y, "k choice n 1:z 2:n 92:y"}, "\x02\\", "\x02\\", 0},
		{[]string{n, z, y, "k choice n 1:z 2:n 92:y"}, "\\" + "\\\n\x00", "\\" + "\n\x00", 1},
		{[]string{n, z, y, "k choice n 1:z 2:n 92:y"}, "\\" + "\\\x00\\\\\x00", "\\" + "\\\x00\\\\\x00", 0},
		{[]string{z, "o option z"}, "\x00", "\x00", 0},
		{[]string{z, "o option z"}, "\x01\\a\\b\n", "\x01ab\n", 2},
		{[]string{z, "o option z", "oo option o"}, "\x01\x01\\\x01\n", "\x01\x01\x01\n", 1},
		{[]string{n, "s sized n", z, "q sequence a:s b:z"}, "\x03\\a\n" + "\\b\n", "\x03\\a\n" + "b\n", 1},
		{[]string{"f fixed 2", z, "q sequence a:f b:z"}, "\\a" + "\\a\n", "\\a" + "a\n", 1},
		{[]string{"c const 5c61", z, "q sequence a:c b:z c:c"}, "\\a" + "\\a\n" + "\\a", "\\a" + "a\n" + "\\a", 1},
	} {
		checkCounted(t, described(t, c.lines...), c.b, c.want, c.count)
	}
}

// checkCounted is checkCanonical with the number of escapes that need not be there.
func checkCounted(t *testing.T, d impl.Description, b string, want string, count int) {
	t.Helper()
	checkCanonical(t, d, b, want)
	if got := impl.CountRedundant(d, []byte(b)); got != count {
		t.Fatalf("CountRedundant of\n%s\nwith %q = %d, want %d", impl.FormatDescription(d), b, got, count)
	}
}

// The sum of a checked is that of the canonical bytes, where a sum within it may have changed as well.
func TestCanonicalSums(t *testing.T) {
	y := "y terminated 00"
	for _, c := range []struct {
		lines   []string
		b, want string
		count   int
	}{
		{[]string{y, "p checked y"}, "\x00" + "\x00", "\x00" + "\x00", 0},
		{[]string{y, "p checked y"}, "A\x00" + "\x41", "A\x00" + "\x41", 0},
		{[]string{y, "p checked y"}, "\\A\x00" + "\x9d", "A\x00" + "\x41", 1},
		{[]string{y, "p checked y"}, "\\\x01\x00" + "\x5d", "\x01\x00" + "\x01", 1},
		{[]string{y, "p checked y"}, "\\\xa4\x00" + "\x00", "\xa4\x00" + "\xa4", 1},
		{[]string{y, "p checked y"}, "\\A\\B\\C\x00" + "\xda", "ABC\x00" + "\xc6", 3},
		{[]string{y, "p checked y"}, "\\\x00\x00" + "\x5c", "\\\x00\x00" + "\x5c", 0},
		{[]string{y, "p checked y"}, "\\\\\x00" + "\xb8", "\\\\\x00" + "\xb8", 0},
		{[]string{y, "p checked y", "pp checked p"}, "\\A\x00" + "\x9d" + "\x3a", "A\x00" + "\x41" + "\x82", 1},
		{[]string{y, "p checked y", "q sequence a:p b:y", "file checked q"}, "\\A\x00\x9d" + "\\B\x00" + "\xd8", "A\x00\x41" + "B\x00" + "\xc4", 2},
		{[]string{y, "p checked y", "q sequence a:y b:p c:y"}, "\\A\x00" + "\\B\x00\x9e" + "C\x00", "A\x00" + "B\x00\x42" + "C\x00", 2},
		{[]string{y, "n integer 1", "a array n y", "o option a", "k choice n 7:o", "p checked k"}, "\x07\x01\x02" + "\\A\x00" + "B\x00" + "\xe9", "\x07\x01\x02" + "A\x00" + "B\x00" + "\x8d", 1},
	} {
		checkCounted(t, described(t, c.lines...), c.b, c.want, c.count)
	}
	// The line of fullPieces with one escape more: the sum behind it and the last one are those with it.
	want := strings.Join(fullPieces(), "")
	b := strings.Replace(want, "\\\\\\\n\x00\n"+"\x56", "\\\\\\\n\\\x00\n"+"\xb2", 1)
	b = b[:len(b)-1] + "\x9d"
	checkCounted(t, levels(t), b, want, 1)
	checkNoFile(t, levels(t), b[:len(b)-1]+"\xe5", b, want)
}

// Files without a terminated are their own canonical form, also where they have bytes like an escape.
func TestCanonicalFilesWithoutTerminated(t *testing.T) {
	n, c := "n integer 1", "c const 5c61"
	for _, files := range []struct {
		lines []string
		files []string
	}{
		{[]string{n}, []string{"\x00", "\n", "\\", "\xff"}}, {[]string{"n integer 2"}, []string{"\x00\x00", "\\\\", "\\a", "\x01\x02"}}, {[]string{"n integer 3 little"}, []string{"\\\\\\", "\\a\n"}}, {[]string{"n integer 4 little"}, []string{"\\a\\\n", "\x01\x02\x03\x04"}},
		{[]string{"c const 50"}, []string{"P"}}, {[]string{"c const 5c615c5c0a"}, []string{"\\a\\\\\n"}}, {[]string{"f fixed 1"}, []string{"\x00", "\\"}}, {[]string{"f fixed 4"}, []string{"\\a\\b", "\\\\\\\\", "abc\n"}},
		{[]string{n, "s sized n"}, []string{"\x00", "\x02\\a", "\x04\\\\\\\\", "\\" + strings.Repeat("\\a", 46)}}, {[]string{"n integer 2 little", "s sized n"}, []string{"\x00\x00", "\x02\x00\\a", "\x5c\x01" + strings.Repeat("\\a\\\n", 87)}},
		{[]string{n, "a array n n"}, []string{"\x00", "\x02\\a", "\x04\\\\\\\\"}}, {[]string{n, c, "a array n c"}, []string{"\x00", "\x03\\a\\a\\a"}}, {[]string{n, c, "q sequence a:n b:c c:n"}, []string{"\\\\a\\", "\x00\\a\n"}},
		{[]string{n, c, "k choice n 10:n 92:c"}, []string{"\n\\", "\n\n", "\\\\a"}}, {[]string{c, "o option c", "oo option o"}, []string{"\x00", "\x01\x00", "\x01\x01\\a"}},
		{[]string{n, "p checked n"}, []string{"\x00\x00", "\\\\", "\n\n"}}, {[]string{n, "p checked n", "pp checked p"}, []string{"\\\\\xb8", "\x2e\x2e\x5c"}}, {[]string{c, "p checked c"}, []string{"\\a\xbd"}},
		// The last rule does not use a terminated that is there.
		{[]string{"z terminated 0a", n}, []string{"\\", "\n"}}, {[]string{"z terminated 0a", "o option z", "f fixed 3"}, []string{"\\a\n"}},
	} {
		d := described(t, files.lines...)
		for at, b := range files.files {
			checkCounted(t, d, b, b, 0)
			checkNoFile(t, d, b+"\\", files.files...)
			checkNoFile(t, d, b[:len(b)-1], files.files...)
			for _, other := range files.files[:at] {
				checkSame(t, d, b, other, false)
			}
		}
		if !impl.AllCanonical(d) {
			t.Errorf("AllCanonical of %q = false", files.lines)
		}
	}
}

func TestNoCanonicalFile(t *testing.T) {
	d := described(t, "n integer 1", "c const 504b", "z terminated 0a", "a array n z", "k choice n 1:z 2:a", "o option k", "p checked o", "q sequence a:c b:p")
	b, canonical := "PK\x01\x01\\a\n\xc9", "PK\x01\x01a\n\x6d"
	checkCounted(t, d, b, canonical, 1)
	for code, texts := range map[int][]string{
		impl.ErrShort:    {"", "P", "PK", "PK\x01", "PK\x01\x01", "PK\x01\x01\\a", "PK\x01\x01a\\\n", "PK\x01\x01\\a\n", "PK\x01\x01a\n", "PK\x01\x02\x01", "PK\x00"},
		impl.ErrConst:    {"Q", "PL", "PL\x01\x01\\a\n\xc9", "pK\x01\x01a\n\x6d"},
		impl.ErrTag:      {"PK\x01\x00\\a\n\xc8", "PK\x01\x03", "PK\x01\\\\a\n"},
		impl.ErrFlag:     {"PK\x02", "PK\\", "PK\x02\x01\\a\n\xca"},
		impl.ErrSum:      {"PK\x01\x01\\a\n\xc8", "PK\x01\x01\\a\n\x6d", "PK\x01\x01a\n\xc9", "PK\x00\x01", "PK\x01\x01\\\\\na"},
		impl.ErrCount:    {"PK\x01\x02\x29", "PK\x01\x02\\", "PK\x01\x02\xff\\a\n"},
		impl.ErrTrailing: {b + "\x00", b + "\\", canonical + "\\", canonical + "\n", b + b, canonical + canonical, b + canonical, "PK\x00\x00\x00", b + strings.Repeat("\\", 392)},
		impl.ErrRule:     {b + strings.Repeat("\\", 393), strings.Repeat("\\a", 201), strings.Repeat("P", 401), strings.Repeat(b, 1000)},
	} {
		for _, text := range texts {
			if _, _, got := impl.ReadFile(d, []byte(text)); got != code {
				t.Errorf("%q is read with the code %d, want %d", text, got, code)
			}
			checkNoFile(t, d, text, b, canonical, "PK\x00\x00")
		}
	}
}

func TestNoCanonicalFileOfInvalidDescriptions(t *testing.T) {
	for _, d := range invalidDescriptions() {
		for _, b := range []string{"", "\x00", "\n", "\\a\n", "PK", strings.Repeat("\x01", 400), strings.Repeat("\x01", 401)} {
			checkNoFile(t, d, b)
		}
		if impl.AllCanonical(d) {
			t.Errorf("AllCanonical of the invalid description %+v", d)
		}
	}
	// The escape is no terminator of a description.
	d := impl.Description{Rules: []impl.Rule{{Name: "z", Kind: impl.KindTerminated, Bytes: []byte{impl.Escape}}}}
	for _, b := range []string{"", "\\", "a\\", "\\\\", "\\\\\\"} {
		checkNoFile(t, d, b)
	}
}

func TestSameFile(t *testing.T) {
	d := described(t, "n integer 2", "z terminated 0a", "f fixed 2", "a array n z", "k choice n 1:z 2:n 92:f", "o option k", "q sequence a:n b:a c:o")
	// The files of each row have one value.
	rows := [][]string{
		{"\x00\x07\x00\x01a\n\x00", "\x00\x07\x00\x01\\a\n\x00"},
		{"\x00\x07\x00\x01\\\n\n\x00"},
		{"\x00\x07\x00\x01\\\\\n\x00"},
		{"\x00\x07\x00\x01\n\x00"},
		{"\x00\x07\x00\x01b\n\x00", "\x00\x07\x00\x01\\b\n\x00"},
		{"\x00\x07\x00\x01ab\n\x00", "\x00\x07\x00\x01\\ab\n\x00", "\x00\x07\x00\x01a\\b\n\x00", "\x00\x07\x00\x01\\a\\b\n\x00"},
		{"\x00\x07\x00\x01ba\n\x00", "\x00\x07\x00\x01\\ba\n\x00"},
		{"\x00\x08\x00\x01a\n\x00", "\x00\x08\x00\x01\\a\n\x00"},
		{"\x07\x00\x00\x01a\n\x00", "\x07\x00\x00\x01\\a\n\x00"},
		{"\x00\x07\x00\x00\x00"},
		{"\x00\x07\x00\x02a\na\n\x00", "\x00\x07\x00\x02\\a\na\n\x00", "\x00\x07\x00\x02a\n\\a\n\x00"},
		{"\x00\x07\x00\x02a\n\n\x00"},
		{"\x00\x07\x00\x02\na\n\x00", "\x00\x07\x00\x02\n\\a\n\x00"},
		{"\x00\x07\x00\x01a\n\x01\x00\x01a\n", "\x00\x07\x00\x01a\n\x01\x00\x01\\a\n", "\x00\x07\x00\x01\\a\n\x01\x00\x01a\n"},
		{"\x00\x07\x00\x01a\n\x01\x00\x01aa\n"},
		{"\x00\x07\x00\x01a\n\x01\x00\x02a\n"},
		{"\x00\x07\x00\x01a\n\x01\x00\x5ca\n"},
		{"\x00\x07\x00\x01a\n\x01\x00\x5c\\a"},
		{"\x00\x07\x00\x01a\n\x01\x00\x01\n"},
		{"\x00\x07\x00\x00\x01\x00\x01\n"},
	}
	for at, row := range rows {
		for _, a := range row {
			for other, list := range rows {
				for _, b := range list {
					checkSame(t, d, a, b, at == other)
				}
			}
			for _, b := range []string{"", a[:len(a)-1], a + "\x00", a + "\\", a[1:], a + strings.Repeat("\x00", 400)} {
				checkSame(t, d, a, b, false)
				checkSame(t, d, b, b, false)
			}
		}
	}
	// Bytes that differ and are no files have no values, equal ones either.
	checkSame(t, d, "", "\x00", false)
	checkSame(t, d, "\x00\x07\x00\x01a\n", "\x00\x07\x00\x01\\a\n", false)
}

func TestAllCanonical(t *testing.T) {
	z, n := "z terminated 0a", "n integer 1"
	for _, c := range []struct {
		lines []string
		want  bool
	}{
		// It is the last rule, or used directly by it.
		{[]string{z}, false}, {[]string{n, z}, false}, {[]string{z, "o option z"}, false}, {[]string{z, "p checked z"}, false}, {[]string{z, "q sequence a:z"}, false}, {[]string{n, z, "q sequence a:n b:n c:z"}, false}, {[]string{n, z, "a array n z"}, false}, {[]string{n, z, "k choice n 0:z 1:n"}, false}, {[]string{n, z, "k choice n 0:n 1:z"}, false},
		// It is used indirectly.
		{[]string{z, "o option z", "p checked o"}, false}, {[]string{n, z, "k choice n 0:n 1:z", "a array n k"}, false}, {[]string{n, z, "a array n z", "q sequence a:n b:a c:n", "o option q", "p checked o"}, false}, {[]string{n, z, "y terminated 00", "q sequence a:n b:y"}, false}, {chain("terminated 0a", "option %"), false}, {chain("terminated 0a", eightParts), false},
		// It is not used by the last rule, or not there at all.
		{[]string{z, n}, true}, {[]string{z, "o option z", n}, true}, {[]string{z, n, "s sized n"}, true}, {[]string{n, z, "a array n n"}, true}, {[]string{n, z, "o option z", "k choice n 0:n 1:n", "q sequence a:n b:k", "p checked q"}, true}, {chain("terminated 0a", "fixed 1"), true},
		{[]string{n}, true}, {[]string{"c const 0a"}, true}, {[]string{"f fixed 64"}, true}, {[]string{n, "s sized n"}, true}, {[]string{n, "o option n", "q sequence a:n b:o", "p checked q", "a array n p"}, true}, {chain("integer 1", "option %"), true}, {chain("integer 1", eightParts), true},
	} {
		if got := impl.AllCanonical(described(t, c.lines...)); got != c.want {
			t.Errorf("AllCanonical of %q = %v", c.lines, got)
		}
	}
	if impl.AllCanonical(allKinds()) || !impl.AllCanonical(impl.Description{Rules: allKinds().Rules[:6]}) || !impl.AllCanonical(manyRules(24)) {
		t.Error("AllCanonical of the examples")
	}
}

func checkEscapedAll(t *testing.T, content string, terminator byte, want string) {
	t.Helper()
	if got := impl.EscapeAll([]byte(content), terminator); string(got) != want {
		t.Fatalf("EscapeAll(%q, %q) = %q, want %q", content, terminator, got, want)
	}
}

func TestEscapeAll(t *testing.T) {
	for _, c := range []struct{ terminator, content, want string }{
		{"\n", "", "\n"}, {"\n", "a", "\\a\n"}, {"\n", "ab", "\\a\\b\n"}, {"\n", "abc", "\\a\\b\\c\n"}, {"\n", "\x00\xff", "\\\x00\\\xff\n"}, {"\x00", "", "\x00"}, {"\x00", "\n", "\\\n\x00"}, {"\xff", "\xfe", "\\\xfe\xff"},
		{"\n", "\n", "\\\n\n"}, {"\n", "\n\n", "\\\n\\\n\n"}, {"\n", "\\", "\\\\\n"}, {"\n", "\\\\", "\\\\\\\\\n"}, {"\n", "a\nb\\c", "\\a\\\n\\b\\\\\\c\n"}, {"\n", "\\\na", "\\\\\\\n\\a\n"}, {"a", "banana", "\\b\\a\\n\\a\\n\\aa"},
		// The escape as the terminator is a byte like others.
		{"\\", "", "\\"}, {"\\", "a", "\\a\\"}, {"\\", "\\", "\\\\\\"}, {"\\", "\\\\", "\\\\\\\\\\"}, {"\\", "a\\\n", "\\a\\\\\\\n\\"},
	} {
		checkEscapedAll(t, c.content, c.terminator[0], c.want)
	}
	if got := impl.EscapeAll(nil, 7); string(got) != "\x07" {
		t.Errorf("EscapeAll of nil = %q", got)
	}
	// Every byte as the terminator, every byte as the content.
	for terminator := range 256 {
		end := string([]byte{byte(terminator)})
		for c := range 256 {
			content := string([]byte{byte(c)})
			checkEscapedAll(t, content, byte(terminator), "\\"+content+end)
			checkEscapedAll(t, content+content+"a", byte(terminator), "\\"+content+"\\"+content+"\\a"+end)
		}
	}
	// There is no limit on the number of bytes.
	for _, count := range []int{199, 200, 399, 400, 401, 1000, 1 << 20} {
		checkEscapedAll(t, strings.Repeat("a", count), '\n', strings.Repeat("\\a", count)+"\n")
		checkEscapedAll(t, strings.Repeat("\n\\", count), '\n', strings.Repeat("\\\n\\\\", count)+"\n")
	}
}

// ReadTerminated reads the content back, and no other encoding of it is longer.
func TestEscapeAllIsReadAgain(t *testing.T) {
	d := described(t, "z terminated 0a")
	allTexts("\\\nab", 7, func(content string) {
		b := string(impl.EscapeAll([]byte(content), '\n'))
		if len(b) != 2*len(content)+1 {
			t.Fatalf("EscapeAll of %q = %q", content, b)
		}
		checkTerminated(t, b, 0, '\n', content, len(b), true)
		checkTerminated(t, "\\"+b+"b", 1, '\n', content, len(b)+1, true)
		checkCanonical(t, d, b, string(impl.EscapeBytes([]byte(content), '\n')))
	})
	for terminator := range 256 {
		content := append(everyByte(), everyByte()...)
		b := string(impl.EscapeAll(content, byte(terminator)))
		if terminator != impl.Escape {
			checkTerminated(t, b, 0, byte(terminator), string(content), len(b), true)
		}
	}
	allTexts("\\\na", 8, func(b string) {
		if content, next, ok := impl.ReadTerminated([]byte(b), 0, '\n'); ok && len(impl.EscapeAll(content, '\n')) < next {
			t.Fatalf("EscapeAll of %q is shorter than %q", content, b[:next])
		}
	})
}

// A file has at most MaxInput bytes, although its canonical form would be shorter.
func TestCanonicalLongFiles(t *testing.T) {
	d := described(t, "z terminated 0a")
	checkCounted(t, d, strings.Repeat("\\a", 199)+"\n", strings.Repeat("a", 199)+"\n", 199)
	checkCounted(t, d, "b"+strings.Repeat("\\a", 199)+"\n", "b"+strings.Repeat("a", 199)+"\n", 199)
	checkCounted(t, d, strings.Repeat("a", 399)+"\n", strings.Repeat("a", 399)+"\n", 0)
	checkCounted(t, d, strings.Repeat("a", 397)+"\\a\n", strings.Repeat("a", 398)+"\n", 1)
	checkCounted(t, d, strings.Repeat("\\\n", 199)+"\n", strings.Repeat("\\\n", 199)+"\n", 0)
	checkCounted(t, d, strings.Repeat("\\\\", 199)+"a\n", strings.Repeat("\\\\", 199)+"a\n", 0)
	checkNoFile(t, d, strings.Repeat("\\a", 200)+"\n", "a\n", strings.Repeat("a", 200)+"\n")
	checkNoFile(t, d, strings.Repeat("a", 398)+"\\a\n", strings.Repeat("a", 399)+"\n")
	checkNoFile(t, d, strings.Repeat("a", 400)+"\n", "a\n")
	d = described(t, "n integer 1", "z terminated 0a", "a array n z")
	checkCounted(t, d, "\x28"+strings.Repeat("\\a\\b\\c\\d\n", 40), "\x28"+strings.Repeat("abcd\n", 40), 160)
	checkCounted(t, d, "\x07"+strings.Repeat(strings.Repeat("\\\n", 28)+"\n", 7), "\x07"+strings.Repeat(strings.Repeat("\\\n", 28)+"\n", 7), 0)
	checkNoFile(t, d, "\x28"+strings.Repeat("\\a\\b\\c\\d\\e\n", 40), "\x28"+strings.Repeat("abcde\n", 40))
}

func TestCanonicalFilesOverManyLevels(t *testing.T) {
	for line, around := range map[string]func(b string) string{
		"checked %": withSum, "option %": func(b string) string { return "\x01" + b }, "sequence a:%": func(b string) string { return b }, "sequence a:r0 b:%": func(b string) string { return "\\x\n" + b },
	} {
		d := described(t, chain("terminated 0a", line)...)
		b, want, count := "\\a\\\n\\b\n", "a\\\nb\n", 2
		for last := range d.Rules {
			checkCounted(t, impl.Description{Rules: d.Rules[:last+1]}, b, want, count)
			b = around(b)
			if want = around(want); line == "sequence a:r0 b:%" {
				want = want[1:]
				count++
			}
		}
	}
	// The value is a default one, of each last rule in turn.
	d := allKinds()
	for count := 1; count <= len(d.Rules); count++ {
		b := plainPrinting(d, count-1, plainDefault(d, count-1))
		checkCounted(t, impl.Description{Rules: d.Rules[:count]}, b, b, 0)
	}
}

// plainCanonical returns the canonical form of bytes that are a file, as the document says it; there are at most MaxInput bytes.
func plainCanonical(d impl.Description, b string) (string, bool) {
	v, next, code := plainReading(d, len(d.Rules)-1, b, 0)
	if code != impl.ReadOK || next < len(b) {
		return "", false
	}
	return plainPrinting(d, len(d.Rules)-1, v), true
}

// checkPlainCanonical tests bytes against plainCanonical, and returns whether they are a file.
func checkPlainCanonical(t *testing.T, d impl.Description, b string) bool {
	t.Helper()
	want, ok := plainCanonical(d, b)
	if ok {
		checkCanonical(t, d, b, want)
	} else {
		checkNoFile(t, d, b)
	}
	return ok
}

// An escaper writes the content of a terminated with as many escapes as its share of 4 says, and counts those that need not be there.
type escaper struct {
	random    *rand.Rand
	share     int
	redundant int
}

func (e *escaper) escape(content string, end string) string {
	b := ""
	for _, c := range []byte(content) {
		if needed := c == '\\' || c == end[0]; needed {
			b += "\\"
		} else if e.random.Intn(4) < e.share {
			b += "\\"
			e.redundant++
		}
		b += string([]byte{c})
	}
	return b + end
}

// shortTerminated shortens the bytes of a value that a terminated might have, so that there is room for escapes.
func shortTerminated(v impl.Value) impl.Value {
	v = plainCopy(v, false)
	for _, part := range everyPartOf(&v) {
		if len(part.Bytes) == 255 {
			part.Bytes = part.Bytes[:40]
		}
	}
	return v
}

func TestCanonicalRandomFiles(t *testing.T) {
	random := rand.New(rand.NewSource(13))
	kinds, redundant, files, others := map[int]int{}, 0, 0, 0
	for _, m := range madeValues(500) {
		d, v := impl.Description{Rules: m.d.Rules[:m.rule+1]}, shortTerminated(m.v)
		if !plainValid(d, m.rule, v) {
			v = m.v
		}
		want := plainPrinting(d, m.rule, v)
		for share := range 5 {
			e := escaper{random: random, share: share}
			b := plainEncoding(d, m.rule, v, e.escape)
			if len(b) > 400 {
				checkNoFile(t, d, b)
				continue
			}
			checkCounted(t, d, b, want, e.redundant)
			kinds[d.Rules[m.rule].Kind]++
			if e.redundant > 0 {
				redundant++
			}
			for range 2 {
				if other := disturbed(random, b); checkPlainCanonical(t, d, other) {
					files++
				} else {
					others++
				}
			}
		}
	}
	for kind := 1; kind <= 10; kind++ {
		if kinds[kind] < 80 {
			t.Errorf("only %d files of the kind %d", kinds[kind], kind)
		}
	}
	if redundant < 1000 || files < 1000 || others < 5000 {
		t.Errorf("%d files were not canonical, %d disturbed ones are files, %d are not", redundant, files, others)
	}
}

// All short bytes of those that matter, for small rules.
func TestCanonicalFilesOfSmallRules(t *testing.T) {
	d := described(t,
		"n integer 1", "c const 5c01", "f fixed 2", "s sized n", "z terminated 00", "y terminated 01", "az array n z", "q sequence a:z b:y", "k choice n 1:z 2:y 92:f", "o option z", "oo option o", "pz checked z", "pp checked pz", "po checked o", "ap array n pz", "kk choice n 0:az 1:k", "last sequence a:o b:pz",
	)
	files, redundant := 0, 0
	for count := 1; count <= len(d.Rules); count++ {
		cut := impl.Description{Rules: d.Rules[:count]}
		allTexts("\x00\x01\x02\\]", 5, func(b string) {
			if checkPlainCanonical(t, cut, b) {
				files++
				if !impl.IsCanonical(cut, []byte(b)) {
					redundant++
				}
			}
		})
	}
	if files < 1400 || redundant < 400 {
		t.Errorf("%d files, of which %d are not canonical", files, redundant)
	}
}

// Files are the same if their values are, and then they have the same canonical form.
func TestSameRandomFiles(t *testing.T) {
	random := rand.New(rand.NewSource(14))
	same, different := 0, 0
	for _, m := range madeValues(150) {
		d := impl.Description{Rules: m.d.Rules[:m.rule+1]}
		files, values := []string{}, []string{}
		for share := range 8 {
			v := shortTerminated(m.v)
			if share >= 4 {
				spoil(random, &v)
			}
			if !plainValid(d, m.rule, v) {
				continue
			}
			e := escaper{random: random, share: share}
			if b := plainEncoding(d, m.rule, v, e.escape); len(b) <= 400 {
				files, values = append(files, b), append(values, plainText(v))
			}
		}
		for at, a := range files {
			for other, b := range files {
				want := values[at] == values[other]
				checkSame(t, d, a, b, want)
				x, _ := impl.CanonicalFile(d, []byte(a))
				y, _ := impl.CanonicalFile(d, []byte(b))
				if bytes.Equal(x, y) != want {
					t.Fatalf("the canonical forms of the files %q and %q of\n%s\nare %q and %q", a, b, impl.FormatDescription(d), x, y)
				}
				if want && a != b {
					same++
				} else if !want {
					different++
				}
			}
		}
	}
	if same < 500 || different < 500 {
		t.Errorf("%d pairs of files are the same, %d are not", same, different)
	}
}

// Where all files are canonical, there is none with an escape too many; of most other descriptions, there is one.
func TestAllCanonicalRandomDescriptions(t *testing.T) {
	random := rand.New(rand.NewSource(15))
	all, some := 0, 0
	for _, d := range startDescriptions(400) {
		root := len(d.Rules) - 1
		want := true
		for _, rule := range impl.UsedRules(d, root) {
			want = want && d.Rules[rule].Kind != impl.KindTerminated
		}
		if got := impl.AllCanonical(d); got != want {
			t.Fatalf("AllCanonical of\n%s\n= %v", impl.FormatDescription(d), got)
		}
		found := false
		for range 20 {
			if impl.MinSize(d, root) > impl.MaxInput {
				break
			}
			w := encodingWriter{random: random, d: d}
			w.write(root)
			if len(w.out) <= 400 && !impl.IsCanonical(d, w.out) {
				found = true
			}
		}
		if found && want {
			t.Fatalf("a file of\n%s\nis not canonical", impl.FormatDescription(d))
		}
		if want {
			all++
		} else if found {
			some++
		}
	}
	if all < 80 || some < 80 {
		t.Errorf("of %d descriptions, all files are canonical; of %d, one that was found is not", all, some)
	}
}

// A candidate has bytes that may be a file of the description.
type candidate struct {
	d impl.Description
	b string
}

// candidates returns files of descriptions of all kinds, canonical and other ones, and bytes that are none.
func candidates(t *testing.T) []candidate {
	random := rand.New(rand.NewSource(16))
	z := described(t, "z terminated 0a")
	list := []candidate{{levels(t), strings.Join(fullPieces(), "")}, {z, ""}, {z, "\n"}, {z, "abc\n"}, {z, "\\a\\b\n"}, {described(t, "c const 504b"), "PK"}, {described(t, "f fixed 3"), "abc"}}
	for _, m := range madeValues(60) {
		d, v := impl.Description{Rules: m.d.Rules[:m.rule+1]}, shortTerminated(m.v)
		if !plainValid(d, m.rule, v) {
			continue
		}
		for share := range 3 {
			e := escaper{random: random, share: 2 * share}
			list = append(list, candidate{d, plainEncoding(d, m.rule, v, e.escape)})
		}
		list = append(list, candidate{d, disturbed(random, list[len(list)-1].b)})
	}
	return list
}

// Descriptions and bytes that are guarded lie in larger arrays: the results are the same.
func TestCanonicalFilesModifyNothing(t *testing.T) {
	for _, c := range candidates(t) {
		d, b, other := guardDescription(c.d), guard([]byte(c.b)), guard([]byte(c.b))
		got, ok := impl.CanonicalFile(d.d, b.slice)
		want, wantOK := impl.CanonicalFile(c.d, []byte(c.b))
		if !bytes.Equal(got, want) || ok != wantOK || impl.IsCanonical(d.d, b.slice) != impl.IsCanonical(c.d, []byte(c.b)) || impl.CountRedundant(d.d, b.slice) != impl.CountRedundant(c.d, []byte(c.b)) || impl.AllCanonical(d.d) != impl.AllCanonical(c.d) {
			t.Fatalf("with spare capacity, CanonicalFile of\n%s\nwith %q = %q, %v, want %q, %v", impl.FormatDescription(c.d), c.b, got, ok, want, wantOK)
		}
		if impl.SameFile(d.d, b.slice, other.slice) != ok || impl.SameFile(d.d, b.slice, b.slice) != ok {
			t.Fatalf("with spare capacity, %q is not the same file of\n%s", c.b, impl.FormatDescription(c.d))
		}
		impl.EscapeAll(b.slice, 's')
		impl.EscapeAll(b.slice, impl.Escape)
		b.check(t, "a function of chapter 13")
		other.check(t, "a function of chapter 13")
		d.check(t, "a function of chapter 13")
	}
	for _, m := range invalidDescriptions() {
		d, b := guardDescription(m), guard([]byte("\\a\n"))
		impl.CanonicalFile(d.d, b.slice)
		impl.SameFile(d.d, b.slice, b.slice)
		impl.AllCanonical(d.d)
		d.check(t, "a function of chapter 13")
		b.check(t, "a function of chapter 13")
	}
}

// What stands in the spare capacity is not read.
func TestCanonicalFilesWithoutSpareCapacity(t *testing.T) {
	b := []byte("\\a\\b\nc\n")
	d := described(t, "z terminated 0a")
	for count := range len(b) + 1 {
		if got, ok := impl.CanonicalFile(d, b[:count]); ok != (count == 5) || ok && string(got) != "ab\n" || !ok && len(got) != 0 {
			t.Errorf("CanonicalFile of %q = %q, %v", b[:count], got, ok)
		}
		if got := impl.EscapeAll(b[:count], '\n'); len(got) != 2*count+1 || got[2*count] != '\n' {
			t.Errorf("EscapeAll of %q = %q", b[:count], got)
		}
		if impl.SameFile(d, b[:count], b[:5]) != (count == 5) || impl.CountRedundant(d, b[:count]) != []int{0, 0, 0, 0, 0, 2, 0, 0}[count] || impl.IsCanonical(d, b[:count]) {
			t.Errorf("the first %d bytes of %q", count, b)
		}
	}
}

func TestCanonicalFilesAreNewMemory(t *testing.T) {
	for _, c := range candidates(t) {
		for name, list := range map[string]func(d impl.Description, b []byte) []byte{
			"CanonicalFile": func(d impl.Description, b []byte) []byte {
				canonical, _ := impl.CanonicalFile(d, b)
				return canonical
			},
			"EscapeAll": func(d impl.Description, b []byte) []byte { return impl.EscapeAll(b, 's') },
		} {
			d, b := guardDescription(c.d), guard([]byte(c.b))
			checkNewBytes(t, name, func() []byte { return list(d.d, b.slice) }, func() {
				d.check(t, "writing to a result of "+name)
				b.check(t, "writing to a result of "+name)
			}, func() {
				overwrite(d.arrays)
				overwrite(d.list)
				for at := range b.array {
					b.array[at] ^= 0x55
				}
			})
		}
	}
	for _, content := range contents() {
		g := guard(content)
		g.checkFresh(t, "EscapeAll", impl.EscapeAll(g.slice, '\n'))
	}
}

// Files are those of the description as it is now, not as it was at an earlier call.
func TestCanonicalFilesFollowTheDescription(t *testing.T) {
	d := described(t, "n integer 1", "z terminated 0a", "f fixed 3", "k choice n 3:z 4:f", "p checked k")
	for range 2 {
		checkCounted(t, d, "\x03\\a\n"+"\xca", "\x03a\n"+"\x6e", 1)
		checkCounted(t, d, "\x04\\a\n"+"\xcb", "\x04\\a\n"+"\xcb", 0)
	}
	if impl.AllCanonical(d) {
		t.Error("AllCanonical although a terminated is used")
	}
	d.Rules[1].Bytes[0] = 'a'
	checkCounted(t, d, "\x03\\a\\\na"+"\x87", "\x03\\a\na"+"\x2b", 1)
	checkNoFile(t, d, "\x03\\a\n"+"\xca")
	d.Rules[3].Tags[0] = 2
	checkNoFile(t, d, "\x03\\a\\\na"+"\x87")
	checkCounted(t, d, "\x02\\a\\\na"+"\x86", "\x02\\a\na"+"\x2a", 1)
	d.Rules[4].Kind = impl.KindOption
	checkCounted(t, d, "\x01\x02\\a\\\na", "\x01\x02\\a\na", 1)
	d.Rules[3].Kids[1] = 2
	checkCounted(t, d, "\x01\x02\\a\n", "\x01\x02\\a\n", 0)
	if !slices.Equal(impl.UnusedRules(d), []int{1}) || !impl.AllCanonical(d) {
		t.Error("AllCanonical is false although no terminated is used any more")
	}
	d.Rules[1].Bytes[0] = impl.Escape
	checkNoFile(t, d, "\x01\x02\\a\n")
	if impl.AllCanonical(d) {
		t.Error("AllCanonical although the description is invalid")
	}
}
