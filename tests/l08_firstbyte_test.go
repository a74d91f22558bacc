package tests

import (
	"bytes"
	"math"
	"math/rand"
	"slices"
	"strconv"
	"strings"
	"testing"

	"loop.example/g00518/impl"
)

// noBytes are numbers beside and far away from the bytes; the low eight bits of some of them are bytes that often begin.
func noBytes() []int {
	return []int{math.MinInt, math.MinInt + 1, -1 << 32, -512, -256, -255, -2, -1, 256, 257, 261, 511, 512, 1 << 16, 1 << 32, 1<<32 + 1, 1 << 62, math.MaxInt - 255, math.MaxInt}
}

func everyStart() []int {
	return numbers(0, 256)
}

// checkStarts tests the three functions about one rule, whose encodings begin with the wanted bytes and with no others.
func checkStarts(t *testing.T, d impl.Description, rule int, want []int) {
	t.Helper()
	for b := -1; b <= 256; b++ {
		if got := impl.CanStart(d, rule, b); got != slices.Contains(want, b) {
			t.Errorf("CanStart of %q with %d = %v", impl.FormatRule(d, rule), b, got)
		}
	}
	for _, b := range noBytes() {
		if impl.CanStart(d, rule, b) {
			t.Errorf("CanStart of %q with %d = true", impl.FormatRule(d, rule), b)
		}
	}
	if got := impl.CountFirstBytes(d, rule); got != len(want) {
		t.Errorf("CountFirstBytes of %q = %d, want %d", impl.FormatRule(d, rule), got, len(want))
	}
	only := -1
	if len(want) == 1 {
		only = want[0]
	}
	if got := impl.OnlyStart(d, rule); got != only {
		t.Errorf("OnlyStart of %q = %d, want %d", impl.FormatRule(d, rule), got, only)
	}
}

// A started rule is written as its line, with the bytes with which its encodings begin.
type started struct {
	line   string
	starts []int
}

// checkStarted tests all rules, in descriptions that end with each of the rules: later rules do not matter.
func checkStarted(t *testing.T, rules ...started) {
	t.Helper()
	lines := []string{}
	for _, rule := range rules {
		lines = append(lines, rule.line)
		d := described(t, lines...)
		for index := range d.Rules {
			checkStarts(t, d, index, rules[index].starts)
		}
	}
}

// firstParts has rules of all ten kinds; the integers n, w and v are of one byte, of two, and of three with the lowest first.
func firstParts() []started {
	return []started{
		{"n integer 1", everyStart()}, {"w integer 2", everyStart()}, {"v integer 3 little", everyStart()},
		{"c const 0709", []int{7}}, {"zero const 00", []int{0}}, {"full const ff01", []int{255}}, {"f fixed 3", everyStart()},
		{"s sized w", everyStart()}, {"a array n c", everyStart()}, {"t terminated 0a", everyStart()}, {"o option c", []int{0, 1}},
		{"k choice n 5:c 9:f 200:s", []int{5, 9, 200}}, {"kw choice w 5:c 256:f 511:s 65535:o", []int{0, 1, 255}}, {"kv choice v 5:c 256:f 515:s 65541:o", []int{0, 3, 5}},
		{"q sequence x:c y:n", []int{7}}, {"p checked k", []int{5, 9, 200}},
	}
}

func nameIn(line string) string {
	return strings.Fields(line)[0]
}

// checkBehind tests a rule behind firstParts.
func checkBehind(t *testing.T, line string, starts []int) {
	t.Helper()
	lines := []string{}
	for _, part := range firstParts() {
		lines = append(lines, part.line)
	}
	d := described(t, append(lines, "new "+line)...)
	checkStarts(t, d, len(lines), starts)
}

func TestStartsOfAllKinds(t *testing.T) {
	checkStarted(t, firstParts()...)
	kinds := allKinds()
	for rule, starts := range [][]int{everyStart(), everyStart(), {80}, everyStart(), everyStart(), everyStart(), everyStart(), {0, 7, 255}, {0, 1}, {80}, {80}} {
		checkStarts(t, kinds, rule, starts)
	}
}

func TestStartsOfIntegers(t *testing.T) {
	for _, fields := range []string{"1", "2", "3", "4", "2 little", "3 little", "4 little"} {
		checkStarted(t, started{"a integer " + fields, everyStart()}, started{"b integer " + fields, everyStart()})
	}
}

func TestStartsOfConst(t *testing.T) {
	for b := range 256 {
		d := impl.Description{Rules: []impl.Rule{{Name: "c", Kind: impl.KindConst, Bytes: []byte{byte(b)}}}}
		checkStarts(t, d, 0, []int{b})
	}
	checkStarted(t,
		started{"a const 00ff", []int{0}}, started{"b const ff00", []int{255}}, started{"c const 504b", []int{80}}, started{"d const 4b50", []int{75}}, started{"e const 0000", []int{0}},
		started{"f const ffff", []int{255}}, started{"g const 000102", []int{0}}, started{"h const 80007f", []int{128}}, started{"i const 01020304", []int{1}}, started{"j const 5c5c", []int{92}},
		started{"k const 000102030405060708090a0b0c0d0e0f", []int{0}}, started{"l const ff0102030405060708090a0b0c0d0e00", []int{255}}, started{"m const 0f0e0d0c0b0a09080706050403020100", []int{15}},
	)
	// All bytes but the first one differ from it.
	for length := 2; length <= 16; length++ {
		for _, first := range []byte{0, 1, 9, 127, 128, 254, 255} {
			b := bytes.Repeat([]byte{first ^ 0x55}, length)
			b[0] = first
			d := impl.Description{Rules: []impl.Rule{{Name: "c", Kind: impl.KindConst, Bytes: b}}}
			checkStarts(t, d, 0, []int{int(first)})
		}
	}
}

func TestStartsOfFixed(t *testing.T) {
	for size := 1; size <= 64; size++ {
		checkStarted(t, started{"f fixed " + strconv.Itoa(size), everyStart()})
	}
}

// The terminator itself and the Escape begin encodings as well.
func TestStartsOfTerminated(t *testing.T) {
	for b := range 256 {
		if b != impl.Escape {
			d := impl.Description{Rules: []impl.Rule{{Name: "t", Kind: impl.KindTerminated, Bytes: []byte{byte(b)}}}}
			checkStarts(t, d, 0, everyStart())
		}
	}
}

// An array can begin with every byte, also where its integer would be greater than MaxItems: that is not considered.
func TestStartsOfSizedAndArrays(t *testing.T) {
	for _, integer := range []string{"n", "w", "v"} {
		checkBehind(t, "sized "+integer, everyStart())
		for _, item := range firstParts() {
			checkBehind(t, "array "+integer+" "+nameIn(item.line), everyStart())
		}
	}
	for _, fields := range []string{"1", "2", "3", "4", "2 little", "3 little", "4 little"} {
		checkStarted(t, started{"i integer " + fields, everyStart()}, started{"c const 07", []int{7}}, started{"s sized i", everyStart()}, started{"a array i c", everyStart()})
	}
}

func TestStartsOfSequences(t *testing.T) {
	for _, first := range firstParts() {
		begin := "sequence first:" + nameIn(first.line)
		checkBehind(t, begin, first.starts)
		for _, later := range firstParts() {
			name := nameIn(later.line)
			checkBehind(t, begin+" b:"+name, first.starts)
			checkBehind(t, begin+" b:"+name+" c:"+name+" d:"+name+" e:"+name+" f:"+name+" g:"+name+" h:"+name, first.starts)
		}
	}
	checkBehind(t, "sequence a:c b:zero c:full d:k e:kw f:kv g:o h:n", []int{7})
	checkBehind(t, "sequence a:full b:zero c:c d:k e:kw f:kv g:o h:n", []int{255})
	checkBehind(t, "sequence a:kw b:zero c:full d:k e:c f:kv g:o h:n", []int{0, 1, 255})
}

func TestStartsOfChecked(t *testing.T) {
	for _, kid := range firstParts() {
		checkBehind(t, "checked "+nameIn(kid.line), kid.starts)
	}
}

func TestStartsOfOptions(t *testing.T) {
	for _, kid := range firstParts() {
		checkBehind(t, "option "+nameIn(kid.line), []int{0, 1})
	}
}

// checkTags tests TagBytes of every alternative of a rule, and of numbers that are none.
func checkTags(t *testing.T, d impl.Description, rule int, want []string) {
	t.Helper()
	for alternative, tag := range want {
		if got := impl.TagBytes(d, rule, alternative); string(got) != tag {
			t.Errorf("TagBytes of %q at %d = %q, want %q", impl.FormatRule(d, rule), alternative, got, tag)
		}
	}
	for _, alternative := range outsideIndexes(len(want)) {
		if got := impl.TagBytes(d, rule, alternative); len(got) != 0 {
			t.Errorf("TagBytes of %q at %d = %q", impl.FormatRule(d, rule), alternative, got)
		}
	}
}

// A chosen rule is a choice of some integer; it has the tags, encoded as these bytes, and begins with these ones.
type chosen struct {
	integer string
	tags    []int
	encoded []string
	starts  []int
}

// checkChosen tests the choice with rules of several kinds as its alternatives: they do not matter.
func checkChosen(t *testing.T, c chosen) {
	t.Helper()
	kids := []string{"i", "seven", "flag", "any", "text", "other"}
	for first := range kids {
		line := "new choice i"
		for at, tag := range c.tags {
			line += " " + strconv.Itoa(tag) + ":" + kids[(first+at)%len(kids)]
		}
		d := described(t, "i integer "+c.integer, "seven const 070b", "flag option seven", "any fixed 2", "text terminated 00", "other choice i 3:flag 77:seven", line, "last option new")
		checkStarts(t, d, 6, c.starts)
		checkTags(t, d, 6, c.encoded)
	}
}

func TestChoicesByOneByte(t *testing.T) {
	for tag := range 256 {
		checkChosen(t, chosen{"1", []int{tag}, []string{string([]byte{byte(tag)})}, []int{tag}})
	}
	for _, c := range []chosen{
		{"1", []int{0, 255}, []string{"\x00", "\xff"}, []int{0, 255}},
		{"1", []int{0, 1}, []string{"\x00", "\x01"}, []int{0, 1}},
		{"1", []int{1, 5}, []string{"\x01", "\x05"}, []int{1, 5}},
		{"1", []int{254, 255}, []string{"\xfe", "\xff"}, []int{254, 255}},
		{"1", []int{7, 92, 127, 128, 200}, []string{"\x07", "\\", "\x7f", "\x80", "\xc8"}, []int{7, 92, 127, 128, 200}},
		{"1", []int{0, 1, 2, 3, 252, 253, 254, 255}, []string{"\x00", "\x01", "\x02", "\x03", "\xfc", "\xfd", "\xfe", "\xff"}, []int{0, 1, 2, 3, 252, 253, 254, 255}},
	} {
		checkChosen(t, c)
	}
}

// Where the highest byte comes first, only that byte begins, and tags that differ in the later bytes begin with the same one.
func TestChoicesWithTheHighestByteFirst(t *testing.T) {
	for _, c := range []chosen{
		{"2", []int{0}, []string{"\x00\x00"}, []int{0}},
		{"2", []int{5}, []string{"\x00\x05"}, []int{0}},
		{"2", []int{255}, []string{"\x00\xff"}, []int{0}},
		{"2", []int{256}, []string{"\x01\x00"}, []int{1}},
		{"2", []int{258}, []string{"\x01\x02"}, []int{1}},
		{"2", []int{65280}, []string{"\xff\x00"}, []int{255}},
		{"2", []int{65535}, []string{"\xff\xff"}, []int{255}},
		{"2", []int{0, 65535}, []string{"\x00\x00", "\xff\xff"}, []int{0, 255}},
		{"2", []int{255, 256}, []string{"\x00\xff", "\x01\x00"}, []int{0, 1}},
		{"2", []int{256, 300, 511}, []string{"\x01\x00", "\x01\x2c", "\x01\xff"}, []int{1}},
		{"2", []int{0, 1, 2, 3, 4, 5, 6, 255}, []string{"\x00\x00", "\x00\x01", "\x00\x02", "\x00\x03", "\x00\x04", "\x00\x05", "\x00\x06", "\x00\xff"}, []int{0}},
		{"2", []int{7, 263, 519, 775}, []string{"\x00\x07", "\x01\x07", "\x02\x07", "\x03\x07"}, []int{0, 1, 2, 3}},
		{"2", []int{7, 9, 518, 519, 65281}, []string{"\x00\x07", "\x00\x09", "\x02\x06", "\x02\x07", "\xff\x01"}, []int{0, 2, 255}},
		{"3", []int{0}, []string{"\x00\x00\x00"}, []int{0}},
		{"3", []int{65535}, []string{"\x00\xff\xff"}, []int{0}},
		{"3", []int{65536}, []string{"\x01\x00\x00"}, []int{1}},
		{"3", []int{0x7f8081}, []string{"\x7f\x80\x81"}, []int{127}},
		{"3", []int{16777215}, []string{"\xff\xff\xff"}, []int{255}},
		{"3", []int{0x010203, 0x010302, 0x01ffff}, []string{"\x01\x02\x03", "\x01\x03\x02", "\x01\xff\xff"}, []int{1}},
		{"3", []int{1, 256, 0x0100ff, 0x020100, 16777215}, []string{"\x00\x00\x01", "\x00\x01\x00", "\x01\x00\xff", "\x02\x01\x00", "\xff\xff\xff"}, []int{0, 1, 2, 255}},
		{"4", []int{0}, []string{"\x00\x00\x00\x00"}, []int{0}},
		{"4", []int{16777215}, []string{"\x00\xff\xff\xff"}, []int{0}},
		{"4", []int{16777216}, []string{"\x01\x00\x00\x00"}, []int{1}},
		{"4", []int{0x04030201}, []string{"\x04\x03\x02\x01"}, []int{4}},
		{"4", []int{4294967295}, []string{"\xff\xff\xff\xff"}, []int{255}},
		{"4", []int{0x80000000, 0x80000001, 0x80ffffff}, []string{"\x80\x00\x00\x00", "\x80\x00\x00\x01", "\x80\xff\xff\xff"}, []int{128}},
		{"4", []int{3, 0x0300, 0x030000, 0x03000000, 0x7fffffff, 4294967295}, []string{"\x00\x00\x00\x03", "\x00\x00\x03\x00", "\x00\x03\x00\x00", "\x03\x00\x00\x00", "\x7f\xff\xff\xff", "\xff\xff\xff\xff"}, []int{0, 3, 127, 255}},
	} {
		checkChosen(t, c)
	}
}

// Where the lowest byte comes first, the ascending order of the tags is not that of their first bytes.
func TestChoicesWithTheLowestByteFirst(t *testing.T) {
	for _, c := range []chosen{
		{"2 little", []int{0}, []string{"\x00\x00"}, []int{0}},
		{"2 little", []int{5}, []string{"\x05\x00"}, []int{5}},
		{"2 little", []int{255}, []string{"\xff\x00"}, []int{255}},
		{"2 little", []int{256}, []string{"\x00\x01"}, []int{0}},
		{"2 little", []int{258}, []string{"\x02\x01"}, []int{2}},
		{"2 little", []int{65280}, []string{"\x00\xff"}, []int{0}},
		{"2 little", []int{65535}, []string{"\xff\xff"}, []int{255}},
		{"2 little", []int{0, 65535}, []string{"\x00\x00", "\xff\xff"}, []int{0, 255}},
		{"2 little", []int{255, 256}, []string{"\xff\x00", "\x00\x01"}, []int{0, 255}},
		{"2 little", []int{256, 300, 511}, []string{"\x00\x01", "\x2c\x01", "\xff\x01"}, []int{0, 44, 255}},
		{"2 little", []int{0, 256, 512, 768, 1024, 1280, 1536, 65280}, []string{"\x00\x00", "\x00\x01", "\x00\x02", "\x00\x03", "\x00\x04", "\x00\x05", "\x00\x06", "\x00\xff"}, []int{0}},
		{"2 little", []int{7, 263, 519, 775}, []string{"\x07\x00", "\x07\x01", "\x07\x02", "\x07\x03"}, []int{7}},
		{"2 little", []int{7, 9, 518, 519, 65281}, []string{"\x07\x00", "\x09\x00", "\x06\x02", "\x07\x02", "\x01\xff"}, []int{1, 6, 7, 9}},
		{"3 little", []int{0}, []string{"\x00\x00\x00"}, []int{0}},
		{"3 little", []int{65535}, []string{"\xff\xff\x00"}, []int{255}},
		{"3 little", []int{65536}, []string{"\x00\x00\x01"}, []int{0}},
		{"3 little", []int{0x7f8081}, []string{"\x81\x80\x7f"}, []int{129}},
		{"3 little", []int{16777215}, []string{"\xff\xff\xff"}, []int{255}},
		{"3 little", []int{0x010203, 0x020103, 0xffff03}, []string{"\x03\x02\x01", "\x03\x01\x02", "\x03\xff\xff"}, []int{3}},
		{"3 little", []int{1, 256, 0x0100ff, 0x020100, 16777215}, []string{"\x01\x00\x00", "\x00\x01\x00", "\xff\x00\x01", "\x00\x01\x02", "\xff\xff\xff"}, []int{0, 1, 255}},
		{"4 little", []int{0}, []string{"\x00\x00\x00\x00"}, []int{0}},
		{"4 little", []int{16777215}, []string{"\xff\xff\xff\x00"}, []int{255}},
		{"4 little", []int{16777216}, []string{"\x00\x00\x00\x01"}, []int{0}},
		{"4 little", []int{0x04030201}, []string{"\x01\x02\x03\x04"}, []int{1}},
		{"4 little", []int{4294967295}, []string{"\xff\xff\xff\xff"}, []int{255}},
		{"4 little", []int{0x80, 0x0180, 0xffffff80}, []string{"\x80\x00\x00\x00", "\x80\x01\x00\x00", "\x80\xff\xff\xff"}, []int{128}},
		{"4 little", []int{3, 0x0300, 0x030000, 0x03000000, 0x7fffffff, 4294967295}, []string{"\x03\x00\x00\x00", "\x00\x03\x00\x00", "\x00\x00\x03\x00", "\x00\x00\x00\x03", "\xff\xff\xff\x7f", "\xff\xff\xff\xff"}, []int{0, 3, 255}},
	} {
		checkChosen(t, c)
	}
}

// plainTag is the encoding of a tag, by repeated division.
func plainTag(integer impl.Rule, tag int) string {
	b := make([]byte, integer.Size)
	for at := range b {
		if integer.Little {
			b[at] = byte(tag % 256)
		} else {
			b[integer.Size-1-at] = byte(tag % 256)
		}
		tag /= 256
	}
	return string(b)
}

// All bytes of a tag are counted through: the first one alone decides.
func TestEveryFirstByteOfTags(t *testing.T) {
	for _, integer := range []impl.Rule{{Size: 1}, {Size: 2}, {Size: 3}, {Size: 4}, {Size: 2, Little: true}, {Size: 3, Little: true}, {Size: 4, Little: true}} {
		integer.Name, integer.Kind = "i", impl.KindInteger
		for place := range integer.Size {
			for b := range 256 {
				tag := b << (8 * place)
				encoded := plainTag(integer, tag)
				d := impl.Description{Rules: []impl.Rule{integer, {Name: "k", Kind: impl.KindChoice, Tags: []int{tag}, Kids: []int{0, 0}}}}
				if got := impl.TagBytes(d, 1, 0); string(got) != encoded {
					t.Errorf("TagBytes of the tag %d of %+v = %q, want %q", tag, integer, got, encoded)
				}
				if got := impl.OnlyStart(d, 1); got != int(encoded[0]) || impl.CountFirstBytes(d, 1) != 1 || !impl.CanStart(d, 1, got) {
					t.Errorf("OnlyStart with the tag %d of %+v = %d, want %d", tag, integer, got, encoded[0])
				}
			}
		}
	}
}

func TestTagBytesOfOtherRules(t *testing.T) {
	d := described(t, "w integer 2", "c const 0102", "f fixed 2", "s sized w", "a array w c", "k choice w 1:c 258:f", "q sequence a:k b:c", "o option k", "p checked k", "t terminated 00", "ok choice w 258:k 259:c")
	for rule := range d.Rules {
		for alternative := -1; alternative <= 9; alternative++ {
			if got := impl.TagBytes(d, rule, alternative); rule != 5 && rule != 10 && len(got) != 0 {
				t.Errorf("TagBytes of %q at %d = %q", impl.FormatRule(d, rule), alternative, got)
			}
		}
	}
	checkTags(t, d, 5, []string{"\x00\x01", "\x01\x02"})
	checkTags(t, d, 10, []string{"\x01\x02", "\x01\x03"})
	for rule := range allKinds().Rules {
		if rule != 7 {
			checkTags(t, allKinds(), rule, nil)
		}
	}
	checkTags(t, allKinds(), 7, []string{"\x00", "\x07", "\xff"})
}

// checkChain tests all rules of a chain; from the second on, they have the same starts.
func checkChain(t *testing.T, first string, line string, starts []int, later []int) {
	t.Helper()
	d := described(t, chain(first, line)...)
	checkStarts(t, d, 0, starts)
	for rule := 1; rule < len(d.Rules); rule++ {
		checkStarts(t, d, rule, later)
	}
}

func TestStartsOverManyLevels(t *testing.T) {
	for first, starts := range map[string][]int{"integer 1": everyStart(), "integer 4": everyStart(), "integer 3 little": everyStart(), "fixed 9": everyStart(), "terminated 00": everyStart(), "const 0007": {0}, "const ff": {255}, "const 5c5c5c": {92}} {
		checkChain(t, first, "checked %", starts, starts)
		checkChain(t, first, "sequence a:%", starts, starts)
		checkChain(t, first, "sequence a:% b:r0", starts, starts)
		checkChain(t, first, "sequence a:r0 b:%", starts, starts)
		checkChain(t, first, eightParts, starts, starts)
		checkChain(t, first, "option %", starts, []int{0, 1})
	}
	checkChain(t, "integer 2", "sized r0", everyStart(), everyStart())
	checkChain(t, "integer 2", "array r0 %", everyStart(), everyStart())
	checkChain(t, "integer 1", "choice r0 4:% 6:% 99:r0", everyStart(), []int{4, 6, 99})
	checkChain(t, "integer 2", "choice r0 4:% 6:% 99:r0", everyStart(), []int{0})
	checkChain(t, "integer 2", "choice r0 4:% 258:% 1026:r0", everyStart(), []int{0, 1, 4})
	checkChain(t, "integer 2 little", "choice r0 4:% 258:% 1026:r0", everyStart(), []int{2, 4})
	checkChain(t, "integer 4 little", "choice r0 4:% 258:% 1026:r0 16777216:% 4294967295:%", everyStart(), []int{0, 2, 4, 255})
}

// One rule in the middle of the chain begins in its own way; up to the last of MaxRules rules, the others begin as it does.
func TestStartsThatComeFromTheMiddle(t *testing.T) {
	for line, starts := range map[string][]int{
		"option %": {0, 1}, "const 2a07": {42}, "fixed 3": everyStart(), "terminated 2a": everyStart(), "sized r0": everyStart(), "array r0 %": everyStart(),
		"choice r0 3:%": {0}, "choice r0 258:% 259:%": {1}, "choice r0 258:% 513:r1 65535:%": {1, 2, 255}, "sequence a:r1 b:%": {9}, "sequence a:% b:r0": {9},
	} {
		for _, middle := range []int{2, 12, 23} {
			for _, above := range []string{"checked %", "sequence a:% b:r1 c:r0", eightParts} {
				lines := chain("integer 2", above)
				lines[1] = "r1 const 0900"
				lines[middle] = "r" + strconv.Itoa(middle) + " " + strings.ReplaceAll(line, "%", "r"+strconv.Itoa(middle-1))
				d := described(t, lines...)
				for rule := 1; rule < middle; rule++ {
					checkStarts(t, d, rule, []int{9})
				}
				for rule := middle; rule < len(d.Rules); rule++ {
					checkStarts(t, d, rule, starts)
				}
			}
		}
	}
}

// checkPair tests both orders of a pair; common is the least byte that starts both, or -1.
func checkPair(t *testing.T, d impl.Description, a int, b int, common int) {
	t.Helper()
	for _, pair := range [][2]int{{a, b}, {b, a}} {
		if got := impl.CommonStart(d, pair[0], pair[1]); got != common {
			t.Errorf("CommonStart of %q and %q = %d, want %d", impl.FormatRule(d, pair[0]), impl.FormatRule(d, pair[1]), got, common)
		}
		if got := impl.AreDisjoint(d, pair[0], pair[1]); got != (common == -1) {
			t.Errorf("AreDisjoint of %q and %q = %v", impl.FormatRule(d, pair[0]), impl.FormatRule(d, pair[1]), got)
		}
	}
}

func TestPairsOfRules(t *testing.T) {
	rules := []started{
		{"n integer 1", everyStart()}, {"w integer 2", everyStart()}, {"v integer 2 little", everyStart()}, {"z const 0007", []int{0}}, {"m const ff00", []int{255}}, {"p const 5000", []int{80}},
		{"o option m", []int{0, 1}}, {"k choice n 1:n 5:n", []int{1, 5}}, {"l choice n 5:n 80:n 255:n", []int{5, 80, 255}}, {"h choice n 0:n 255:n", []int{0, 255}}, {"e choice n 2:n 3:n", []int{2, 3}},
		{"big choice w 5:n 1281:n 20480:n", []int{0, 5, 80}}, {"low choice v 5:n 1281:n 20480:n", []int{0, 1, 5}}, {"q sequence a:p b:o", []int{80}}, {"s checked h", []int{0, 255}}, {"t terminated 00", everyStart()},
		{"f fixed 2", everyStart()}, {"x sized w", everyStart()}, {"a array v e", everyStart()}, {"far choice w 1:n 255:n", []int{0}}, {"near choice v 1:n 255:n", []int{1, 255}},
	}
	checkStarted(t, rules...)
	lines := []string{}
	for _, rule := range rules {
		lines = append(lines, rule.line)
	}
	d := described(t, lines...)
	for pair, common := range map[string]int{
		"z m": -1, "z p": -1, "m p": -1, "p o": -1, "o e": -1, "k z": -1, "k h": -1, "e h": -1, "e l": -1, "e big": -1, "q s": -1, "q k": -1, "m o": -1, "far near": -1, "far k": -1, "m far": -1, "near z": -1, "near big": -1,
		"z o": 0, "z h": 0, "z n": 0, "o h": 0, "h s": 0, "big low": 0, "big s": 0, "low o": 0, "far z": 0, "far big": 0, "far low": 0, "h n": 0, "n w": 0, "w v": 0, "x a": 0, "t f": 0, "far t": 0,
		"o k": 1, "o near": 1, "k near": 1, "k low": 1, "low near": 1, "near f": 1, "k n": 1, "k x": 1, "k a": 1, "e t": 2, "e v": 2, "k l": 5, "k big": 5, "l big": 5, "l low": 5, "l w": 5, "p l": 80, "p big": 80, "q l": 80, "q p": 80, "q big": 80, "p a": 80,
		"m l": 255, "m h": 255, "m s": 255, "m near": 255, "l h": 255, "l s": 255, "l near": 255, "h near": 255, "m n": 255, "m t": 255, "m x": 255,
	} {
		a, b, _ := strings.Cut(pair, " ")
		checkPair(t, d, impl.FindRule(d, a), impl.FindRule(d, b), common)
	}
	// Every pair, against the bytes that are written down above; a rule is never disjoint from itself.
	for a := range rules {
		for b := range rules {
			common := slices.IndexFunc(everyStart(), func(c int) bool {
				return slices.Contains(rules[a].starts, c) && slices.Contains(rules[b].starts, c)
			})
			checkPair(t, d, a, b, common)
		}
		checkPair(t, d, a, a, rules[a].starts[0])
	}
}

// Two constants have a common byte only if they begin with the same one, whatever it is.
func TestPairsOfEveryByte(t *testing.T) {
	for b := range 256 {
		first := "const " + impl.FormatHex([]byte{byte(b), 7})
		d := described(t, "n integer 1", "a "+first, "b "+first+"07", "c const "+impl.FormatHex([]byte{byte(b + 1), 7}), "k choice n "+strconv.Itoa(b)+":n", "any fixed 1")
		checkPair(t, d, 1, 2, b)
		checkPair(t, d, 1, 3, -1)
		checkPair(t, d, 1, 4, b)
		checkPair(t, d, 3, 4, -1)
		checkPair(t, d, 1, 5, b)
		checkPair(t, d, 0, 4, b)
		checkPair(t, d, 1, 1, b)
	}
}

func checkNoStart(t *testing.T, d impl.Description, rule int) {
	t.Helper()
	for _, b := range append(noBytes(), 0, 1, 2, 7, 80, 92, 128, 254, 255) {
		if impl.CanStart(d, rule, b) {
			t.Errorf("CanStart of the rule %d of %+v with %d", rule, d, b)
		}
	}
	if count, only := impl.CountFirstBytes(d, rule), impl.OnlyStart(d, rule); count != 0 || only != -1 {
		t.Errorf("of the rule %d of %+v, CountFirstBytes is %d and OnlyStart %d", rule, d, count, only)
	}
	for _, alternative := range []int{math.MinInt, -1, 0, 1, 2, 7, 8, math.MaxInt} {
		if got := impl.TagBytes(d, rule, alternative); len(got) != 0 {
			t.Errorf("TagBytes of the rule %d of %+v at %d = %q", rule, d, alternative, got)
		}
	}
}

// checkNoPair is for two rules of which at least one is none.
func checkNoPair(t *testing.T, d impl.Description, a int, b int) {
	t.Helper()
	for _, pair := range [][2]int{{a, b}, {b, a}} {
		if disjoint, common := impl.AreDisjoint(d, pair[0], pair[1]), impl.CommonStart(d, pair[0], pair[1]); disjoint || common != -1 {
			t.Errorf("of the rules %v of %+v, AreDisjoint is %v and CommonStart %d", pair, d, disjoint, common)
		}
	}
}

func TestStartsOutside(t *testing.T) {
	for _, d := range append(validDescriptions(), startDescriptions(50)...) {
		outside := outsideIndexes(len(d.Rules))
		for _, rule := range outside {
			checkNoStart(t, d, rule)
			for _, other := range append(outside, numbers(0, len(d.Rules))...) {
				checkNoPair(t, d, rule, other)
			}
		}
		// All rules that there are begin with some byte.
		for rule := range d.Rules {
			if impl.CountFirstBytes(d, rule) == 0 || impl.CommonStart(d, rule, rule) == -1 || impl.AreDisjoint(d, rule, rule) {
				t.Errorf("no byte starts the rule %d of %q", rule, impl.FormatDescription(d))
			}
		}
	}
	// Rules in the spare capacity, and those that were cut off, are none.
	whole := allKinds().Rules
	for count := range whole {
		for rule := count; rule < len(whole); rule++ {
			d := impl.Description{Rules: whole[:count]}
			checkNoStart(t, d, rule)
			for other := range whole {
				checkNoPair(t, d, rule, other)
			}
		}
	}
}

func TestStartsOfInvalidDescriptions(t *testing.T) {
	for _, d := range invalidDescriptions() {
		for _, rule := range append(outsideIndexes(len(d.Rules)), numbers(0, min(len(d.Rules), 30)+1)...) {
			checkNoStart(t, d, rule)
			for _, other := range []int{-1, 0, 1, 2, 7, len(d.Rules) - 1, len(d.Rules)} {
				checkNoPair(t, d, rule, other)
			}
		}
	}
	for _, d := range brokenBehind() {
		for a := range d.Rules {
			for b := range d.Rules {
				checkNoPair(t, d, a, b)
			}
		}
		checkStarts(t, impl.Description{Rules: d.Rules[:11]}, 2, []int{80})
	}
}

// Of a choice, the tags have to be those of a valid rule.
func TestTagBytesOfInvalidChoices(t *testing.T) {
	for _, rule := range []impl.Rule{
		{Tags: []int{256}, Kids: []int{0, 1}}, {Tags: []int{-1}, Kids: []int{0, 1}}, {Tags: []int{2, 1}, Kids: []int{0, 1, 1}}, {Tags: []int{1, 1}, Kids: []int{0, 1, 1}}, {Tags: []int{1}, Kids: []int{2, 1}},
		{Tags: []int{1}, Kids: []int{0}}, {Tags: []int{1}, Kids: []int{0, 1, 1}}, {Tags: []int{1}, Kids: []int{11, 1}}, {Tags: []int{1}, Kids: []int{-1, 1}}, {Tags: []int{1}}, {Kids: []int{0}}, {Tags: []int{1}, Kids: []int{0, 1}, Size: 1},
	} {
		rule.Name, rule.Kind = "new", impl.KindChoice
		d := with(rule)
		checkNoStart(t, d, 11)
		checkNoStart(t, d, 7)
		checkNoPair(t, d, 7, 11)
	}
	// Tags that another kind has.
	for kind := 0; kind <= 11; kind++ {
		if kind != impl.KindChoice {
			checkNoStart(t, with(impl.Rule{Name: "new", Kind: kind, Tags: []int{1, 2}, Kids: []int{0, 1, 2}}), 11)
		}
	}
}

// A written rule has encodings that are written down by hand, of a choice those with the alternative of this index, and otherwise with -1.
type written struct {
	rule        string
	alternative int
	encodings   []string
}

// checkWritten tests the functions of chapter 8 against the list; of rules that begin with only some of the bytes, it has an encoding for each of these.
func checkWritten(t *testing.T, d impl.Description, list []written) {
	t.Helper()
	firsts := make([][]int, len(d.Rules))
	for _, one := range list {
		rule := impl.FindRule(d, one.rule)
		for _, b := range one.encodings {
			if encodingEnd(d, rule, b, 0) != len(b) {
				t.Errorf("%q is no encoding of %s", b, one.rule)
			}
			checkBeginning(t, d, rule, b, one.alternative)
			firsts[rule] = append(firsts[rule], int(b[0]))
		}
	}
	for a := range firsts {
		slices.Sort(firsts[a])
		firsts[a] = slices.Compact(firsts[a])
		if count := impl.CountFirstBytes(d, a); len(firsts[a]) == 0 || count != 256 && count != len(firsts[a]) {
			t.Errorf("the encodings of %q begin with %v, but CountFirstBytes is %d", impl.FormatRule(d, a), firsts[a], count)
		}
		for b := range a + 1 {
			checkFirsts(t, d, a, b, firsts[a], firsts[b])
		}
	}
}

// checkBeginning tests the promise of chapter 8 for one encoding.
func checkBeginning(t *testing.T, d impl.Description, rule int, b string, alternative int) {
	t.Helper()
	first := int(b[0])
	if only := impl.OnlyStart(d, rule); !impl.CanStart(d, rule, first) || only != -1 && only != first {
		t.Errorf("%q has the encoding %q, but CanStart is %v and OnlyStart %d", impl.FormatRule(d, rule), b, impl.CanStart(d, rule, first), only)
	}
	if alternative < 0 {
		return
	}
	for at := range d.Rules[rule].Tags {
		if tag := string(impl.TagBytes(d, rule, at)); tag == "" || strings.HasPrefix(b, tag) != (at == alternative) {
			t.Errorf("%q has the encoding %q with the alternative %d, but the TagBytes at %d are %q", impl.FormatRule(d, rule), b, alternative, at, tag)
		}
	}
}

// checkFirsts tests a pair of rules against the first bytes of the encodings that were written down for them.
func checkFirsts(t *testing.T, d impl.Description, a int, b int, firstsOfA []int, firstsOfB []int) {
	t.Helper()
	common := slices.IndexFunc(everyStart(), func(c int) bool {
		return slices.Contains(firstsOfA, c) && slices.Contains(firstsOfB, c)
	})
	disjoint, least := impl.AreDisjoint(d, a, b), impl.CommonStart(d, a, b)
	if common >= 0 && (disjoint || least < 0 || least > common) {
		t.Errorf("%q and %q have encodings that begin with %d, but AreDisjoint is %v and CommonStart %d", impl.FormatRule(d, a), impl.FormatRule(d, b), common, disjoint, least)
	}
	whole := impl.CountFirstBytes(d, a) == len(firstsOfA) && impl.CountFirstBytes(d, b) == len(firstsOfB)
	if whole && (disjoint != (common < 0) || least != common) {
		t.Errorf("%q and %q have encodings that begin with %v and %v, but AreDisjoint is %v and CommonStart %d", impl.FormatRule(d, a), impl.FormatRule(d, b), firstsOfA, firstsOfB, disjoint, least)
	}
}

func TestEncodingsOfAllKindsBeginAsTheyCan(t *testing.T) {
	head := "PK0123456789abcdef"
	checkWritten(t, allKinds(), []written{
		{"integer", -1, []string{"\x00", "\x01", "P", "\xff"}},
		{"little", -1, []string{"\x00\x00", "\x01\x00", "\x00\x01", "\xff\xff"}},
		{"const", -1, []string{"PK"}},
		{"fixed", -1, []string{"0123456789abcdef", "\x00\x01\x02\x03456789abcdef", "\xff\xff\xff\xff\xff\xff\xff\xff\xff\xff\xff\xff\xff\xff\xff\xff"}},
		{"sized", -1, []string{"\x00\x00", "\x01\x00x", "\x03\x00abc", "\x00\x01" + strings.Repeat("x", 256)}},
		{"array", -1, []string{"\x00", "\x01\x00\x00", "\x02\x00\x00\x01\x00x", "\x28" + strings.Repeat("\x00\x00", 40)}},
		{"terminated", -1, []string{"\n", "x\n", "\\\n\n", "\\\\\n", "\x00\n", "\xff\n"}},
		{"choice", 0, []string{"\x00\x00\x00", "\x00\x02\x00ab"}},
		{"choice", 1, []string{"\x07\x00", "\x07\x01\x01\x00x"}},
		{"choice", 2, []string{"\xff\n", "\xff\xff\n"}},
		{"option", -1, []string{"\x00", "\x01\xff\n", "\x01\x00\x03\x00xyz", "\x01\x07\x00"}},
		{"sequence", -1, []string{head + "\x00", head + "\x01\xff\n"}},
		{"checked", -1, []string{withSum(head + "\x00"), withSum(head + "\x01\x07\x00")}},
	})
}

func TestEncodingsWithLongTagsBeginAsTheyCan(t *testing.T) {
	d := described(t,
		"byte integer 1", "word integer 2", "low integer 2 little", "wide integer 3", "far integer 4 little", "mark const 03ff", "point fixed 2", "name terminated 00", "flag option point",
		"big choice word 1:mark 255:point 256:name 513:flag", "small choice low 1:mark 255:point 256:name 513:flag", "three choice wide 7:mark 65536:point 131071:flag", "four choice far 7:mark 16777216:point 4294967295:flag",
		"list array byte big", "text sized far", "head sequence b:big n:name", "sum checked small", "deep checked head", "one choice wide 66051:big 66052:sum", "lone choice far 513:mark 66049:deep", "file sequence f:flag s:sum d:deep",
	)
	checkWritten(t, d, []written{
		{"byte", -1, []string{"\x00", "a", "\xff"}}, {"word", -1, []string{"\x00\x00", "ab", "\xff\xff"}}, {"low", -1, []string{"\x00\x01", "\x01\x00"}}, {"wide", -1, []string{"\x00\x00\x01", "abc"}}, {"far", -1, []string{"\x00\x00\x00\x01", "abcd"}},
		{"mark", -1, []string{"\x03\xff"}}, {"point", -1, []string{"\x03\xff", "ab", "\x00\x00"}}, {"name", -1, []string{"\x00", "ab\x00", "\\\x00\x00", "\xff\x00"}}, {"flag", -1, []string{"\x00", "\x01ab"}},
		{"big", 0, []string{"\x00\x01\x03\xff"}}, {"big", 1, []string{"\x00\xffab", "\x00\xff\x00\x00"}}, {"big", 2, []string{"\x01\x00\x00", "\x01\x00ab\x00"}}, {"big", 3, []string{"\x02\x01\x00", "\x02\x01\x01ab"}},
		{"small", 0, []string{"\x01\x00\x03\xff"}}, {"small", 1, []string{"\xff\x00ab", "\xff\x00\x00\x00"}}, {"small", 2, []string{"\x00\x01\x00", "\x00\x01ab\x00"}}, {"small", 3, []string{"\x01\x02\x00", "\x01\x02\x01ab"}},
		{"three", 0, []string{"\x00\x00\x07\x03\xff"}}, {"three", 1, []string{"\x01\x00\x00ab"}}, {"three", 2, []string{"\x01\xff\xff\x00", "\x01\xff\xff\x01ab"}},
		{"four", 0, []string{"\x07\x00\x00\x00\x03\xff"}}, {"four", 1, []string{"\x00\x00\x00\x01ab"}}, {"four", 2, []string{"\xff\xff\xff\xff\x00", "\xff\xff\xff\xff\x01ab"}},
		{"list", -1, []string{"\x00", "\x01\x00\x01\x03\xff", "\x02\x01\x00\x00\x02\x01\x00"}}, {"text", -1, []string{"\x00\x00\x00\x00", "\x03\x00\x00\x00abc"}},
		{"head", -1, []string{"\x00\x01\x03\xff\x00", "\x00\xffab\x00", "\x01\x00\x00ab\x00", "\x02\x01\x00\x00"}},
		{"sum", -1, []string{withSum("\x01\x00\x03\xff"), withSum("\xff\x00ab"), withSum("\x00\x01\x00"), withSum("\x01\x02\x00")}},
		{"deep", -1, []string{withSum("\x00\x01\x03\xff\x00"), withSum("\x01\x00\x00ab\x00"), withSum("\x02\x01\x00\x00")}},
		{"one", 0, []string{"\x01\x02\x03\x00\x01\x03\xff", "\x01\x02\x03\x02\x01\x00"}}, {"one", 1, []string{"\x01\x02\x04" + withSum("\xff\x00ab")}},
		{"lone", 0, []string{"\x01\x02\x00\x00\x03\xff"}}, {"lone", 1, []string{"\x01\x02\x01\x00" + withSum("\x02\x01\x00\x00")}},
		{"file", -1, []string{"\x00" + withSum("\xff\x00ab") + withSum("\x02\x01\x00\x00"), "\x01ab" + withSum("\x00\x01\x00") + withSum("\x00\xffab\x00")}},
	})
}

func TestEncodingsOfDisjointRulesBeginDifferently(t *testing.T) {
	d := described(t,
		"byte integer 1", "low integer 2 little", "zip const 504b0304", "gif const 474946", "png const 89504e47", "page choice low 256:byte 512:zip", "note choice low 513:byte 769:gif",
		"zips sequence a:zip b:zip", "gifs checked gif", "any choice byte 71:gif 80:zip 255:png", "other choice byte 0:page 1:note 2:any", "flag option other", "names choice low 2:zips 3:gifs 65282:png", "last checked names",
	)
	checkWritten(t, d, []written{
		{"byte", -1, []string{"\x00", "G", "P"}}, {"low", -1, []string{"\x00\x01", "\x01\x02"}}, {"zip", -1, []string{"PK\x03\x04"}}, {"gif", -1, []string{"GIF"}}, {"png", -1, []string{"\x89PNG"}},
		{"page", 0, []string{"\x00\x01a", "\x00\x01P"}}, {"page", 1, []string{"\x00\x02PK\x03\x04"}}, {"note", 0, []string{"\x01\x02a"}}, {"note", 1, []string{"\x01\x03GIF"}},
		{"zips", -1, []string{"PK\x03\x04PK\x03\x04"}}, {"gifs", -1, []string{withSum("GIF")}}, {"any", 0, []string{"GGIF"}}, {"any", 1, []string{"PPK\x03\x04"}}, {"any", 2, []string{"\xff\x89PNG"}},
		{"other", 0, []string{"\x00\x00\x01a"}}, {"other", 1, []string{"\x01\x01\x03GIF"}}, {"other", 2, []string{"\x02GGIF", "\x02\xff\x89PNG"}}, {"flag", -1, []string{"\x00", "\x01\x02GGIF"}},
		{"names", 0, []string{"\x02\x00PK\x03\x04PK\x03\x04"}}, {"names", 1, []string{"\x03\x00" + withSum("GIF")}}, {"names", 2, []string{"\x02\xff\x89PNG"}}, {"last", -1, []string{withSum("\x02\xff\x89PNG"), withSum("\x03\x00" + withSum("GIF"))}},
	})
}

// All texts of up to five characters out of four are tried as encodings of every rule: they begin with all of these characters that can begin.
func TestShortTextsThatAreEncodingsBeginAsTheyCan(t *testing.T) {
	characters := []byte{0, 1, 2, impl.Escape}
	short := [][]byte{{}}
	for at := 0; len(short[at]) < 5; at++ {
		for _, c := range characters {
			short = append(short, append(slices.Clip(short[at]), c))
		}
	}
	d := described(t,
		"byte integer 1", "word integer 2", "low integer 2 little", "wide integer 3 little", "mark const 0001", "two fixed 2", "line terminated 02", "text sized byte", "list array byte byte", "flag option two", "seal checked byte",
		"kind choice byte 0:line 2:flag", "big choice word 1:line 256:mark 258:flag", "small choice low 1:line 256:mark 514:flag", "back choice wide 256:line 65536:flag 131073:flag", "pair sequence a:kind b:seal", "turn sequence a:seal b:kind", "deep checked kind",
	)
	for rule := range d.Rules {
		found := map[byte]bool{}
		for _, b := range short {
			if len(b) > 0 && encodingEnd(d, rule, string(b), 0) == len(b) {
				found[b[0]] = true
			}
		}
		name := d.Rules[rule].Name
		for _, c := range characters {
			// These would have 92 bytes or items.
			if c == impl.Escape && (name == "text" || name == "list") {
				continue
			}
			if got := impl.CanStart(d, rule, int(c)); got != found[c] {
				t.Errorf("CanStart of %q with %d = %v, but for short encodings it is %v", impl.FormatRule(d, rule), c, got, found[c])
			}
		}
	}
}

// randomTags returns different tags in ascending order, up to the limit; many of them have equal bytes at one end.
func randomTags(random *rand.Rand, count int, limit int) []int {
	tags := []int{}
	for len(tags) < count {
		tag := random.Intn(limit + 1)
		switch random.Intn(4) {
		case 0:
			tag %= 10
		case 1:
			tag -= tag % 256
		case 2:
			tag = limit - tag%10
		}
		if !slices.Contains(tags, tag) {
			tags = append(tags, tag)
		}
	}
	slices.Sort(tags)
	return tags
}

// startDescriptions returns valid descriptions whose integers have both byte orders, and whose tags and constants are any.
func startDescriptions(count int) []impl.Description {
	random := rand.New(rand.NewSource(8))
	list := randomDescriptions(count)
	for _, d := range list {
		for index := range d.Rules {
			rule := &d.Rules[index]
			switch rule.Kind {
			case impl.KindInteger:
				rule.Little = rule.Size > 1 && random.Intn(2) == 0
			case impl.KindConst:
				random.Read(rule.Bytes)
			case impl.KindChoice:
				rule.Tags = randomTags(random, len(rule.Tags), 1<<(8*d.Rules[rule.Kids[0]].Size)-1)
			}
		}
	}
	return list
}

// plainStarts follows the first kids of a rule, as the document says.
func plainStarts(d impl.Description, rule int) []int {
	r := d.Rules[rule]
	switch r.Kind {
	case impl.KindConst:
		return []int{int(r.Bytes[0])}
	case impl.KindSized, impl.KindArray, impl.KindSequence, impl.KindChecked:
		return plainStarts(d, r.Kids[0])
	case impl.KindOption:
		return []int{0, 1}
	case impl.KindChoice:
		starts := []int{}
		for _, tag := range r.Tags {
			starts = append(starts, int(plainTag(d.Rules[r.Kids[0]], tag)[0]))
		}
		slices.Sort(starts)
		return slices.Compact(starts)
	}
	return everyStart()
}

func TestStartsOfRandomDescriptions(t *testing.T) {
	byCount, disjoint := map[int]int{}, 0
	for _, d := range startDescriptions(250) {
		starts := [][]int{}
		for rule := range d.Rules {
			starts = append(starts, plainStarts(d, rule))
			checkStarts(t, d, rule, starts[rule])
			byCount[len(starts[rule])]++
			tags := []string{}
			for _, tag := range d.Rules[rule].Tags {
				tags = append(tags, plainTag(d.Rules[d.Rules[rule].Kids[0]], tag))
			}
			checkTags(t, d, rule, tags)
			for other := range rule + 1 {
				common := slices.IndexFunc(everyStart(), func(c int) bool { return slices.Contains(starts[rule], c) && slices.Contains(starts[other], c) })
				checkPair(t, d, rule, other, common)
				if common < 0 {
					disjoint++
				}
			}
		}
		if t.Failed() {
			t.Fatalf("the description is\n%s", impl.FormatDescription(d))
		}
	}
	if byCount[1] < 100 || byCount[2] < 100 || byCount[3]+byCount[4]+byCount[5] < 20 || byCount[256] < 500 || disjoint < 100 {
		t.Errorf("the numbers of first bytes are %v, and %d pairs are disjoint", byCount, disjoint)
	}
}

// An encodingWriter writes random encodings; where they get long, it goes the shortest way.
type encodingWriter struct {
	random *rand.Rand
	d      impl.Description
	out    []byte
}

// some returns a number up to the limit, but 0 for what cannot be written within MaxInput bytes or is too much.
func (w *encodingWriter) some(limit int, kid int) int {
	if len(w.out) > 100 || impl.MinSize(w.d, kid) > impl.MaxInput {
		return 0
	}
	return w.random.Intn(limit + 1)
}

func (w *encodingWriter) bytes(count int) {
	b := make([]byte, count)
	w.random.Read(b)
	w.out = append(w.out, b...)
}

func (w *encodingWriter) write(rule int) {
	r, from := w.d.Rules[rule], len(w.out)
	switch r.Kind {
	case impl.KindInteger, impl.KindFixed:
		w.bytes(r.Size)
	case impl.KindConst:
		w.out = append(w.out, r.Bytes...)
	case impl.KindSized:
		count := w.some(5, r.Kids[0])
		w.out = append(w.out, plainTag(w.d.Rules[r.Kids[0]], count)...)
		w.bytes(count)
	case impl.KindArray:
		count := w.some(3, r.Kids[1])
		w.out = append(w.out, plainTag(w.d.Rules[r.Kids[0]], count)...)
		w.repeat(r.Kids[1], count)
	case impl.KindSequence:
		for _, kid := range r.Kids {
			w.write(kid)
		}
	case impl.KindChoice:
		at := w.alternative(r)
		w.out = append(w.out, plainTag(w.d.Rules[r.Kids[0]], r.Tags[at])...)
		w.write(r.Kids[at+1])
	case impl.KindOption:
		present := w.some(1, r.Kids[0])
		w.out = append(w.out, byte(present))
		w.repeat(r.Kids[0], present)
	case impl.KindChecked:
		w.write(r.Kids[0])
		w.out = append(w.out, sumOf(string(w.out[from:])))
	case impl.KindTerminated:
		for range w.some(5, rule) {
			w.out = append(w.out, impl.Escape, byte(w.random.Intn(256)))
		}
		w.out = append(w.out, r.Bytes[0])
	}
}

func (w *encodingWriter) repeat(rule int, count int) {
	for range count {
		w.write(rule)
	}
}

// alternative returns the shortest alternative of a choice, or any one that is short enough.
func (w *encodingWriter) alternative(choice impl.Rule) int {
	at := 0
	for other, kid := range choice.Kids[1:] {
		if impl.MinSize(w.d, kid) < impl.MinSize(w.d, choice.Kids[at+1]) {
			at = other
		}
	}
	if other := w.random.Intn(len(choice.Tags)); w.some(1, choice.Kids[other+1]) == 1 {
		return other
	}
	return at
}

// Every encoding begins with a byte that can start its rule, and that of a choice with the bytes of a tag.
func TestRandomEncodingsBeginAsTheyCan(t *testing.T) {
	random := rand.New(rand.NewSource(88))
	count := 0
	for _, d := range startDescriptions(300) {
		for rule := range d.Rules {
			if impl.MinSize(d, rule) > impl.MaxInput {
				continue
			}
			for range 4 {
				w := encodingWriter{random: random, d: d}
				w.write(rule)
				b := string(w.out)
				if encodingEnd(d, rule, b, 0) != len(b) {
					t.Fatalf("%q is no encoding of the rule %d of\n%s", b, rule, impl.FormatDescription(d))
				}
				alternative := -1
				if r := d.Rules[rule]; r.Kind == impl.KindChoice {
					integer := d.Rules[r.Kids[0]]
					alternative = slices.Index(r.Tags, impl.ReadInteger(w.out[:integer.Size], integer.Little))
				}
				checkBeginning(t, d, rule, b, alternative)
				count++
			}
		}
	}
	if count < 4000 {
		t.Errorf("only %d encodings were written", count)
	}
}

// descriptionsToGuard has valid and invalid descriptions, each valid one also with empty slices instead of nil ones: these may have spare capacity.
func descriptionsToGuard() []impl.Description {
	list := append(descriptionsToCopy(), startDescriptions(20)...)
	for _, d := range slices.Clone(list) {
		list = append(list, impl.Description{Rules: deepCopy(d.Rules)})
	}
	return append(list, invalidDescriptions()...)
}

func TestStartsModifyNothing(t *testing.T) {
	for _, d := range descriptionsToGuard() {
		g := guardDescription(d)
		rules := append(outsideIndexes(len(d.Rules)), numbers(0, min(len(d.Rules), 30)+1)...)
		for _, rule := range rules {
			for _, b := range []int{-1, 0, 1, 7, 80, 255, 256} {
				if impl.CanStart(g.d, rule, b) != impl.CanStart(d, rule, b) {
					t.Errorf("with spare capacity, CanStart of the rule %d of %+v with %d = %v", rule, d, b, impl.CanStart(g.d, rule, b))
				}
				if got, want := impl.TagBytes(g.d, rule, b), impl.TagBytes(d, rule, b); !bytes.Equal(got, want) {
					t.Errorf("with spare capacity, TagBytes of the rule %d of %+v at %d = %q, want %q", rule, d, b, got, want)
				}
			}
			if impl.CountFirstBytes(g.d, rule) != impl.CountFirstBytes(d, rule) || impl.OnlyStart(g.d, rule) != impl.OnlyStart(d, rule) {
				t.Errorf("with spare capacity, the rule %d of %+v begins with other bytes", rule, d)
			}
			for _, other := range []int{-1, 0, 1, 2, 7, len(d.Rules) - 1, len(d.Rules)} {
				if impl.AreDisjoint(g.d, rule, other) != impl.AreDisjoint(d, rule, other) || impl.CommonStart(g.d, rule, other) != impl.CommonStart(d, rule, other) {
					t.Errorf("with spare capacity, the rules %d and %d of %+v have another common byte", rule, other, d)
				}
			}
		}
		g.check(t, "a function of chapter 8")
	}
}

func TestTagBytesAreNewMemory(t *testing.T) {
	for _, d := range append(descriptionsToGuard(), described(t, "w integer 2", "c const 0102", "k choice w 1:c 2:c 258:c")) {
		for rule := -1; rule <= min(len(d.Rules), 30); rule++ {
			for alternative := range 3 {
				g := guardDescription(d)
				first, second := impl.TagBytes(g.d, rule, alternative), impl.TagBytes(g.d, rule, alternative)
				kept := bytes.Clone(second)
				whole := first[:cap(first)]
				for at := range whole {
					whole[at] ^= 0x55
				}
				written := bytes.Clone(whole)
				g.check(t, "writing to TagBytes")
				if !bytes.Equal(second, kept) || !bytes.Equal(impl.TagBytes(g.d, rule, alternative), kept) || !bytes.Equal(impl.TagBytes(d, rule, alternative), kept) {
					t.Errorf("writing to TagBytes changed others: %q, want %q", second, kept)
				}
				overwrite(g.arrays)
				overwrite(g.list)
				if !bytes.Equal(second, kept) || !bytes.Equal(whole, written) {
					t.Errorf("writing to the description changed TagBytes: %q, want %q", second, kept)
				}
			}
		}
	}
}

// First bytes follow from the description as it is now, not from an earlier call.
func TestStartsFollowTheDescription(t *testing.T) {
	d := described(t, "w integer 2", "c const 0907", "k choice w 1:c 515:w 771:c", "p checked k", "q sequence a:c b:p")
	for range 2 {
		checkStarts(t, d, 3, []int{0, 2, 3})
		checkTags(t, d, 2, []string{"\x00\x01", "\x02\x03", "\x03\x03"})
		checkPair(t, d, 3, 4, -1)
	}
	d.Rules[0].Little = true
	checkStarts(t, d, 3, []int{1, 3})
	checkTags(t, d, 2, []string{"\x01\x00", "\x03\x02", "\x03\x03"})
	d.Rules[0].Size = 4
	checkTags(t, d, 2, []string{"\x01\x00\x00\x00", "\x03\x02\x00\x00", "\x03\x03\x00\x00"})
	d.Rules[0].Little = false
	checkStarts(t, d, 3, []int{0})
	checkPair(t, d, 2, 3, 0)
	d.Rules[1].Bytes[0] = 0
	checkStarts(t, d, 4, []int{0})
	checkPair(t, d, 3, 4, 0)
	d.Rules[2].Tags[2] = 0x0a000000
	checkStarts(t, d, 3, []int{0, 10})
	d.Rules[4].Kids[0] = 3
	checkStarts(t, d, 4, []int{0, 10})
	d.Rules[3] = impl.Rule{Name: "p", Kind: impl.KindOption, Kids: []int{2}}
	checkStarts(t, d, 4, []int{0, 1})
	checkPair(t, d, 2, 4, 0)
	d.Rules[0].Size = 1
	checkNoStart(t, d, 4)
	checkNoStart(t, d, 1)
	checkNoPair(t, d, 1, 4)
}
