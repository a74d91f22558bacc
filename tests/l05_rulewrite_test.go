package tests

import (
	"slices"
	"strconv"
	"strings"
	"testing"

	"loop.example/g00518/impl"
)

// allLines has the lines of allKinds.
func allLines() []string {
	return []string{
		"integer integer 1",
		"little integer 2 little",
		"const const 504b",
		"fixed fixed 16",
		"sized sized little",
		"array array integer sized",
		"terminated terminated 0a",
		"choice choice integer 0:sized 7:array 255:terminated",
		"option option choice",
		"sequence sequence magic:const id:fixed rest:option",
		"checked checked sequence",
	}
}

// checkLine tests the line of a rule that stands at the end of allKinds.
func checkLine(t *testing.T, rule impl.Rule, want string) {
	t.Helper()
	d := with(rule)
	if got := impl.FormatRule(d, len(d.Rules)-1); got != want {
		t.Errorf("FormatRule of %+v = %q, want %q", rule, got, want)
	}
}

func TestLinesOfAllKinds(t *testing.T) {
	d := allKinds()
	for index, want := range allLines() {
		if got := impl.FormatRule(d, index); got != want {
			t.Errorf("FormatRule(%d) = %q, want %q", index, got, want)
		}
	}
}

func TestTheExampleOfALine(t *testing.T) {
	d := impl.Description{Rules: []impl.Rule{
		{Name: "byte", Kind: impl.KindInteger, Size: 1},
		{Name: "point", Kind: impl.KindSequence, Names: []string{"x", "y"}, Kids: []int{0, 0}},
	}}
	if got := impl.FormatRule(d, 1); got != "point sequence x:byte y:byte" {
		t.Errorf("FormatRule = %q", got)
	}
	if got := impl.FormatDescription(d); got != "byte integer 1\npoint sequence x:byte y:byte\n" {
		t.Errorf("FormatDescription = %q", got)
	}
}

func TestLinesOfIntegers(t *testing.T) {
	for size := 1; size <= 4; size++ {
		line := "n integer " + strconv.Itoa(size)
		checkLine(t, impl.Rule{Name: "n", Kind: impl.KindInteger, Size: size}, line)
		if size > 1 {
			checkLine(t, impl.Rule{Name: "n", Kind: impl.KindInteger, Size: size, Little: true}, line+" little")
		}
	}
}

func TestLinesOfFixed(t *testing.T) {
	for size := 1; size <= 64; size++ {
		checkLine(t, impl.Rule{Name: "f", Kind: impl.KindFixed, Size: size}, "f fixed "+strconv.Itoa(size))
	}
}

func TestLinesWithBytes(t *testing.T) {
	cases := []struct {
		bytes []byte
		want  string
	}{
		{[]byte{0}, "00"}, {[]byte{10}, "0a"}, {[]byte{255}, "ff"}, {[]byte{32}, "20"}, {[]byte{0, 0}, "0000"}, {[]byte{1, 2, 3}, "010203"}, {[]byte("\x89PNG\r\n"), "89504e470d0a"},
		{[]byte{16, 1}, "1001"}, {[]byte{0xab, 0xcd, 0xef}, "abcdef"}, {[]byte{92}, "5c"},
		{[]byte{0, 1, 2, 3, 4, 5, 6, 7, 8, 9, 10, 11, 12, 13, 14, 15}, "000102030405060708090a0b0c0d0e0f"},
	}
	for _, c := range cases {
		checkLine(t, impl.Rule{Name: "c", Kind: impl.KindConst, Bytes: c.bytes}, "c const "+c.want)
	}
	for _, c := range everyByte() {
		digits := "0123456789abcdef"
		word := string([]byte{digits[c/16], digits[c%16]})
		checkLine(t, impl.Rule{Name: "c", Kind: impl.KindConst, Bytes: []byte{c, 7}}, "c const "+word+"07")
		if c != impl.Escape {
			checkLine(t, impl.Rule{Name: "t", Kind: impl.KindTerminated, Bytes: []byte{c}}, "t terminated "+word)
		}
	}
}

func TestLinesWithOneName(t *testing.T) {
	for kid, rule := range allKinds().Rules {
		checkLine(t, impl.Rule{Name: "new", Kind: impl.KindOption, Kids: []int{kid}}, "new option "+rule.Name)
		checkLine(t, impl.Rule{Name: "new", Kind: impl.KindChecked, Kids: []int{kid}}, "new checked "+rule.Name)
	}
	checkLine(t, impl.Rule{Name: "new", Kind: impl.KindSized, Kids: []int{0}}, "new sized integer")
	checkLine(t, impl.Rule{Name: "new", Kind: impl.KindSized, Kids: []int{1}}, "new sized little")
}

func TestLinesOfArrays(t *testing.T) {
	for kid, rule := range allKinds().Rules {
		checkLine(t, impl.Rule{Name: "new", Kind: impl.KindArray, Kids: []int{0, kid}}, "new array integer "+rule.Name)
		checkLine(t, impl.Rule{Name: "new", Kind: impl.KindArray, Kids: []int{1, kid}}, "new array little "+rule.Name)
	}
}

func TestLinesOfSequences(t *testing.T) {
	cases := []struct {
		names []string
		kids  []int
		want  string
	}{
		{[]string{"a"}, []int{0}, "new sequence a:integer"},
		{[]string{"new"}, []int{10}, "new sequence new:checked"},
		{[]string{"b", "a"}, []int{3, 2}, "new sequence b:fixed a:const"},
		{[]string{"a", "b"}, []int{4, 4}, "new sequence a:sized b:sized"},
		{[]string{"integer", "fixed"}, []int{3, 0}, "new sequence integer:fixed fixed:integer"},
		{
			[]string{"h", "g", "f", "e", "d", "c", "b", "a"}, []int{0, 1, 2, 3, 4, 5, 6, 7},
			"new sequence h:integer g:little f:const e:fixed d:sized c:array b:terminated a:choice",
		},
		{
			[]string{"p0", "p1", "p2", "p3", "p4", "p5", "p6", "p7"}, []int{10, 9, 8, 8, 8, 0, 0, 10},
			"new sequence p0:checked p1:sequence p2:option p3:option p4:option p5:integer p6:integer p7:checked",
		},
	}
	for _, c := range cases {
		checkLine(t, impl.Rule{Name: "new", Kind: impl.KindSequence, Names: c.names, Kids: c.kids}, c.want)
	}
}

func TestLinesOfChoices(t *testing.T) {
	cases := []struct {
		tags []int
		kids []int
		want string
	}{
		{[]int{0}, []int{0, 0}, "new choice integer 0:integer"},
		{[]int{255}, []int{0, 10}, "new choice integer 255:checked"},
		{[]int{65535}, []int{1, 0}, "new choice little 65535:integer"},
		{[]int{1, 2}, []int{0, 3, 2}, "new choice integer 1:fixed 2:const"},
		{[]int{9, 10}, []int{1, 4, 4}, "new choice little 9:sized 10:sized"},
		{
			[]int{0, 1, 2, 10, 20, 100, 200, 255}, []int{0, 1, 2, 3, 4, 5, 6, 7, 8},
			"new choice integer 0:little 1:const 2:fixed 10:sized 20:array 100:terminated 200:choice 255:option",
		},
		{
			[]int{3, 255, 256, 1000, 4096, 10000, 65534, 65535}, []int{1, 10, 9, 8, 8, 8, 0, 0, 10},
			"new choice little 3:checked 255:sequence 256:option 1000:option 4096:option 10000:integer 65534:integer 65535:checked",
		},
	}
	for _, c := range cases {
		checkLine(t, impl.Rule{Name: "new", Kind: impl.KindChoice, Tags: c.tags, Kids: c.kids}, c.want)
	}
	d := impl.Description{Rules: []impl.Rule{
		{Name: "long", Kind: impl.KindInteger, Size: 4},
		{Name: "new", Kind: impl.KindChoice, Tags: []int{1 << 24, 1<<32 - 1}, Kids: []int{0, 0, 0}},
	}}
	if got := impl.FormatRule(d, 1); got != "new choice long 16777216:long 4294967295:long" {
		t.Errorf("FormatRule of large tags = %q", got)
	}
}

// namesIn returns the names of rules in a line of words with one space between two of them, where the kind has any.
func namesIn(line string, kind int) []string {
	words := strings.Split(line, " ")[2:]
	switch kind {
	case impl.KindInteger, impl.KindConst, impl.KindFixed, impl.KindTerminated:
		return nil
	}
	names := []string{}
	for _, word := range words {
		names = append(names, word[strings.LastIndex(word, ":")+1:])
	}
	return names
}

func TestEveryRuleIsWrittenAsALine(t *testing.T) {
	for _, d := range validDescriptions() {
		seen := map[string]bool{}
		for index, rule := range d.Rules {
			line := impl.FormatRule(d, index)
			if !strings.HasPrefix(line, rule.Name+" "+impl.KindName(rule.Kind)+" ") {
				t.Errorf("the line of %+v is %q", rule, line)
				continue
			}
			if words := impl.Words(line); strings.Join(words, " ") != line || strings.Contains(line, "\n") {
				t.Errorf("the line %q is not one of words with single spaces between them", line)
			}
			used := []string{}
			for _, kid := range rule.Kids {
				used = append(used, d.Rules[kid].Name)
			}
			if got := namesIn(line, rule.Kind); !slices.Equal(got, used) {
				t.Errorf("the line %q names %q, want %q", line, got, used)
			}
			if seen[line] {
				t.Errorf("the line %q is that of two rules", line)
			}
			seen[line] = true
		}
	}
}

func TestLinesOutside(t *testing.T) {
	for _, d := range append(validDescriptions(), impl.Description{}, impl.Description{Rules: []impl.Rule{}}, impl.Description{Rules: allKinds().Rules[:0]}, impl.Description{Rules: allKinds().Rules[:4]}) {
		for _, index := range outsideIndexes(len(d.Rules)) {
			if got := impl.FormatRule(d, index); got != "" {
				t.Errorf("FormatRule of %d rules at %d = %q", len(d.Rules), index, got)
			}
		}
	}
}

// Each way to break one rule of allKinds leaves the lines of the rules that do not use it as they are.
func TestLinesOfInvalidRules(t *testing.T) {
	breaks := map[string]func(*impl.Rule){
		"no kind":         func(r *impl.Rule) { r.Kind = 0 },
		"a kind beyond":   func(r *impl.Rule) { r.Kind = 11 },
		"a negative kind": func(r *impl.Rule) { r.Kind = -r.Kind },
		"a negative size": func(r *impl.Rule) { r.Size = -1 },
		"a large size":    func(r *impl.Rule) { r.Size = 65 },
		"too many kids":   func(r *impl.Rule) { r.Kids = make([]int, 12) },
		"an unknown kid":  func(r *impl.Rule) { r.Kids = []int{99} },
		"a negative kid":  func(r *impl.Rule) { r.Kids = []int{-1, -1} },
		"all fields": func(r *impl.Rule) {
			r.Size, r.Little, r.Bytes, r.Names, r.Tags = 2, true, []byte{1}, []string{"a"}, []int{1}
		},
	}
	lines := allLines()
	for name, change := range breaks {
		for index := range lines {
			d := allKinds()
			change(&d.Rules[index])
			if got := impl.FormatRule(d, index); got != "" {
				t.Errorf("with %s: FormatRule(%d) = %q", name, index, got)
			}
			if got := impl.FormatDescription(d); got != "" {
				t.Errorf("with %s in the rule %d: FormatDescription = %q", name, index, got)
			}
			for other := range lines {
				if other != index && !slices.Contains(d.Rules[other].Kids, index) && impl.FormatRule(d, other) != lines[other] {
					t.Errorf("with %s in the rule %d: FormatRule(%d) = %q", name, index, other, impl.FormatRule(d, other))
				}
			}
		}
	}
}

func TestLinesOfRulesWithInvalidNames(t *testing.T) {
	for _, name := range []string{"", "A", "1", "a b", "a:b", "abcdefghijklm", "\u00e9", "a\n", "\xff", "integer", "checked"} {
		checkLine(t, impl.Rule{Name: name, Kind: impl.KindFixed, Size: 1}, "")
		checkLine(t, impl.Rule{Name: name, Kind: impl.KindChecked, Kids: []int{0}}, "")
	}
	for _, names := range [][]string{{"a", "a"}, {"a", ""}, {"", "a"}, {"a"}, {"a", "b", "c"}, {"a", "b:c"}, {"A", "b"}, nil} {
		checkLine(t, impl.Rule{Name: "new", Kind: impl.KindSequence, Names: names, Kids: []int{0, 1}}, "")
	}
}

// A kind without its fields, or with fields of the wrong number or range, has no line.
func TestLinesOfRulesThatDoNotMeetTheirKind(t *testing.T) {
	for kind := impl.KindInteger; kind <= impl.KindTerminated; kind++ {
		checkLine(t, impl.Rule{Name: "new", Kind: kind}, "")
		checkLine(t, impl.Rule{Name: "new", Kind: kind, Kids: []int{11}}, "")
		checkLine(t, impl.Rule{Name: "new", Kind: kind, Kids: []int{0, 11}}, "")
	}
	for _, rule := range []impl.Rule{
		{Name: "new", Kind: impl.KindInteger, Size: 5},
		{Name: "new", Kind: impl.KindInteger, Size: 1, Little: true},
		{Name: "new", Kind: impl.KindFixed, Size: 65},
		{Name: "new", Kind: impl.KindFixed, Size: 2, Little: true},
		{Name: "new", Kind: impl.KindConst, Bytes: make([]byte, 17)},
		{Name: "new", Kind: impl.KindTerminated, Bytes: []byte{impl.Escape}},
		{Name: "new", Kind: impl.KindTerminated, Bytes: []byte{1, 2}},
		{Name: "new", Kind: impl.KindSized, Kids: []int{2}},
		{Name: "new", Kind: impl.KindSized, Kids: []int{0, 0}},
		{Name: "new", Kind: impl.KindArray, Kids: []int{2, 0}},
		{Name: "new", Kind: impl.KindArray, Kids: []int{0}},
		{Name: "new", Kind: impl.KindSequence, Names: partNames(9), Kids: make([]int, 9)},
		{Name: "new", Kind: impl.KindChoice, Tags: numbers(0, 9), Kids: make([]int, 10)},
		{Name: "new", Kind: impl.KindChoice, Tags: []int{1}, Kids: []int{0}},
		{Name: "new", Kind: impl.KindChoice, Tags: []int{2, 1}, Kids: []int{0, 0, 0}},
		{Name: "new", Kind: impl.KindChoice, Tags: []int{256}, Kids: []int{0, 0}},
		{Name: "new", Kind: impl.KindOption, Kids: []int{0, 0}},
		{Name: "new", Kind: impl.KindChecked, Kids: []int{-1}},
	} {
		checkLine(t, rule, "")
	}
}

// A valid rule may use an invalid earlier one; its line has that rule's name, whatever it is.
func TestLinesThatNameInvalidRules(t *testing.T) {
	for _, name := range []string{"broken", "NoName", "", "two words", "a:b", "\xff"} {
		d := impl.Description{Rules: []impl.Rule{
			{Name: name, Kind: impl.KindInteger, Size: 5},
			{Name: "sized", Kind: impl.KindSized, Kids: []int{0}},
			{Name: "option", Kind: impl.KindOption, Kids: []int{0}},
			{Name: "checked", Kind: impl.KindChecked, Kids: []int{0}},
			{Name: "array", Kind: impl.KindArray, Kids: []int{0, 0}},
			{Name: "sequence", Kind: impl.KindSequence, Names: []string{"a", "b"}, Kids: []int{0, 1}},
			{Name: "choice", Kind: impl.KindChoice, Tags: []int{0}, Kids: []int{0, 1}},
		}}
		want := []string{
			"", "sized sized " + name, "option option " + name, "checked checked " + name,
			"array array " + name + " " + name, "sequence sequence a:" + name + " b:sized", "",
		}
		for index, line := range want {
			if got := impl.FormatRule(d, index); got != line {
				t.Errorf("with the first name %q: FormatRule(%d) = %q, want %q", name, index, got, line)
			}
		}
		if got := impl.FormatDescription(d); got != "" {
			t.Errorf("FormatDescription of an invalid description = %q", got)
		}
	}
}

func TestFormatDescription(t *testing.T) {
	if got, want := impl.FormatDescription(allKinds()), strings.Join(allLines(), "\n")+"\n"; got != want {
		t.Errorf("FormatDescription = %q, want %q", got, want)
	}
	if got := impl.FormatDescription(manyRules(1)); got != "r0 integer 1\n" {
		t.Errorf("FormatDescription of one rule = %q", got)
	}
	if got := impl.FormatDescription(manyRules(4)); got != "r0 integer 1\nr1 checked r0\nr2 checked r1\nr3 integer 4\n" {
		t.Errorf("FormatDescription of four rules = %q", got)
	}
	for _, d := range validDescriptions() {
		want := ""
		for index := range d.Rules {
			want += impl.FormatRule(d, index) + "\n"
		}
		if got := impl.FormatDescription(d); got != want || strings.Count(got, "\n") != len(d.Rules) {
			t.Errorf("FormatDescription(%+v) = %q, want %q", d, got, want)
		}
	}
}

func TestFormatDescriptionOfInvalidOnes(t *testing.T) {
	list := []impl.Description{
		{}, {Rules: []impl.Rule{}}, {Rules: allKinds().Rules[:0]}, {Rules: make([]impl.Rule, 1)}, {Rules: make([]impl.Rule, 3)},
		manyRules(impl.MaxRules + 1), manyRules(400), with(everyField()), with(impl.Rule{}), with(allKinds().Rules[0]), {Rules: allKinds().Rules[1:]},
	}
	for at, d := range list {
		if got := impl.FormatDescription(d); got != "" {
			t.Errorf("FormatDescription of the invalid description %d = %q", at, got)
		}
	}
	// The number of rules is a condition on the description alone.
	if got := impl.FormatRule(manyRules(impl.MaxRules+3), impl.MaxRules+2); got != "r26 checked r25" {
		t.Errorf("FormatRule of a rule beyond MaxRules = %q", got)
	}
}

func TestKidName(t *testing.T) {
	want := [][]string{
		{}, {}, {}, {}, {"little"}, {"integer", "sized"}, {}, {"integer", "sized", "array", "terminated"}, {"choice"}, {"const", "fixed", "option"}, {"sequence"},
	}
	d := allKinds()
	for index, names := range want {
		for kid, name := range names {
			if got := impl.KidName(d, index, kid); got != name {
				t.Errorf("KidName(%d, %d) = %q, want %q", index, kid, got, name)
			}
		}
		for _, kid := range outsideIndexes(len(names)) {
			if got := impl.KidName(d, index, kid); got != "" {
				t.Errorf("KidName(%d, %d) = %q", index, kid, got)
			}
		}
	}
}

func TestKidNameOutside(t *testing.T) {
	for _, d := range append(validDescriptions(), impl.Description{}, impl.Description{Rules: []impl.Rule{}}, impl.Description{Rules: allKinds().Rules[:0]}, impl.Description{Rules: allKinds().Rules[:5]}) {
		for _, index := range outsideIndexes(len(d.Rules)) {
			for _, kid := range append(outsideIndexes(1), 0, 1, 2) {
				if got := impl.KidName(d, index, kid); got != "" {
					t.Errorf("KidName of %d rules at %d, %d = %q", len(d.Rules), index, kid, got)
				}
			}
		}
	}
}

// Elements of Kids that refer to no rule, to a later one or to the rule itself, in a rule of any kind.
func TestKidNameOfAnyElement(t *testing.T) {
	kids := []int{-1, 0, 1, 2, 3, 4, -2, 1 << 32, -1 << 62, 1<<62 + 1, 2, -3, 3}
	want := []string{"", "first", "", "last", "", "", "", "", "", "", "last", "", ""}
	for kind := -1; kind <= 12; kind++ {
		d := impl.Description{Rules: []impl.Rule{
			{Name: "first", Kind: impl.KindFixed, Size: 1}, {Kind: kind, Kids: kids}, {Name: "last", Kind: kind, Kids: []int{2, 1, 0, 3}},
		}}
		for kid, name := range want {
			if got := impl.KidName(d, 1, kid); got != name {
				t.Errorf("KidName with the element %d = %q, want %q", kids[kid], got, name)
			}
		}
		d.Rules[1].Name = "The middle"
		for kid, name := range []string{"last", "The middle", "first", "", ""} {
			if got := impl.KidName(d, 2, kid); got != name {
				t.Errorf("KidName(2, %d) = %q, want %q", kid, got, name)
			}
		}
		if got := impl.KidName(d, 1, 2); got != "The middle" {
			t.Errorf("KidName of the rule itself = %q", got)
		}
	}
}

func TestDescriptionNames(t *testing.T) {
	cases := [][]string{
		{}, {"a"}, {""}, {"a", "b"}, {"b", "a"}, {"a", "a"}, {"c", "a", "b", "a", "c"}, {"", "", ""},
		{"No Name", "\xff", "x:y", "", "abcdefghijklmnopqrstuvwxyz", "\n", "\u00e9"}, partNames(24), partNames(25), partNames(400),
	}
	for _, names := range cases {
		for kind := range 12 {
			d := impl.Description{}
			for _, name := range names {
				d.Rules = append(d.Rules, impl.Rule{Name: name, Kind: kind, Names: []string{"part"}, Kids: []int{0}})
			}
			if got := impl.DescriptionNames(d); !slices.Equal(got, names) {
				t.Errorf("DescriptionNames of %q = %q", names, got)
			}
		}
	}
	if got := impl.DescriptionNames(impl.Description{Rules: []impl.Rule{}}); len(got) != 0 {
		t.Errorf("DescriptionNames of no rules = %q", got)
	}
	if got, want := impl.DescriptionNames(allKinds()), strings.Split("integer little const fixed sized array terminated choice option sequence checked", " "); !slices.Equal(got, want) {
		t.Errorf("DescriptionNames = %q, want %q", got, want)
	}
}

// Each of the lines "a fixed 1", "bb fixed 1" and "c const 010203" is put at each place.
func TestLongestLine(t *testing.T) {
	short, middle := impl.Rule{Name: "a", Kind: impl.KindFixed, Size: 1}, impl.Rule{Name: "bb", Kind: impl.KindFixed, Size: 1}
	long := impl.Rule{Name: "c", Kind: impl.KindConst, Bytes: []byte{1, 2, 3}}
	invalid, another := impl.Rule{Name: "abcdefghijkl", Kind: impl.KindFixed, Size: 1000}, impl.Rule{Name: "no name at all", Kind: impl.KindFixed, Size: 1}
	cases := []struct {
		rules []impl.Rule
		want  int
	}{
		{nil, 0}, {[]impl.Rule{}, 0}, {[]impl.Rule{short}, 9}, {[]impl.Rule{middle}, 10}, {[]impl.Rule{long}, 14},
		{[]impl.Rule{long, short, middle}, 14}, {[]impl.Rule{short, long, middle}, 14}, {[]impl.Rule{short, middle, long}, 14},
		{[]impl.Rule{middle, long, short}, 14}, {[]impl.Rule{middle, short}, 10}, {[]impl.Rule{short, middle}, 10},
		{[]impl.Rule{invalid}, 0}, {[]impl.Rule{{}}, 0}, {make([]impl.Rule, 5), 0}, {[]impl.Rule{invalid, another}, 0}, {[]impl.Rule{everyField()}, 0},
		{[]impl.Rule{invalid, short, another}, 9}, {[]impl.Rule{short, invalid, middle}, 10}, {[]impl.Rule{long, another, invalid}, 14}, {[]impl.Rule{another, invalid, long}, 14},
		{[]impl.Rule{short, long, long}, 14}, {[]impl.Rule{short, {Name: "a", Kind: impl.KindConst, Bytes: make([]byte, 16)}}, 9},
		// The lines count, not the names nor the words.
		{[]impl.Rule{{Name: "abcdefghijkl", Kind: impl.KindFixed, Size: 1}, {Name: "z", Kind: impl.KindConst, Bytes: make([]byte, 16)}}, 40},
	}
	for at, c := range cases {
		if got := impl.LongestLine(impl.Description{Rules: c.rules}); got != c.want {
			t.Errorf("LongestLine of the case %d = %d, want %d", at, got, c.want)
		}
	}
	if got := impl.LongestLine(allKinds()); got != len("choice choice integer 0:sized 7:array 255:terminated") {
		t.Errorf("LongestLine of all kinds = %d", got)
	}
}

func TestLongestLineIsThatOfARule(t *testing.T) {
	for _, d := range descriptionsToCopy() {
		for count := range len(d.Rules) + 1 {
			beginning := impl.Description{Rules: d.Rules[:count]}
			want := 0
			for index := range count {
				want = max(want, len(impl.FormatRule(d, index)))
			}
			if got := impl.LongestLine(beginning); got != want {
				t.Errorf("LongestLine of the first %d rules of %+v = %d, want %d", count, d, got, want)
			}
		}
	}
}

func TestCountKind(t *testing.T) {
	d := allKinds()
	for kind := impl.KindInteger; kind <= impl.KindTerminated; kind++ {
		want := 1
		if kind == impl.KindInteger {
			want = 2
		}
		if got := impl.CountKind(d, kind); got != want {
			t.Errorf("CountKind(%d) = %d, want %d", kind, got, want)
		}
		if got := impl.CountKind(impl.Description{}, kind); got != 0 {
			t.Errorf("CountKind(%d) without rules = %d", kind, got)
		}
		if got := impl.CountKind(manyRules(7), kind); kind != impl.KindInteger && kind != impl.KindChecked && got != 0 {
			t.Errorf("CountKind of a kind that no rule has, %d, = %d", kind, got)
		}
	}
	if impl.CountKind(manyRules(7), impl.KindInteger) != 3 || impl.CountKind(manyRules(7), impl.KindChecked) != 4 || impl.CountKind(manyRules(400), impl.KindInteger) != 134 {
		t.Error("CountKind of many rules")
	}
	for _, kind := range noKinds() {
		if got := impl.CountKind(d, kind); got != 0 {
			t.Errorf("CountKind(%d) = %d", kind, got)
		}
	}
}

// Rules are counted by their kind alone, whether they are valid or not.
func TestCountKindOfInvalidRules(t *testing.T) {
	for kind := impl.KindInteger; kind <= impl.KindTerminated; kind++ {
		d := impl.Description{}
		for count := range 30 {
			if got := impl.CountKind(d, kind); got != count {
				t.Errorf("CountKind(%d) of %d rules of this kind = %d", kind, count, got)
			}
			d.Rules = append(d.Rules, impl.Rule{Kind: kind%10 + 1}, impl.Rule{Kind: kind}, impl.Rule{Kind: -kind})
		}
	}
	for _, kind := range noKinds() {
		d := impl.Description{Rules: []impl.Rule{{Name: "a", Kind: kind}, {Name: "b", Kind: impl.KindFixed, Size: 1}, {Name: "c", Kind: kind}}}
		if got := impl.CountKind(d, kind); got != 2 {
			t.Errorf("CountKind(%d) of two rules with this number = %d", kind, got)
		}
		if got := impl.CountKind(d, impl.KindFixed); got != 1 {
			t.Errorf("CountKind beside rules with the number %d = %d", kind, got)
		}
	}
}

func TestWritingModifiesNothing(t *testing.T) {
	for _, d := range descriptionsToCopy() {
		g := guardDescription(d)
		for _, index := range append(outsideIndexes(len(d.Rules)), numbers(0, len(d.Rules)+1)...) {
			if got, want := impl.FormatRule(g.d, index), impl.FormatRule(d, index); got != want {
				t.Errorf("with spare capacity, FormatRule(%d) = %q, want %q", index, got, want)
			}
			for kid := -1; kid < 10; kid++ {
				if got, want := impl.KidName(g.d, index, kid), impl.KidName(d, index, kid); got != want {
					t.Errorf("with spare capacity, KidName(%d, %d) = %q, want %q", index, kid, got, want)
				}
			}
		}
		if got, want := impl.FormatDescription(g.d), impl.FormatDescription(d); got != want {
			t.Errorf("with spare capacity, FormatDescription = %q, want %q", got, want)
		}
		if got, want := impl.DescriptionNames(g.d), impl.DescriptionNames(d); !slices.Equal(got, want) {
			t.Errorf("with spare capacity, DescriptionNames = %q, want %q", got, want)
		}
		if got, want := impl.LongestLine(g.d), impl.LongestLine(d); got != want {
			t.Errorf("with spare capacity, LongestLine = %d, want %d", got, want)
		}
		for kind := -1; kind <= 11; kind++ {
			if got, want := impl.CountKind(g.d, kind), impl.CountKind(d, kind); got != want {
				t.Errorf("with spare capacity, CountKind(%d) = %d, want %d", kind, got, want)
			}
		}
		g.check(t, "a function of chapter 5")
	}
}

func TestNamesAreNewMemory(t *testing.T) {
	for _, d := range descriptionsToCopy() {
		g := guardDescription(d)
		first, second := impl.DescriptionNames(g.d), impl.DescriptionNames(g.d)
		kept := slices.Clone(second)
		whole := first[:cap(first)]
		for i := range whole {
			whole[i] = "overwritten"
		}
		g.check(t, "writing to the names")
		if !slices.Equal(second, kept) || !slices.Equal(impl.DescriptionNames(g.d), kept) {
			t.Errorf("writing to names changed others: %q, want %q", second, kept)
		}
		for index := range g.d.Rules {
			g.d.Rules[index].Name = "renamed"
		}
		overwrite(g.arrays)
		if !slices.Equal(second, kept) {
			t.Errorf("writing to the description changed its names: %q, want %q", second, kept)
		}
		for index, name := range impl.DescriptionNames(g.d) {
			if name != "renamed" {
				t.Errorf("DescriptionNames of renamed rules has %q at %d", name, index)
			}
		}
	}
}

// The lines follow from the description as it is now, not from an earlier call.
func TestLinesFollowTheDescription(t *testing.T) {
	d := allKinds()
	for range 2 {
		impl.FormatDescription(d)
		impl.FormatRule(d, 9)
	}
	d.Rules[2].Name, d.Rules[2].Bytes[0] = "mark", 0
	d.Rules[9].Names[0], d.Rules[9].Kids[2] = "start", 3
	if got := impl.FormatRule(d, 2); got != "mark const 004b" {
		t.Errorf("FormatRule(2) = %q", got)
	}
	if got := impl.FormatRule(d, 9); got != "sequence sequence start:mark id:fixed rest:fixed" {
		t.Errorf("FormatRule(9) = %q", got)
	}
}
