package tests

import (
	"reflect"
	"slices"
	"strconv"
	"strings"
	"testing"

	"loop.example/g00518/impl"
)

// behind returns the description with the rule at the end, in new memory.
func behind(d impl.Description, rule impl.Rule) impl.Description {
	return impl.Description{Rules: append(slices.Clone(d.Rules), rule)}
}

// oneSpace has the words of a line with one space between two of them.
func oneSpace(line string) string {
	words := []string{}
	for _, part := range strings.Split(line, " ") {
		if part != "" {
			words = append(words, part)
		}
	}
	return strings.Join(words, " ")
}

func checkParsed(t *testing.T, d impl.Description, line string, want impl.Rule) {
	t.Helper()
	got, ok := impl.ParseRule(d, line)
	if !ok || !sameRule(got, want) {
		t.Errorf("ParseRule(%q) = %+v, %v, want %+v", line, got, ok, want)
	}
}

func checkNotParsed(t *testing.T, d impl.Description, line string) {
	t.Helper()
	got, ok := impl.ParseRule(d, line)
	if ok || !sameRule(got, impl.Rule{}) {
		t.Errorf("ParseRule(%q) = %+v, %v, want the zero Rule and false", line, got, ok)
	}
}

// checkBack tests that the line of a valid rule at the end of allKinds is read as that rule.
func checkBack(t *testing.T, rule impl.Rule) {
	t.Helper()
	d := with(rule)
	line := impl.FormatRule(d, len(d.Rules)-1)
	if line == "" {
		t.Fatalf("%+v has no line", rule)
	}
	checkParsed(t, allKinds(), line, rule)
}

func TestLinesOfAllKindsAreRead(t *testing.T) {
	d := allKinds()
	for index, line := range allLines() {
		earlier := impl.Description{Rules: d.Rules[:index]}
		checkParsed(t, earlier, line, d.Rules[index])
		for count := index + 1; count <= len(d.Rules); count++ {
			checkNotParsed(t, impl.Description{Rules: d.Rules[:count]}, line)
		}
	}
	for _, d := range validDescriptions() {
		for index, rule := range d.Rules {
			checkParsed(t, impl.Description{Rules: d.Rules[:index]}, impl.FormatRule(d, index), rule)
		}
	}
}

// oneOfEachKind has a line of each kind, to be read behind allKinds.
func oneOfEachKind() map[string]impl.Rule {
	return map[string]impl.Rule{
		"new integer 3":                                   {Name: "new", Kind: impl.KindInteger, Size: 3},
		"new integer 4 little":                            {Name: "new", Kind: impl.KindInteger, Size: 4, Little: true},
		"new const 0a5cff":                                {Name: "new", Kind: impl.KindConst, Bytes: []byte{10, 92, 255}},
		"new fixed 64":                                    {Name: "new", Kind: impl.KindFixed, Size: 64},
		"new sized little":                                {Name: "new", Kind: impl.KindSized, Kids: []int{1}},
		"new array little option":                         {Name: "new", Kind: impl.KindArray, Kids: []int{1, 8}},
		"new sequence b:const a:const new:integer":        {Name: "new", Kind: impl.KindSequence, Names: []string{"b", "a", "new"}, Kids: []int{2, 2, 0}},
		"new choice little 0:fixed 10:little 65535:fixed": {Name: "new", Kind: impl.KindChoice, Tags: []int{0, 10, 65535}, Kids: []int{1, 3, 1, 3}},
		"new option array":                                {Name: "new", Kind: impl.KindOption, Kids: []int{5}},
		"new checked sized":                               {Name: "new", Kind: impl.KindChecked, Kids: []int{4}},
		"new terminated 00":                               {Name: "new", Kind: impl.KindTerminated, Bytes: []byte{0}},
	}
}

func TestALineOfEachKindIsRead(t *testing.T) {
	kinds := map[int]bool{}
	for line, rule := range oneOfEachKind() {
		checkParsed(t, allKinds(), line, rule)
		kinds[rule.Kind] = true
	}
	if len(kinds) != 10 {
		t.Errorf("%d kinds are read", len(kinds))
	}
}

// Without one of the rules that it uses, a line is read no more; the rules behind that one move.
func TestLinesThatNameMissingRules(t *testing.T) {
	for line, rule := range oneOfEachKind() {
		for missing := range allKinds().Rules {
			lacking := impl.Description{Rules: slices.Delete(allKinds().Rules, missing, missing+1)}
			if slices.Contains(rule.Kids, missing) {
				checkNotParsed(t, lacking, line)
				continue
			}
			moved := withoutNil(rule)
			for i, kid := range moved.Kids {
				if kid > missing {
					moved.Kids[i] = kid - 1
				}
			}
			checkParsed(t, lacking, line, moved)
		}
		if len(rule.Kids) > 0 {
			checkNotParsed(t, impl.Description{}, line)
			checkNotParsed(t, impl.Description{Rules: []impl.Rule{}}, line)
			checkNotParsed(t, impl.Description{Rules: allKinds().Rules[:0]}, line)
		} else {
			checkParsed(t, impl.Description{}, line, rule)
		}
	}
}

// spaced has the words of the line with several spaces between, before and behind them.
func spaced(line string) []string {
	return []string{
		" " + line, line + " ", "   " + line + "    ", strings.ReplaceAll(line, " ", "  "), " " + strings.ReplaceAll(line, " ", "    ") + " ",
		strings.Replace(line, " ", "  ", 1), strings.Replace(line, " ", "   ", 2), strings.Repeat(" ", 500) + strings.ReplaceAll(line, " ", strings.Repeat(" ", 100)),
	}
}

func TestSpacesInALine(t *testing.T) {
	for line, rule := range oneOfEachKind() {
		for _, other := range spaced(line) {
			checkParsed(t, allKinds(), other, rule)
		}
		// Only the space divides words.
		for _, c := range []string{"\t", "\n", "\r", "\v", "\x00", "\u00a0", "\u2003", ","} {
			checkNotParsed(t, allKinds(), strings.ReplaceAll(line, " ", c))
			checkNotParsed(t, allKinds(), strings.Replace(line, " ", " "+c, 1))
			checkNotParsed(t, allKinds(), strings.Replace(line, " ", c+" ", 1))
			checkNotParsed(t, allKinds(), c+line)
			checkNotParsed(t, allKinds(), line+c)
			checkNotParsed(t, allKinds(), line+" "+c)
		}
		for at := range len(line) + 1 {
			if at > 0 && at < len(line) && line[at-1] != ' ' && line[at] != ' ' {
				checkDefinition(t, allKinds(), line[:at]+" "+line[at:])
			}
		}
	}
}

// checkDefinition tests what ParseRule accepts by the document's definition; what it does not accept gives the zero Rule.
func checkDefinition(t *testing.T, d impl.Description, line string) bool {
	t.Helper()
	rule, ok := impl.ParseRule(d, line)
	if !ok {
		if !sameRule(rule, impl.Rule{}) {
			t.Errorf("ParseRule(%q) = %+v and false", line, rule)
		}
		return false
	}
	if got := impl.FormatRule(behind(d, rule), len(d.Rules)); got != oneSpace(line) {
		t.Errorf("ParseRule(%q) = %+v, whose line is %q", line, rule, got)
	}
	return true
}

// A line with a word left out, written twice, or put in, is read only if what then stands there is a line as well.
func TestLinesWithAWordTooFewOrTooMany(t *testing.T) {
	d := allKinds()
	for line, rule := range oneOfEachKind() {
		words := strings.Split(line, " ")
		for at := range words {
			shorter := strings.Join(slices.Delete(slices.Clone(words), at, at+1), " ")
			several := rule.Kind == impl.KindSequence || rule.Kind == impl.KindChoice && at > 2 || rule.Little && at == 3
			if accepted := checkDefinition(t, d, shorter); accepted != (several && at > 1) {
				t.Errorf("ParseRule(%q) gives %v", shorter, accepted)
			}
			checkNotParsed(t, d, strings.Join(slices.Insert(slices.Clone(words), at, words[at]), " "))
		}
		for at := range len(words) + 1 {
			for _, word := range []string{"1", "integer", "big", "x", "00", "#", ":", "x:", ":x", "const"} {
				checkNotParsed(t, d, strings.Join(slices.Insert(slices.Clone(words), at, word), " "))
			}
		}
	}
	for _, line := range []string{"", " ", "     ", "new", "new ", "integer", "#", "new fixed", "fixed 1", "1", ":", "new  "} {
		checkNotParsed(t, d, line)
		checkNotParsed(t, impl.Description{}, line)
	}
	for kind := range kindsByName() {
		checkNotParsed(t, d, "new "+kind)
		checkNotParsed(t, d, kind)
	}
	// An integer becomes one with its most significant byte last by one more word; that is all.
	checkParsed(t, d, "new integer 3 little", impl.Rule{Name: "new", Kind: impl.KindInteger, Size: 3, Little: true})
	checkNotParsed(t, d, "new integer 3 little little")
	checkNotParsed(t, d, "new integer little")
	checkNotParsed(t, d, "new integer little 3")
}

func TestLinesWithUnknownKinds(t *testing.T) {
	unknown := []string{"", "weird", "Integer", "INTEGER", "integers", "intege", "int", "const0", "fix", "size", "arrays", "seq", "choise", "options", "check", "terminate", "little", "1", "0", "new", "rule", "#", ":"}
	for line := range oneOfEachKind() {
		words := strings.Split(line, " ")
		for _, kind := range unknown {
			words[1] = kind
			checkNotParsed(t, allKinds(), strings.Join(words, " "))
		}
	}
	// The fields of one kind behind the name of another.
	fields := map[int][]string{
		impl.KindInteger: {"1", "3"}, impl.KindFixed: {"1", "3", "16"}, impl.KindConst: {"00", "16", "0102"}, impl.KindTerminated: {"00", "16"},
		impl.KindSized: {"integer", "little"}, impl.KindOption: {"integer", "little", "checked"}, impl.KindChecked: {"integer", "little", "checked"},
		impl.KindArray: {"integer checked"}, impl.KindSequence: {"x:const"}, impl.KindChoice: {"integer 1:const"},
	}
	for name, kind := range kindsByName() {
		for _, list := range fields {
			for _, words := range list {
				if got := checkDefinition(t, allKinds(), "new "+name+" "+words); got != slices.Contains(fields[kind], words) {
					t.Errorf("ParseRule of the kind %s with %q gives %v", name, words, got)
				}
			}
		}
	}
}

func TestLinesWithNames(t *testing.T) {
	noNames := []string{"A", "New", "1", "1a", "a-b", "a_b", "a:b", ":", "abcdefghijklm", "\u00e9", "a\u00e9", "\xff", "a\n", "#", "#a", "a#", "\x00", "\ta"}
	names := []string{"a", "z", "new", "a1", "z9z9", "abcdefghijkl", "little0", "x", "byte"}
	for line, rule := range oneOfEachKind() {
		fields := strings.TrimPrefix(line, "new")
		for _, name := range noNames {
			checkNotParsed(t, allKinds(), name+fields)
		}
		for _, name := range names {
			renamed := rule
			renamed.Name = name
			checkParsed(t, allKinds(), name+fields, renamed)
		}
		for _, earlier := range allKinds().Rules {
			checkNotParsed(t, allKinds(), earlier.Name+fields)
		}
	}
	// A name that only a kind has, or only a part, is free.
	checkParsed(t, impl.Description{}, "integer integer 1", allKinds().Rules[0])
	checkParsed(t, allKinds(), "magic fixed 1", impl.Rule{Name: "magic", Kind: impl.KindFixed, Size: 1})
}

func TestLinesWithNumbers(t *testing.T) {
	for size := -2; size <= 70; size++ {
		number := strconv.Itoa(size)
		if 1 <= size && size <= 4 {
			checkParsed(t, allKinds(), "new integer "+number, impl.Rule{Name: "new", Kind: impl.KindInteger, Size: size})
		} else {
			checkNotParsed(t, allKinds(), "new integer "+number)
		}
		if 2 <= size && size <= 4 {
			checkParsed(t, allKinds(), "new integer "+number+" little", impl.Rule{Name: "new", Kind: impl.KindInteger, Size: size, Little: true})
		} else {
			checkNotParsed(t, allKinds(), "new integer "+number+" little")
		}
		if 1 <= size && size <= 64 {
			checkParsed(t, allKinds(), "new fixed "+number, impl.Rule{Name: "new", Kind: impl.KindFixed, Size: size})
		} else {
			checkNotParsed(t, allKinds(), "new fixed "+number)
		}
	}
	noNumbers := []string{
		"01", "02", "+1", "+2", "-1", "-0", "00", "00002", "2.0", "1e0", "0x2", "2_", "1_0", "two", "\u0662", "2a", "a2", "2:", ":2", "1000000000001", "4294967297", "4294967298",
		"18446744073709551617", "18446744073709551618", "9223372036854775809", strings.Repeat("0", 50) + "2", strings.Repeat("1", 400),
	}
	for _, number := range noNumbers {
		checkNotParsed(t, allKinds(), "new integer "+number)
		checkNotParsed(t, allKinds(), "new integer "+number+" little")
		checkNotParsed(t, allKinds(), "new fixed "+number)
		checkNotParsed(t, allKinds(), "new choice little "+number+":const")
		checkNotParsed(t, allKinds(), "new choice little 0:const "+number+":const")
	}
}

func TestTheWordLittle(t *testing.T) {
	for _, line := range []string{"new integer 1 little", "new integer 2 big", "new integer 2 Little", "new integer 2 littl", "new integer 2 littler", "new integer 2 little 2", "new integer 2 true", "new integer 2 2", "new integer 2:little", "new little integer 2", "little new integer 2"} {
		checkNotParsed(t, allKinds(), line)
	}
	for line, rule := range oneOfEachKind() {
		if rule.Kind != impl.KindInteger || rule.Little {
			checkNotParsed(t, allKinds(), line+" little")
		}
		checkNotParsed(t, allKinds(), "little "+line)
		checkNotParsed(t, allKinds(), strings.Replace(line, " ", " little ", 1))
	}
	// Elsewhere the word is a name like any other.
	for _, rule := range []impl.Rule{
		{Name: "new", Kind: impl.KindSequence, Names: []string{"little"}, Kids: []int{1}},
		{Name: "new", Kind: impl.KindArray, Kids: []int{1, 1}},
		{Name: "new", Kind: impl.KindChecked, Kids: []int{1}},
	} {
		checkBack(t, rule)
	}
	checkParsed(t, impl.Description{}, "little integer 2 little", allKinds().Rules[1])
}

func TestLinesWithHexadecimalDigits(t *testing.T) {
	for _, c := range everyByte() {
		checkBack(t, impl.Rule{Name: "new", Kind: impl.KindConst, Bytes: []byte{c}})
		checkBack(t, impl.Rule{Name: "new", Kind: impl.KindConst, Bytes: []byte{7, c, 255 - c}})
		if c != impl.Escape {
			checkBack(t, impl.Rule{Name: "new", Kind: impl.KindTerminated, Bytes: []byte{c}})
		}
	}
	for length := 1; length <= 20; length++ {
		digits := strings.Repeat("a5", length)
		if length <= 16 {
			checkParsed(t, allKinds(), "new const "+digits, impl.Rule{Name: "new", Kind: impl.KindConst, Bytes: []byte(strings.Repeat("\xa5", length))})
		} else {
			checkNotParsed(t, allKinds(), "new const "+digits)
		}
		if length > 1 {
			checkNotParsed(t, allKinds(), "new terminated "+digits)
		}
		checkNotParsed(t, allKinds(), "new const "+digits+"0")
		checkNotParsed(t, allKinds(), "new terminated "+digits[1:])
	}
	checkNotParsed(t, allKinds(), "new terminated 5c")
	for _, digits := range []string{"0", "FF", "fF", "Ff", "0A", "000", "0g", "g0", "0x00", "-1", "+1", "0:", ":0", "\u0661\u0662", "00 00", "0a 0", "0 a", "00ZZ", "\xff\xff"} {
		checkNotParsed(t, allKinds(), "new const "+digits)
		checkNotParsed(t, allKinds(), "new terminated "+digits)
	}
}

func TestLinesWithOneNameAreRead(t *testing.T) {
	for kid, rule := range allKinds().Rules {
		checkBack(t, impl.Rule{Name: "new", Kind: impl.KindOption, Kids: []int{kid}})
		checkBack(t, impl.Rule{Name: "new", Kind: impl.KindChecked, Kids: []int{kid}})
		checkBack(t, impl.Rule{Name: "new", Kind: impl.KindArray, Kids: []int{kid % 2, kid}})
		if rule.Kind == impl.KindInteger {
			checkBack(t, impl.Rule{Name: "new", Kind: impl.KindSized, Kids: []int{kid}})
			continue
		}
		checkNotParsed(t, allKinds(), "new sized "+rule.Name)
		checkNotParsed(t, allKinds(), "new array "+rule.Name+" integer")
		checkNotParsed(t, allKinds(), "new choice "+rule.Name+" 0:integer")
	}
	// Names that a rule's name begins with, that begin with it, and the rule's own.
	for _, name := range []string{"intege", "integers", "int", "i", "Integer", "integer1", "new", "", "none", "0", "-1", "integer:", ":integer", "a:integer", "1:integer"} {
		for _, kind := range []string{"sized", "option", "checked", "array integer", "array " + name, "choice " + name} {
			checkNotParsed(t, allKinds(), "new "+kind+" "+name)
		}
		checkNotParsed(t, allKinds(), "new array "+name+" integer")
		checkNotParsed(t, allKinds(), "new sequence a:"+name)
		checkNotParsed(t, allKinds(), "new sequence a:integer b:"+name)
		checkNotParsed(t, allKinds(), "new choice integer 1:"+name)
		checkNotParsed(t, allKinds(), "new choice "+name+" 1:integer")
	}
}

// Names that begin with each other are told apart by their ends.
func TestNamesThatBeginWithEachOther(t *testing.T) {
	d := impl.Description{}
	for _, name := range []string{"a", "aaa", "aa", "aab", "ab", "b"} {
		d.Rules = append(d.Rules, impl.Rule{Name: name, Kind: impl.KindInteger, Size: 1})
	}
	for one := range d.Rules {
		for other := range d.Rules {
			for _, rule := range []impl.Rule{
				{Name: "new", Kind: impl.KindChecked, Kids: []int{one}},
				{Name: "new", Kind: impl.KindArray, Kids: []int{one, other}},
				{Name: "new", Kind: impl.KindSequence, Names: []string{"aa", "a", "b"}, Kids: []int{one, other, one}},
				{Name: "new", Kind: impl.KindChoice, Tags: []int{1, 11, 111}, Kids: []int{other, one, other, one}},
			} {
				checkParsed(t, d, impl.FormatRule(behind(d, rule), len(d.Rules)), rule)
			}
		}
	}
}

func TestLinesOfSequencesAreRead(t *testing.T) {
	for count := 1; count <= 12; count++ {
		rule := impl.Rule{Name: "new", Kind: impl.KindSequence, Names: partNames(count)}
		line := "new sequence"
		for part := range count {
			kid := part * 3 % 11
			rule.Kids = append(rule.Kids, kid)
			line += " p" + strconv.Itoa(part) + ":" + allKinds().Rules[kid].Name
		}
		if count <= impl.MaxParts {
			checkParsed(t, allKinds(), line, rule)
		} else {
			checkNotParsed(t, allKinds(), line)
		}
	}
	for _, parts := range []string{
		"a", "integer", "a:", ":integer", ":", "::", "a::integer", "a:integer:", "a:integer:integer", ":a:integer", "a:b:integer", "a;integer", "a=integer", "a :integer", "a: integer", "a : integer",
		"A:integer", "1:integer", "1a:integer", "abcdefghijklm:integer", "a_b:integer", "\u00e9:integer", "#a:integer", "a:none", "a:Integer", "a:new",
		"a:integer a:integer", "a:integer a:little", "a:integer b:little a:const", "a:integer b:little b:const",
		"a:integer b", "a b:integer", "a:integer b:", "a:integer :little", "a:integer :", "a: b:integer", "a:integer,b:integer", "a:integerb:integer", "a:integer integer",
	} {
		checkNotParsed(t, allKinds(), "new sequence "+parts)
	}
	checkNotParsed(t, allKinds(), "new sequence"+strings.Repeat(" a:integer", 100000))
}

func TestLinesOfChoicesAreRead(t *testing.T) {
	for count := 1; count <= 12; count++ {
		rule := impl.Rule{Name: "new", Kind: impl.KindChoice, Kids: []int{1}}
		line := "new choice little"
		for part := range count {
			kid, tag := part*3%11, part*part*500+part
			rule.Kids, rule.Tags = append(rule.Kids, kid), append(rule.Tags, tag)
			line += " " + strconv.Itoa(tag) + ":" + allKinds().Rules[kid].Name
		}
		if count <= impl.MaxParts {
			checkParsed(t, allKinds(), line, rule)
		} else {
			checkNotParsed(t, allKinds(), line)
		}
	}
	for _, parts := range []string{
		"integer", "integer 0", "integer const", "integer :const", "integer 0:", "integer :", "integer 0::const", "integer 0:const:", "integer 0:0:const", "integer 0 :const", "integer 0: const",
		"integer 0:none", "integer 0:Const", "integer 0:new", "0:const", "0:const integer", "0:integer 1:const", "integer:const", "integer a:const", "integer 00:const", "integer 01:const", "integer -1:const", "integer +1:const",
		"integer 256:const", "integer 1000000000000:const", "integer 1000000000001:const", "integer 1:const 256:const", "little 65536:const",
		"integer 1:const 1:const", "integer 2:const 1:const", "integer 0:const 2:fixed 1:const", "integer 0:const 2:fixed 2:const", "integer 255:const 0:fixed",
		"integer 0:const 1", "integer 0:const 1:", "integer 0:const :fixed", "integer 0:const integer", "integer 0:const,1:fixed", "none 0:const", "const 0:const", "integer little 0:const",
	} {
		checkNotParsed(t, allKinds(), "new choice "+parts)
	}
	checkNotParsed(t, allKinds(), "new choice integer"+strings.Repeat(" 1:integer", 100000))
	checkNotParsed(t, allKinds(), "new array"+strings.Repeat(" integer", 100000))
}

// Each integer is tried with the largest tag that it represents, and with the next one.
func TestTagsThatTheIntegerRepresents(t *testing.T) {
	for size := 1; size <= 4; size++ {
		for _, little := range []bool{false, size > 1} {
			d := impl.Description{Rules: []impl.Rule{{Name: "n", Kind: impl.KindInteger, Size: size, Little: little}}}
			limit := 1<<(8*size) - 1
			for _, tag := range []int{0, 1, limit - 1, limit} {
				checkParsed(t, d, "new choice n "+strconv.Itoa(tag)+":n", impl.Rule{Name: "new", Kind: impl.KindChoice, Tags: []int{tag}, Kids: []int{0, 0}})
			}
			for _, tag := range []int{-1, limit + 1, limit + 2, limit * 256, 1 << 40} {
				checkNotParsed(t, d, "new choice n "+strconv.Itoa(tag)+":n")
				checkNotParsed(t, d, "new choice n 0:n "+strconv.Itoa(tag)+":n")
			}
		}
	}
}

// Every line that differs from one of a kind in one byte, or lacks one, is read by the definition or not at all.
func TestWhatIsReadIsWrittenAsItsWords(t *testing.T) {
	accepted, rejected := 0, 0
	try := func(d impl.Description, line string) {
		if checkDefinition(t, d, line) {
			accepted++
		} else {
			rejected++
		}
	}
	for line := range oneOfEachKind() {
		for at := range len(line) {
			try(allKinds(), line[:at]+line[at+1:])
			try(allKinds(), line[:at])
			try(allKinds(), line[at:])
			for _, c := range []byte("a1: #\n\xffF") {
				try(allKinds(), line[:at]+string([]byte{c})+line[at+1:])
				try(allKinds(), line[:at]+string([]byte{c})+line[at:])
			}
		}
	}
	for _, text := range texts() {
		try(allKinds(), text)
		for name := range kindsByName() {
			try(allKinds(), "new "+name+" "+text)
			try(impl.Description{Rules: []impl.Rule{{Name: text, Kind: impl.KindInteger, Size: 1}}}, "new "+name+" "+text)
			try(impl.Description{Rules: []impl.Rule{{Name: text, Kind: impl.KindInteger, Size: 1}}}, "new "+name+" a:"+text)
		}
	}
	if accepted < 100 || rejected < 1000 {
		t.Errorf("%d lines are accepted and %d are not", accepted, rejected)
	}
}

// oddDescriptions are invalid: names belong to several rules, or are none, and rules do not meet their kinds.
func oddDescriptions() []impl.Description {
	rule := func(name string, kind int, size int) impl.Rule { return impl.Rule{Name: name, Kind: kind, Size: size} }
	return []impl.Description{
		{Rules: []impl.Rule{rule("n", impl.KindFixed, 1), rule("n", impl.KindInteger, 1), rule("n", impl.KindInteger, 2)}},
		{Rules: []impl.Rule{rule("n", impl.KindInteger, 5), rule("n", impl.KindInteger, 1), rule("n", impl.KindFixed, 2), rule("m", 0, 0)}},
		{Rules: []impl.Rule{rule("a", impl.KindInteger, 1), rule("a b", impl.KindInteger, 2), rule("b", impl.KindInteger, 2), rule("b a", impl.KindFixed, 3)}},
		{Rules: []impl.Rule{rule("b a", impl.KindInteger, 3), rule("a b", impl.KindInteger, 2), rule("a", impl.KindFixed, 1), rule("b", impl.KindInteger, 1)}},
		{Rules: []impl.Rule{rule("", impl.KindInteger, 1), rule(" ", impl.KindInteger, 1), rule(" a", impl.KindInteger, 1), rule("a ", impl.KindInteger, 1)}},
		{Rules: []impl.Rule{rule("x", impl.KindInteger, 1), rule("x y:x", impl.KindInteger, 1), rule("x 1:x", impl.KindInteger, 1), rule("y:x", impl.KindFixed, 1)}},
		{Rules: []impl.Rule{rule("x x:x", impl.KindInteger, 1), rule("x", impl.KindInteger, 1), rule(":", impl.KindInteger, 1), rule("1:", impl.KindInteger, 4)}},
		{Rules: []impl.Rule{rule("A", impl.KindInteger, 1), rule("#", impl.KindInteger, 0), rule("\n", impl.KindInteger, 1), rule("\xff", impl.KindInteger, 1)}},
		{Rules: []impl.Rule{everyField(), everyField(), {}, {}}},
		{Rules: make([]impl.Rule, 4)},
	}
}

// lists returns all lists of length elements in the range 0 to count-1, in ascending order.
func lists(count int, length int) [][]int {
	if length == 0 {
		return [][]int{{}}
	}
	all := [][]int{}
	for first := range count {
		for _, rest := range lists(count, length-1) {
			all = append(all, append([]int{first}, rest...))
		}
	}
	return all
}

// someRules has rules with up to three kids, of all kinds that have any; those that are valid behind d are among them.
func someRules(d impl.Description) []impl.Rule {
	rules := []impl.Rule{}
	for length := 1; length <= 3; length++ {
		for _, kids := range lists(len(d.Rules), length) {
			for _, kind := range []int{impl.KindSized, impl.KindArray, impl.KindOption, impl.KindChecked} {
				rules = append(rules, impl.Rule{Name: "new", Kind: kind, Kids: kids})
			}
			for _, names := range [][]string{{"x", "y", "z"}, {"y", "x", "b"}, {"b", "z", "a"}} {
				rules = append(rules, impl.Rule{Name: "new", Kind: impl.KindSequence, Names: names[:length], Kids: kids})
			}
			for _, tags := range [][]int{{1, 2}, {0, 1}, {1, 256}, {65536, 1 << 31}} {
				rules = append(rules, impl.Rule{Name: "new", Kind: impl.KindChoice, Tags: tags[:length-1], Kids: kids})
			}
		}
	}
	return rules
}

// Also behind an invalid description, the rule is the one of which FormatRule gives the line, and of several the one with the lowest kids.
func TestLinesBehindInvalidDescriptions(t *testing.T) {
	read := 0
	for at, d := range oddDescriptions() {
		lowest := map[string]impl.Rule{}
		for _, rule := range someRules(d) {
			line := impl.FormatRule(behind(d, rule), len(d.Rules))
			if line == "" || line != oneSpace(line) {
				checkDefinition(t, d, line)
				continue
			}
			if other, seen := lowest[line]; !seen || slices.Compare(rule.Kids, other.Kids) < 0 {
				lowest[line] = rule
			}
		}
		for line, rule := range lowest {
			// With more than three parts there may be a rule with still lower kids.
			untidy := "  " + strings.ReplaceAll(line, " ", "  ")
			if got, _ := impl.ParseRule(d, untidy); !checkDefinition(t, d, untidy) || slices.Compare(got.Kids, rule.Kids) > 0 {
				t.Errorf("behind the description %d, ParseRule(%q) = %+v, want %+v", at, line, got, rule)
			}
			read++
		}
	}
	if read < 300 {
		t.Errorf("only %d lines are read", read)
	}
}

func TestNamesOfSeveralRulesAndNamesWithSpaces(t *testing.T) {
	odd := oddDescriptions()
	for _, c := range []struct {
		d    impl.Description
		line string
		want impl.Rule
	}{
		// The first rule with the name is no integer, and the second one is too small for the tag.
		{odd[0], "new sized n", impl.Rule{Name: "new", Kind: impl.KindSized, Kids: []int{1}}},
		{odd[0], "new array n n", impl.Rule{Name: "new", Kind: impl.KindArray, Kids: []int{1, 0}}},
		{odd[0], "new choice n 255:n", impl.Rule{Name: "new", Kind: impl.KindChoice, Tags: []int{255}, Kids: []int{1, 0}}},
		{odd[0], "new choice n 256:n", impl.Rule{Name: "new", Kind: impl.KindChoice, Tags: []int{256}, Kids: []int{2, 0}}},
		{odd[0], "new sequence x:n", impl.Rule{Name: "new", Kind: impl.KindSequence, Names: []string{"x"}, Kids: []int{0}}},
		{odd[2], "new option a b", impl.Rule{Name: "new", Kind: impl.KindOption, Kids: []int{1}}},
		{odd[2], "new array a b a", impl.Rule{Name: "new", Kind: impl.KindArray, Kids: []int{0, 3}}},
		{odd[3], "new array a b a", impl.Rule{Name: "new", Kind: impl.KindArray, Kids: []int{1, 2}}},
		{odd[4], "new sequence x: y:", impl.Rule{Name: "new", Kind: impl.KindSequence, Names: []string{"x", "y"}, Kids: []int{0, 0}}},
		{odd[4], "new sequence x: a", impl.Rule{Name: "new", Kind: impl.KindSequence, Names: []string{"x"}, Kids: []int{2}}},
		// Two parts with the name x would be invalid.
		{odd[6], "new sequence x:x x:x", impl.Rule{Name: "new", Kind: impl.KindSequence, Names: []string{"x"}, Kids: []int{0}}},
		{odd[6], "new sequence y:x z::", impl.Rule{Name: "new", Kind: impl.KindSequence, Names: []string{"y", "z"}, Kids: []int{1, 2}}},
	} {
		checkParsed(t, c.d, c.line, c.want)
	}
	checkNotParsed(t, odd[0], "new choice n 65536:n")
	checkNotParsed(t, odd[4], "new option")
	checkNotParsed(t, odd[4], "new option a")
	checkNotParsed(t, odd[4], "new array a")
	checkNotParsed(t, odd[5], "new sequence y:x y:x y:x y:x")
}

// The kinds without kids are read whatever stands in front of them, but for their names.
func TestOtherLinesBehindInvalidDescriptions(t *testing.T) {
	for _, d := range append(oddDescriptions(), manyRules(impl.MaxRules), manyRules(impl.MaxRules+1), manyRules(400)) {
		for line, rule := range oneOfEachKind() {
			if len(rule.Kids) == 0 {
				checkParsed(t, d, line, rule)
				for _, earlier := range d.Rules {
					if earlier.Name == oneSpace(earlier.Name) {
						checkNotParsed(t, d, strings.Replace(line, "new", earlier.Name, 1))
					}
				}
			}
		}
	}
	d := manyRules(400)
	checkParsed(t, d, "new choice r0 7:r399 8:r0", impl.Rule{Name: "new", Kind: impl.KindChoice, Tags: []int{7, 8}, Kids: []int{0, 399, 0}})
	checkParsed(t, d, "new checked r399", impl.Rule{Name: "new", Kind: impl.KindChecked, Kids: []int{399}})
}

// Many rules of one name do not multiply the ways that are tried.
func TestLinesBehindManyRulesOfOneName(t *testing.T) {
	d := impl.Description{}
	for i := range 300 {
		d.Rules = append(d.Rules, impl.Rule{Name: "n", Kind: impl.KindInteger, Size: 1 + i/299})
	}
	parts := "a:n b:n c:n d:n e:n f:n g:n h:n"
	checkParsed(t, d, "new sequence "+parts, impl.Rule{Name: "new", Kind: impl.KindSequence, Names: strings.Split("abcdefgh", ""), Kids: make([]int, 8)})
	checkNotParsed(t, d, "new sequence "+parts[:len(parts)-1]+"m")
	checkNotParsed(t, d, "new sequence "+strings.Replace(parts, "h", "a", 1))
	checkParsed(t, d, "new choice n 0:n 1:n 2:n 3:n 4:n 5:n 6:n 256:n", impl.Rule{Name: "new", Kind: impl.KindChoice, Tags: append(numbers(0, 7), 256), Kids: append([]int{299}, make([]int, 8)...)})
	checkNotParsed(t, d, "new choice n 0:n 1:n 2:n 3:n 4:n 5:n 6:n 65536:n")
	checkNotParsed(t, d, "new choice n 0:n 1:n 2:n 3:n 4:n 5:n 6:n 7:m")
}

func TestParseKid(t *testing.T) {
	rules := func(names ...string) impl.Description {
		d := impl.Description{}
		for _, name := range names {
			d.Rules = append(d.Rules, impl.Rule{Name: name})
		}
		return d
	}
	cases := []struct {
		d    impl.Description
		name string
		kid  int
		ok   bool
	}{
		{rules(), "a", 0, false}, {rules(), "", 0, false}, {impl.Description{Rules: []impl.Rule{}}, "", 0, false},
		{rules("a"), "a", 0, true}, {rules("a"), "b", 0, false}, {rules("a"), "", 0, false}, {rules("a"), "aa", 0, false}, {rules("aa"), "a", 0, false}, {rules("a"), "A", 0, false},
		{rules("a", "b", "c"), "a", 0, true}, {rules("a", "b", "c"), "b", 1, true}, {rules("a", "b", "c"), "c", 2, true}, {rules("a", "b", "c"), "d", 0, false}, {rules("a", "b", "c"), "", 0, false},
		{rules("a", "b", "b", "a"), "a", 0, true}, {rules("a", "b", "b", "a"), "b", 1, true}, {rules("a", "b", "b", "b"), "b", 1, true},
		{rules(""), "", 0, true}, {rules("a", "", ""), "", 1, true}, {rules("a", " "), "", 0, false}, {rules("a", " "), " ", 1, true}, {rules("a b", "a"), "a", 1, true}, {rules("a b", "a"), "a b", 0, true},
		{rules("\xff", "\ufffd"), "\ufffd", 1, true}, {rules("\xff", "\ufffd"), "\xff", 0, true},
	}
	for _, c := range cases {
		if kid, ok := impl.ParseKid(c.d, c.name); kid != c.kid || ok != c.ok {
			t.Errorf("ParseKid(%q, %q) = %d, %v, want %d, %v", impl.DescriptionNames(c.d), c.name, kid, ok, c.kid, c.ok)
		}
	}
	// Whatever the kinds, and whether the rules are valid or not.
	for _, d := range append(descriptionsToCopy(), manyRules(400)) {
		for _, name := range append(impl.DescriptionNames(d), "", "none", "integer", "spare", "sequence") {
			want := impl.FindRule(d, name)
			kid, ok := impl.ParseKid(d, name)
			if ok != (want >= 0) || kid != max(want, 0) {
				t.Errorf("ParseKid(%q, %q) = %d, %v, but FindRule = %d", impl.DescriptionNames(d), name, kid, ok, want)
			}
		}
	}
}

func checkAdded(t *testing.T, d impl.Description, line string, want bool) {
	t.Helper()
	rule, parsed := impl.ParseRule(d, line)
	if want && !parsed {
		t.Fatalf("ParseRule(%q) is false", line)
	}
	rules := d.Rules
	if want {
		rules = behind(d, rule).Rules
	}
	got, ok := impl.AddRule(d, line)
	if ok != want || !sameRules(got.Rules, rules) {
		t.Errorf("AddRule of %q to %d rules = %+v, %v, want %v", line, len(d.Rules), got, ok, want)
	}
}

func TestAddRule(t *testing.T) {
	d := allKinds()
	for line := range oneOfEachKind() {
		checkAdded(t, d, line, true)
		checkAdded(t, d, " "+strings.ReplaceAll(line, " ", "   "), true)
		checkAdded(t, d, line+" x", false)
	}
	for _, line := range []string{"", "  ", "# comment", "#", "new", "new integer", "integer integer 1", "new integer 01", "new option none", "new integer 1\n", "new integer 1\nother integer 1"} {
		checkAdded(t, d, line, false)
		checkAdded(t, impl.Description{}, line, line == "integer integer 1")
	}
	// One line after the other.
	built := impl.Description{}
	for index, line := range allLines() {
		next, ok := impl.AddRule(built, line)
		if !ok || !sameRules(next.Rules, d.Rules[:index+1]) || !sameRules(built.Rules, d.Rules[:index]) {
			t.Fatalf("AddRule(%q) = %+v, %v", line, next, ok)
		}
		if again, ok := impl.AddRule(next, line); ok || !sameRules(again.Rules, next.Rules) {
			t.Errorf("AddRule of %q for the second time = %+v, %v", line, again, ok)
		}
		built = next
	}
	if !impl.EqualDescriptions(built, d) || !impl.IsValidDescription(built) {
		t.Errorf("the lines give %+v", built)
	}
}

func TestAddRuleAtTheLimit(t *testing.T) {
	for _, count := range []int{0, 1, 2, impl.MaxRules - 2, impl.MaxRules - 1, impl.MaxRules, impl.MaxRules + 1, impl.MaxRules + 2, 2 * impl.MaxRules, 400} {
		checkAdded(t, manyRules(count), "new integer 1", count < impl.MaxRules)
		checkAdded(t, manyRules(count), "new checked r0", 0 < count && count < impl.MaxRules)
		checkAdded(t, manyRules(count), "new integer 0", false)
		checkAdded(t, manyRules(count), "r0 integer 1", count == 0)
		unnamed := impl.Description{Rules: make([]impl.Rule, count)}
		checkAdded(t, unnamed, "new fixed 5", count < impl.MaxRules)
		checkAdded(t, unnamed, "new fixed", false)
	}
}

func TestAddRuleToInvalidDescriptions(t *testing.T) {
	for _, d := range append(oddDescriptions(), descriptionsToCopy()...) {
		fits := len(d.Rules) < impl.MaxRules
		checkAdded(t, d, "new fixed 5", fits)
		checkAdded(t, d, "new fixed 65", false)
		checkAdded(t, d, "new option none", false)
		checkAdded(t, d, "", false)
		if extended, ok := impl.AddRule(d, "new fixed 5"); ok && impl.IsValidDescription(extended) != (impl.IsValidDescription(d) || len(d.Rules) == 0) {
			t.Errorf("a rule changes whether %+v is valid", d)
		}
	}
	checkAdded(t, oddDescriptions()[0], "new sized n", true)
	checkAdded(t, oddDescriptions()[0], "n integer 1", false)
}

func checkDescription(t *testing.T, text string, want impl.Description) {
	t.Helper()
	got, line := impl.ParseDescription(text)
	if line != 0 || !sameRules(got.Rules, want.Rules) || !impl.EqualDescriptions(got, want) {
		t.Errorf("ParseDescription(%q) = %+v, %d, want %+v", text, got, line, want)
	}
	if got, formatted := impl.NormalizeText(text), impl.FormatDescription(want); got != formatted {
		t.Errorf("NormalizeText(%q) = %q, want %q", text, got, formatted)
	}
}

func checkNoDescription(t *testing.T, text string, want int) {
	t.Helper()
	got, line := impl.ParseDescription(text)
	if line != want || len(got.Rules) != 0 {
		t.Errorf("ParseDescription(%q) = %+v, %d, want %d", text, got, line, want)
	}
	if got := impl.NormalizeText(text); got != "" {
		t.Errorf("NormalizeText(%q) = %q", text, got)
	}
}

func TestADescriptionIsReadFromItsText(t *testing.T) {
	for _, d := range validDescriptions() {
		text := impl.FormatDescription(d)
		checkDescription(t, text, d)
		checkDescription(t, strings.TrimSuffix(text, "\n"), d)
		for count := 1; count <= len(d.Rules); count++ {
			beginning := impl.Description{Rules: d.Rules[:count]}
			checkDescription(t, impl.FormatDescription(beginning), beginning)
		}
	}
	checkDescription(t, "byte integer 1\npoint sequence x:byte y:byte\n", impl.Description{Rules: []impl.Rule{
		{Name: "byte", Kind: impl.KindInteger, Size: 1},
		{Name: "point", Kind: impl.KindSequence, Names: []string{"x", "y"}, Kids: []int{0, 0}},
	}})
}

// skipped has lines that are comments or have no words.
func skipped() []string {
	return []string{
		"", " ", "     ", "#", "##", "# comment", "#comment", " # comment", "      #", "# new integer 1", "#new integer 1", "   #new integer 1", "# # #", "#\t", "#\x00", "#\xff", "#: a:b", "#\r",
		strings.Repeat(" ", 300), strings.Repeat("#", 300), "# " + strings.Repeat("long ", 100),
	}
}

// notSkipped has lines that are no rules and no comments either.
func notSkipped() []string {
	return []string{
		"a", "a #", "a # b", "a#", "new integer 1 # comment", "new integer 1 #", "new #integer 1", "new# integer 1", "\t", "\r", "\t#", "\t# comment", "\x00", "\v", "\u00a0", "\u00a0#", " \r", "  a  ", "-- comment", "// comment",
		";", "\uff03", "\xff", ":", "\"#\"", "new", "new integer", "new integer 01", "new integer 1 little", "integer integer 1", "1", "new integer 1\r", "new\tinteger\t1",
	}
}

func TestCommentsAndEmptyLinesAreSkipped(t *testing.T) {
	d, lines := allKinds(), allLines()
	for _, line := range skipped() {
		for at := range len(lines) + 1 {
			text := strings.Join(slices.Insert(slices.Clone(lines), at, line), "\n")
			checkDescription(t, text+"\n", d)
			checkDescription(t, text, d)
			text = strings.Join(slices.Insert(slices.Clone(lines), at, line, line, "", line), "\n")
			checkDescription(t, text+"\n", d)
			checkDescription(t, text, d)
		}
		between := line + "\n" + strings.Join(lines, "\n"+line+"\n") + "\n" + line
		checkDescription(t, between, d)
		checkDescription(t, between+"\n\n\n\n", d)
	}
	all := strings.Join(skipped(), "\n")
	checkDescription(t, all+"\n"+strings.Join(lines, "\n"+all+"\n")+"\n"+all, d)
	for _, line := range spaced("integer integer 1") {
		checkDescription(t, line, manyRulesNamed("integer"))
		checkDescription(t, "# one\n"+line+"\n", manyRulesNamed("integer"))
	}
}

func manyRulesNamed(names ...string) impl.Description {
	d := impl.Description{}
	for _, name := range names {
		d.Rules = append(d.Rules, impl.Rule{Name: name, Kind: impl.KindInteger, Size: 1})
	}
	return d
}

// Every line that is not accepted is put first, in the middle and last, with and without skipped lines in front of it.
func TestTheFirstLineThatIsNotAccepted(t *testing.T) {
	lines := allLines()
	for _, line := range notSkipped() {
		for at := range len(lines) + 1 {
			if line == "integer integer 1" && at == 0 {
				// At the start it is the rule itself, which then stands twice.
				checkNoDescription(t, line+"\n"+strings.Join(lines, "\n"), 2)
				continue
			}
			with := slices.Insert(slices.Clone(lines), at, line)
			checkNoDescription(t, strings.Join(with, "\n"), at+1)
			checkNoDescription(t, strings.Join(with, "\n")+"\n", at+1)
			checkNoDescription(t, strings.Join(append(with, "no", "x y z", "# end"), "\n"), at+1)
			commented := slices.Insert(slices.Clone(with), at, "", "# comment", "   ")
			checkNoDescription(t, strings.Join(commented, "\n"), at+4)
			commented = slices.Insert(commented, 0, "#", "\u0020", "")
			checkNoDescription(t, strings.Join(commented, "\n")+"\n\n", at+7)
		}
		if line != "integer integer 1" {
			checkNoDescription(t, line, 1)
			checkNoDescription(t, "\n"+line+"\n", 2)
			checkNoDescription(t, "# a\n\n \n"+line, 4)
		}
	}
	checkNoDescription(t, "a integer 1\nb option c\n", 2)
	checkNoDescription(t, "a option b\nb integer 1\n", 1)
	checkNoDescription(t, "a integer 1\r\nb integer 1\r\n", 1)
}

func TestTextsWithoutRules(t *testing.T) {
	for _, c := range []struct {
		text string
		want int
	}{
		{"", 1}, {"\n", 2}, {"\n\n", 3}, {"# only\n", 2}, {"# only", 2}, {" ", 2}, {"  \n", 2}, {"#\n#\n#", 4}, {"#\n#\n#\n", 4}, {"#\n\n", 3}, {"\n#", 3}, {"# a\n\n   \n# b\n\n", 6},
	} {
		checkNoDescription(t, c.text, c.want)
	}
	for _, line := range skipped() {
		for count := 1; count <= 40; count++ {
			text := strings.Repeat(line+"\n", count)
			checkNoDescription(t, text, count+1)
			checkNoDescription(t, text+"# end", count+2)
			checkNoDescription(t, text+"new", count+1)
		}
	}
}

func TestTextsWithTooManyRules(t *testing.T) {
	lines := []string{}
	for index := range 60 {
		lines = append(lines, "r"+strconv.Itoa(index)+" integer 1")
		text := strings.Join(lines, "\n")
		if index < impl.MaxRules {
			checkDescription(t, text, manyRulesNamed(rNames(index+1)...))
			checkDescription(t, "# first\n\n"+text+"\n# last\n", manyRulesNamed(rNames(index+1)...))
			continue
		}
		checkNoDescription(t, text, impl.MaxRules+1)
		checkNoDescription(t, text+"\n", impl.MaxRules+1)
		checkNoDescription(t, "# first\n\n"+text+"\n# last\n", impl.MaxRules+3)
		checkNoDescription(t, strings.Join(lines, "\n\n"), 2*impl.MaxRules+1)
	}
	full := impl.FormatDescription(manyRules(impl.MaxRules))
	checkDescription(t, full+strings.Repeat("# more\n\n", 50), manyRules(impl.MaxRules))
	checkNoDescription(t, full+strings.Repeat("# more\n\n", 50)+"new integer 1", impl.MaxRules+101)
	checkNoDescription(t, full+"none at all", impl.MaxRules+1)
}

func rNames(count int) []string {
	names := []string{}
	for index := range count {
		names = append(names, "r"+strconv.Itoa(index))
	}
	return names
}

func TestIsComment(t *testing.T) {
	for _, line := range skipped() {
		if !impl.IsComment(line) {
			t.Errorf("IsComment(%q) = false", line)
		}
	}
	for _, line := range append(notSkipped(), allLines()...) {
		if impl.IsComment(line) {
			t.Errorf("IsComment(%q) = true", line)
		}
	}
	for _, c := range everyByte() {
		for _, spaces := range []string{"", " ", "    "} {
			if got, want := impl.IsComment(spaces+string([]byte{c})), c == ' ' || c == '#'; got != want {
				t.Errorf("IsComment(%q) = %v", spaces+string([]byte{c}), got)
			}
			if got, want := impl.IsComment(spaces+string([]byte{c, '#', 'a'})), c == ' ' || c == '#'; got != want {
				t.Errorf("IsComment(%q) = %v", spaces+string([]byte{c, '#', 'a'}), got)
			}
		}
	}
	// A newline in the line is a character like any other.
	for line, want := range map[string]bool{"\n": false, "#\n": true, "#\na integer 1": true, "\n#": false, " \n": false, "a\n#": false} {
		if got := impl.IsComment(line); got != want {
			t.Errorf("IsComment(%q) = %v", line, got)
		}
	}
}

// A line is skipped if a rule is still read behind it; otherwise it is the first line that is not accepted.
func TestIsCommentIsWhatParseDescriptionSkips(t *testing.T) {
	for _, line := range slices.Concat(skipped(), notSkipped(), texts()) {
		if strings.Contains(line, "\n") {
			continue
		}
		got, at := impl.ParseDescription(line + "\ninteger integer 1\n")
		if impl.IsComment(line) != (at == 0 && sameRules(got.Rules, manyRulesNamed("integer").Rules)) {
			t.Errorf("IsComment(%q) = %v, but ParseDescription = %+v, %d", line, impl.IsComment(line), got, at)
		}
	}
}

func TestCountRuleLines(t *testing.T) {
	for _, c := range []struct {
		text string
		want int
	}{
		{"", 0}, {"\n", 0}, {"\n\n\n", 0}, {" ", 0}, {"#", 0}, {"# a\n# b", 0}, {"a", 1}, {"a\n", 1}, {"a\n\n", 1}, {"\na", 1}, {"a\nb", 2}, {"a\nb\n", 2}, {"a\n#\nb\n", 2}, {"# a\n\nb c d\n", 1},
		{"a # b\n # c\n  d\n", 2}, {"\t\n", 1}, {"\r\n\r\n", 2}, {"a\n a\n", 2}, {strings.Repeat("a\n", 1000), 1000}, {strings.Repeat("a\n\n#\n", 100), 100},
	} {
		if got := impl.CountRuleLines(c.text); got != c.want {
			t.Errorf("CountRuleLines(%q) = %d, want %d", c.text, got, c.want)
		}
	}
	for _, d := range validDescriptions() {
		if got := impl.CountRuleLines(impl.FormatDescription(d)); got != len(d.Rules) {
			t.Errorf("CountRuleLines of %d rules = %d", len(d.Rules), got)
		}
	}
	// Whether a line is accepted does not matter.
	mixed := slices.Concat(skipped(), notSkipped(), allLines(), skipped(), notSkipped(), skipped())
	for _, text := range []string{strings.Join(mixed, "\n"), strings.Join(mixed, "\n") + "\n", "\n" + strings.Join(mixed, "\n\n")} {
		if got, want := impl.CountRuleLines(text), 2*len(notSkipped())+len(allLines()); got != want {
			t.Errorf("CountRuleLines of mixed lines = %d, want %d", got, want)
		}
	}
	for _, text := range texts() {
		want := 0
		for _, line := range strings.Split(text, "\n") {
			if rest := strings.TrimLeft(line, " "); rest != "" && rest[0] != '#' {
				want++
			}
		}
		if got := impl.CountRuleLines(text); got != want {
			t.Errorf("CountRuleLines(%q) = %d, want %d", text, got, want)
		}
	}
}

func TestNormalizeText(t *testing.T) {
	for _, d := range validDescriptions() {
		text := impl.FormatDescription(d)
		if got := impl.NormalizeText(text); got != text {
			t.Errorf("NormalizeText(%q) = %q", text, got)
		}
		untidy := "# head\n\n"
		for index := range d.Rules {
			untidy += "  " + strings.ReplaceAll(impl.FormatRule(d, index), " ", "   ") + "  \n # a comment\n   \n"
		}
		for _, other := range []string{untidy, untidy + "#", strings.TrimSuffix(text, "\n"), "\n" + text, text + "\n\n", untidy[:len(untidy)-1]} {
			got := impl.NormalizeText(other)
			if got != text {
				t.Errorf("NormalizeText(%q) = %q, want %q", other, got, text)
			}
			if again := impl.NormalizeText(got); again != got {
				t.Errorf("NormalizeText of its own result %q = %q", got, again)
			}
		}
	}
	for text, want := range map[string]string{
		" a   integer 1": "a integer 1\n", "a": "", "": "", "#": "", "\n": "", "a integer 1\nb": "", "b\na integer 1": "", "a integer 1\na integer 1": "", "a integer 01": "", "a const FF": "",
		"a integer 1 # one": "", "#\na integer  2 little\n#": "a integer 2 little\n", "a integer 1\n\n\n  b  option   a": "a integer 1\nb option a\n",
	} {
		if got := impl.NormalizeText(text); got != want {
			t.Errorf("NormalizeText(%q) = %q, want %q", text, got, want)
		}
	}
}

// linesToRead has lines that some of descriptionsToCopy and of oddDescriptions accept, and lines that they do not.
func linesToRead() []string {
	lines := []string{"", "# comment", "new", "spare integer 1", "new option spare", "new option integer", "new checked r0", "new sized n", "new sequence x:full y:full", "new sequence x:r0 y:r1 z:r2", "new choice n 1:n 256:n", "new choice r0 1:r0 2:r1", "new array r0 r1"}
	for line := range oneOfEachKind() {
		lines = append(lines, line, line+" x")
	}
	slices.Sort(lines)
	return lines
}

func TestReadingModifiesNothing(t *testing.T) {
	for _, d := range append(descriptionsToCopy(), oddDescriptions()...) {
		g := guardDescription(d)
		for _, line := range linesToRead() {
			rule, ok := impl.ParseRule(d, line)
			if got, same := impl.ParseRule(g.d, line); same != ok || !sameRule(got, rule) {
				t.Errorf("with spare capacity, ParseRule(%q) = %+v, %v, want %+v, %v", line, got, same, rule, ok)
			}
			extended, ok := impl.AddRule(d, line)
			if got, same := impl.AddRule(g.d, line); same != ok || !sameRules(got.Rules, extended.Rules) {
				t.Errorf("with spare capacity, AddRule(%q) = %+v, %v, want %+v, %v", line, got, same, extended, ok)
			}
			g.check(t, "reading "+line)
		}
		for _, name := range []string{"", "integer", "r0", "n", "full", "none"} {
			impl.ParseKid(g.d, name)
		}
		if kid, ok := impl.ParseKid(g.d, "spare"); ok || kid != 0 {
			t.Errorf("ParseKid finds a rule of the spare capacity at %d", kid)
		}
		g.check(t, "ParseKid")
	}
}

func TestRulesThatAreReadAreNewMemory(t *testing.T) {
	for line, rule := range oneOfEachKind() {
		g := guardDescription(allKinds())
		first, _ := impl.ParseRule(g.d, line)
		second, _ := impl.ParseRule(g.d, line)
		written := []impl.Rule{first}
		want := overwrite(written)
		if !sameRules(written, want) {
			t.Errorf("two slices of the rule of %q share memory", line)
		}
		g.check(t, "writing to a rule")
		if !sameRule(second, rule) {
			t.Errorf("writing to the rule of %q changed another one: %+v", line, second)
		}
		checkParsed(t, g.d, line, rule)
		overwrite(g.arrays)
		overwrite(g.list)
		if !sameRule(second, rule) || !sameRules(written, want) {
			t.Errorf("writing to the description changed the rule of %q: %+v", line, second)
		}
	}
}

// checkSeparate writes to all memory of the first of two equal results and then to the argument; the second stays as it was.
func checkSeparate(t *testing.T, name string, read func() impl.Description, g *guardedDescription) {
	t.Helper()
	first, second := read(), read()
	kept := deepCopy(second.Rules)
	if !sameRules(first.Rules, kept) {
		t.Fatalf("%s gives two results: %+v and %+v", name, first, second)
	}
	want := overwrite(first.Rules)
	if !sameRules(first.Rules[:cap(first.Rules)], want) {
		t.Errorf("%s: two slices of the result share memory", name)
	}
	if g != nil {
		g.check(t, "writing to the result of "+name)
	}
	if !sameRules(second.Rules, kept) || !sameRules(read().Rules, kept) {
		t.Errorf("%s: writing to the result changed another one: %+v", name, second)
	}
	if g != nil {
		overwrite(g.arrays)
		overwrite(g.list)
	}
	if !sameRules(second.Rules, kept) || !sameRules(first.Rules[:cap(first.Rules)], want) {
		t.Errorf("%s: writing to the argument changed a result: %+v", name, second)
	}
}

// Also the copy that comes with false is new memory.
func TestExtendedDescriptionsAreNewMemory(t *testing.T) {
	added, copied := 0, 0
	for _, d := range append(descriptionsToCopy(), oddDescriptions()...) {
		for _, line := range linesToRead() {
			g := guardDescription(d)
			read := func() impl.Description {
				extended, ok := impl.AddRule(g.d, line)
				if ok {
					added++
				} else {
					copied++
				}
				return extended
			}
			checkSeparate(t, "AddRule of "+line, read, g)
		}
	}
	if added < 100 || copied < 100 {
		t.Errorf("%d descriptions are extended and %d copied", added, copied)
	}
}

func TestDescriptionsThatAreReadAreNewMemory(t *testing.T) {
	for _, d := range validDescriptions() {
		text := "# comment\n" + impl.FormatDescription(d)
		read := func() impl.Description {
			got, _ := impl.ParseDescription(text)
			return got
		}
		checkSeparate(t, "ParseDescription", read, nil)
		checkDescription(t, text, d)
	}
	for _, text := range []string{"", "#", "a integer 1\nb", "a"} {
		read := func() impl.Description {
			got, _ := impl.ParseDescription(text)
			return got
		}
		checkSeparate(t, "ParseDescription", read, nil)
	}
}

// What is read follows from the arguments as they are now, not from an earlier call.
func TestReadingFollowsTheDescription(t *testing.T) {
	d := allKinds()
	for range 2 {
		checkParsed(t, d, "new option const", impl.Rule{Name: "new", Kind: impl.KindOption, Kids: []int{2}})
		checkNotParsed(t, d, "new option mark")
	}
	d.Rules[2].Name = "mark"
	checkParsed(t, d, "new option mark", impl.Rule{Name: "new", Kind: impl.KindOption, Kids: []int{2}})
	checkNotParsed(t, d, "new option const")
	d.Rules[0].Kind = impl.KindFixed
	checkNotParsed(t, d, "new sized integer")
	d.Rules[1].Size = 1
	checkNotParsed(t, d, "new choice little 256:mark")
	if got, _ := impl.ParseDescription("a integer 1"); !reflect.DeepEqual(impl.DescriptionNames(got), []string{"a"}) {
		t.Errorf("ParseDescription = %+v", got)
	}
	if got, line := impl.ParseDescription("b option a"); line != 1 || len(got.Rules) != 0 {
		t.Errorf("ParseDescription behind another text = %+v, %d", got, line)
	}
}
