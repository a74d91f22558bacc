package tests

import (
	"bytes"
	"math"
	"reflect"
	"slices"
	"strconv"
	"testing"

	"loop.example/g00518/impl"
)

// allKinds is a valid description with rules of all ten kinds; the names of the rules say their kinds.
func allKinds() impl.Description {
	return impl.Description{Rules: []impl.Rule{
		{Name: "integer", Kind: impl.KindInteger, Size: 1},
		{Name: "little", Kind: impl.KindInteger, Size: 2, Little: true},
		{Name: "const", Kind: impl.KindConst, Bytes: []byte("PK")},
		{Name: "fixed", Kind: impl.KindFixed, Size: 16},
		{Name: "sized", Kind: impl.KindSized, Kids: []int{1}},
		{Name: "array", Kind: impl.KindArray, Kids: []int{0, 4}},
		{Name: "terminated", Kind: impl.KindTerminated, Bytes: []byte{10}},
		{Name: "choice", Kind: impl.KindChoice, Tags: []int{0, 7, 255}, Kids: []int{0, 4, 5, 6}},
		{Name: "option", Kind: impl.KindOption, Kids: []int{7}},
		{Name: "sequence", Kind: impl.KindSequence, Names: []string{"magic", "id", "rest"}, Kids: []int{2, 3, 8}},
		{Name: "checked", Kind: impl.KindChecked, Kids: []int{9}},
	}}
}

func kindsByName() map[string]int {
	return map[string]int{
		"integer": impl.KindInteger, "const": impl.KindConst, "fixed": impl.KindFixed, "sized": impl.KindSized, "array": impl.KindArray,
		"sequence": impl.KindSequence, "choice": impl.KindChoice, "option": impl.KindOption, "checked": impl.KindChecked, "terminated": impl.KindTerminated,
	}
}

// manyRules has valid rules with different names; nothing in them limits their number.
func manyRules(count int) impl.Description {
	d := impl.Description{}
	for i := range count {
		rule := impl.Rule{Name: "r" + strconv.Itoa(i), Kind: impl.KindChecked, Kids: []int{i - 1}}
		if i%3 == 0 {
			rule = impl.Rule{Name: "r" + strconv.Itoa(i), Kind: impl.KindInteger, Size: i%4 + 1}
		}
		d.Rules = append(d.Rules, rule)
	}
	return d
}

func validDescriptions() []impl.Description {
	list := []impl.Description{allKinds()}
	for count := 1; count <= impl.MaxRules; count++ {
		list = append(list, manyRules(count))
	}
	widest := manyRules(1)
	sequence := impl.Rule{Name: "sequence", Kind: impl.KindSequence}
	choice := impl.Rule{Name: "choice", Kind: impl.KindChoice, Kids: []int{0}}
	for i := range impl.MaxParts {
		sequence.Names = append(sequence.Names, "p"+strconv.Itoa(i))
		sequence.Kids = append(sequence.Kids, 0)
		choice.Tags = append(choice.Tags, 248+i)
		choice.Kids = append(choice.Kids, i%2)
	}
	widest.Rules = append(widest.Rules, sequence, choice)
	return append(list, widest)
}

// with returns allKinds with another rule at the end.
func with(rule impl.Rule) impl.Description {
	d := allKinds()
	d.Rules = append(d.Rules, rule)
	return d
}

func checkRule(t *testing.T, rule impl.Rule, want bool) {
	t.Helper()
	d := with(rule)
	last := len(d.Rules) - 1
	if got := impl.IsValidRule(d, last); got != want {
		t.Errorf("IsValidRule of %+v = %v", rule, got)
	}
	if got := impl.IsValidDescription(d); got != want {
		t.Errorf("IsValidDescription with the last rule %+v = %v", rule, got)
	}
}

func TestConstantsOfDescriptions(t *testing.T) {
	got := []int{
		impl.KindInteger, impl.KindConst, impl.KindFixed, impl.KindSized, impl.KindArray,
		impl.KindSequence, impl.KindChoice, impl.KindOption, impl.KindChecked, impl.KindTerminated,
		impl.MaxRules, impl.MaxParts, impl.MaxItems, impl.Escape,
	}
	if want := []int{1, 2, 3, 4, 5, 6, 7, 8, 9, 10, 24, 8, 40, 92}; !slices.Equal(got, want) {
		t.Errorf("the constants are %v, want %v", got, want)
	}
}

func TestEveryBeginningOfAValidDescriptionIsValid(t *testing.T) {
	for _, d := range validDescriptions() {
		for count := 1; count <= len(d.Rules); count++ {
			beginning := impl.Description{Rules: d.Rules[:count]}
			if !impl.IsValidDescription(beginning) {
				t.Errorf("the first %d rules of %+v are not valid", count, d)
			}
			for index := range d.Rules {
				if got := impl.IsValidRule(beginning, index); got != (index < count) {
					t.Errorf("IsValidRule(the first %d rules of %+v, %d) = %v", count, d, index, got)
				}
			}
		}
		if impl.IsValidDescription(impl.Description{Rules: d.Rules[:0]}) {
			t.Errorf("the beginning of %+v without rules is valid", d)
		}
	}
}

func TestEveryKindIsInTheExample(t *testing.T) {
	d := allKinds()
	for name, kind := range kindsByName() {
		if at := impl.FindRule(d, name); at < 0 || d.Rules[at].Kind != kind {
			t.Errorf("the rule %s is at %d", name, at)
		}
	}
}

func TestAnInvalidRuleMakesADescriptionInvalid(t *testing.T) {
	for index := range allKinds().Rules {
		d := allKinds()
		d.Rules[index].Kind = 0
		for count := 1; count <= len(d.Rules); count++ {
			beginning := impl.Description{Rules: d.Rules[:count]}
			if got := impl.IsValidDescription(beginning); got != (count <= index) {
				t.Errorf("with the rule %d invalid, IsValidDescription of the first %d rules = %v", index, count, got)
			}
		}
	}
}

func TestALaterRuleDoesNotMatter(t *testing.T) {
	for index := range allKinds().Rules {
		d := allKinds()
		for i := index + 1; i < len(d.Rules); i++ {
			d.Rules[i] = impl.Rule{Name: d.Rules[index].Name, Kind: -1, Size: -1, Kids: []int{99}}
		}
		if !impl.IsValidRule(d, index) {
			t.Errorf("IsValidRule(%d) depends on later rules", index)
		}
	}
}

// Each kind is given something in each field, and in each pair of fields, that it does not mention.
func TestFieldsThatAKindDoesNotMention(t *testing.T) {
	mentioned := map[int]string{
		impl.KindInteger: "Size Little", impl.KindConst: "Bytes", impl.KindFixed: "Size", impl.KindSized: "Kids", impl.KindArray: "Kids",
		impl.KindSequence: "Names Kids", impl.KindChoice: "Tags Kids", impl.KindOption: "Kids", impl.KindChecked: "Kids", impl.KindTerminated: "Bytes",
	}
	settings := []struct {
		field string
		set   func(*impl.Rule)
	}{
		{"Size", func(r *impl.Rule) { r.Size = 1 }}, {"Size", func(r *impl.Rule) { r.Size = -1 }}, {"Size", func(r *impl.Rule) { r.Size = 4 }},
		{"Little", func(r *impl.Rule) { r.Little = true }},
		{"Bytes", func(r *impl.Rule) { r.Bytes = []byte{0} }}, {"Bytes", func(r *impl.Rule) { r.Bytes = []byte{1, 2} }},
		{"Names", func(r *impl.Rule) { r.Names = []string{"a"} }}, {"Names", func(r *impl.Rule) { r.Names = []string{""} }}, {"Names", func(r *impl.Rule) { r.Names = []string{"x", "y", "z"} }},
		{"Tags", func(r *impl.Rule) { r.Tags = []int{0} }}, {"Tags", func(r *impl.Rule) { r.Tags = []int{1, 2, 3} }},
		{"Kids", func(r *impl.Rule) { r.Kids = []int{0} }}, {"Kids", func(r *impl.Rule) { r.Kids = []int{0, 0} }},
	}
	for index, original := range allKinds().Rules {
		fields := impl.SplitText(mentioned[original.Kind], ' ')
		for _, one := range settings {
			for _, other := range settings {
				if slices.Contains(fields, one.field) || slices.Contains(fields, other.field) {
					continue
				}
				d := allKinds()
				one.set(&d.Rules[index])
				other.set(&d.Rules[index])
				if impl.IsValidRule(d, index) || impl.IsValidDescription(d) {
					t.Errorf("valid although %s or %s is set: %+v", one.field, other.field, d.Rules[index])
				}
			}
		}
	}
}

// Nil and empty slices are equivalent, also in the fields that a kind does not mention.
func TestEmptyFieldsThatAKindDoesNotMention(t *testing.T) {
	d := allKinds()
	for index := range d.Rules {
		rule := &d.Rules[index]
		rule.Bytes = append([]byte{}, rule.Bytes...)
		rule.Names = append([]string{}, rule.Names...)
		rule.Tags = append([]int{}, rule.Tags...)
		rule.Kids = append([]int{}, rule.Kids...)
	}
	if !impl.IsValidDescription(d) {
		t.Error("invalid with empty slices for nil")
	}
}

func TestSizeOfIntegers(t *testing.T) {
	for _, size := range []int{math.MinInt, -4, -1, 0, 1, 2, 3, 4, 5, 8, 64, 256, 1 << 61, 1<<61 + 1, math.MaxInt} {
		want := 1 <= size && size <= 4
		checkRule(t, impl.Rule{Name: "new", Kind: impl.KindInteger, Size: size}, want)
		checkRule(t, impl.Rule{Name: "new", Kind: impl.KindInteger, Size: size, Little: true}, want && size > 1)
	}
}

func TestSizeOfFixed(t *testing.T) {
	for _, size := range []int{math.MinInt, -64, -1, 0, 1, 2, 4, 5, 63, 64, 65, 128, 400, math.MaxInt} {
		checkRule(t, impl.Rule{Name: "new", Kind: impl.KindFixed, Size: size}, 1 <= size && size <= 64)
	}
}

func TestBytesOfConstants(t *testing.T) {
	for _, length := range []int{0, 1, 2, 15, 16, 17, 32, 400} {
		for _, c := range []byte{0, 'x', impl.Escape, 255} {
			checkRule(t, impl.Rule{Name: "new", Kind: impl.KindConst, Bytes: bytes.Repeat([]byte{c}, length)}, 1 <= length && length <= 16)
		}
	}
	checkRule(t, impl.Rule{Name: "new", Kind: impl.KindConst}, false)
}

func TestTerminators(t *testing.T) {
	for _, c := range everyByte() {
		checkRule(t, impl.Rule{Name: "new", Kind: impl.KindTerminated, Bytes: []byte{c}}, c != 92)
	}
	for _, b := range [][]byte{nil, {}, {0, 0}, {10, 92}, {92, 10}, {92, 92}, {1, 2, 3}, everyByte()} {
		checkRule(t, impl.Rule{Name: "new", Kind: impl.KindTerminated, Bytes: b}, false)
	}
}

// numbers returns count numbers from first on.
func numbers(first int, count int) []int {
	list := []int{}
	for i := range count {
		list = append(list, first+i)
	}
	return list
}

func partNames(count int) []string {
	list := []string{}
	for i := range count {
		list = append(list, "p"+strconv.Itoa(i))
	}
	return list
}

func TestPartsOfSequences(t *testing.T) {
	for names := range 11 {
		for kids := range 11 {
			want := names == kids && 1 <= names && names <= impl.MaxParts
			checkRule(t, impl.Rule{Name: "new", Kind: impl.KindSequence, Names: partNames(names), Kids: numbers(0, kids)}, want)
			checkRule(t, impl.Rule{Name: "new", Kind: impl.KindSequence, Names: partNames(names), Kids: make([]int, kids)}, want)
		}
	}
	checkRule(t, impl.Rule{Name: "new", Kind: impl.KindSequence}, false)
}

func TestNamesOfParts(t *testing.T) {
	cases := []struct {
		names []string
		want  bool
	}{
		{[]string{"a"}, true}, {[]string{"new"}, true}, {[]string{"integer"}, true}, {[]string{"abcdefghijkl"}, true},
		{[]string{""}, false}, {[]string{"1"}, false}, {[]string{"A"}, false}, {[]string{"a b"}, false}, {[]string{"a:b"}, false}, {[]string{"abcdefghijklm"}, false}, {[]string{"\u00e9"}, false},
		{[]string{"a", "b"}, true}, {[]string{"b", "a"}, true}, {[]string{"a", "aa"}, true}, {[]string{"a", "a1"}, true},
		{[]string{"a", "a"}, false}, {[]string{"a", ""}, false}, {[]string{"", "a"}, false}, {[]string{"a", "B"}, false}, {[]string{"0", "b"}, false},
		{[]string{"a", "b", "c"}, true}, {[]string{"a", "b", "a"}, false}, {[]string{"a", "b", "b"}, false}, {[]string{"a", "a", "b"}, false}, {[]string{"a", "-", "b"}, false},
		{[]string{"a", "b", "c", "d", "e", "f", "g", "h"}, true}, {[]string{"a", "b", "c", "d", "e", "f", "g", "a"}, false},
		{[]string{"a", "b", "c", "d", "e", "f", "g", "g"}, false}, {[]string{"a", "b", "c", "d", "e", "f", "g", "H"}, false},
	}
	for _, c := range cases {
		checkRule(t, impl.Rule{Name: "new", Kind: impl.KindSequence, Names: c.names, Kids: numbers(0, len(c.names))}, c.want)
	}
}

func TestTagsOfChoices(t *testing.T) {
	for tags := range 11 {
		for kids := range 12 {
			want := kids == tags+1 && 1 <= tags && tags <= impl.MaxParts
			checkRule(t, impl.Rule{Name: "new", Kind: impl.KindChoice, Tags: numbers(0, tags), Kids: numbers(0, kids)}, want)
			checkRule(t, impl.Rule{Name: "new", Kind: impl.KindChoice, Tags: numbers(248, tags), Kids: make([]int, kids)}, want)
		}
	}
	checkRule(t, impl.Rule{Name: "new", Kind: impl.KindChoice}, false)
	cases := []struct {
		tags []int
		want bool
	}{
		{[]int{0}, true}, {[]int{255}, true}, {[]int{256}, false}, {[]int{-1}, false}, {[]int{math.MinInt}, false}, {[]int{math.MaxInt}, false},
		{[]int{0, 1}, true}, {[]int{0, 255}, true}, {[]int{1, 0}, false}, {[]int{0, 0}, false}, {[]int{255, 255}, false}, {[]int{255, 256}, false}, {[]int{254, 255}, true},
		{[]int{-1, 0}, false}, {[]int{0, -1}, false}, {[]int{-2, -1}, false}, {[]int{5, math.MaxInt}, false}, {[]int{math.MaxInt, math.MinInt}, false}, {[]int{math.MinInt, 0}, false},
		{[]int{1, 2, 3}, true}, {[]int{1, 3, 2}, false}, {[]int{2, 1, 3}, false}, {[]int{3, 2, 1}, false}, {[]int{1, 2, 2}, false}, {[]int{1, 2, 1}, false}, {[]int{1, 2, 0}, false}, {[]int{9, 20, 19}, false},
		{[]int{1, 2, 4, 8, 16, 32, 64, 128}, true}, {[]int{1, 2, 4, 8, 16, 32, 64, 256}, false}, {[]int{1, 2, 4, 8, 16, 32, 64, 64}, false}, {[]int{1, 2, 4, 8, 16, 32, 64, 63}, false},
	}
	for _, c := range cases {
		checkRule(t, impl.Rule{Name: "new", Kind: impl.KindChoice, Tags: c.tags, Kids: make([]int, len(c.tags)+1)}, c.want)
	}
}

func TestTagsThatAnIntegerCanRepresent(t *testing.T) {
	limit := 1
	for size := 1; size <= 4; size++ {
		limit *= 256
		for _, little := range []bool{false, size > 1} {
			for _, c := range []struct {
				tags []int
				want bool
			}{
				{[]int{0, limit - 1}, true}, {[]int{limit - 2, limit - 1}, true}, {[]int{limit - 1}, true},
				{[]int{limit}, false}, {[]int{0, limit}, false}, {[]int{limit - 1, limit}, false}, {[]int{-1, limit - 1}, false}, {[]int{limit * 256}, false},
			} {
				d := impl.Description{Rules: []impl.Rule{
					{Name: "other", Kind: impl.KindInteger, Size: 5 - size},
					{Name: "tag", Kind: impl.KindInteger, Size: size, Little: little},
					{Name: "new", Kind: impl.KindChoice, Tags: c.tags, Kids: append([]int{1}, make([]int, len(c.tags))...)},
				}}
				if got := impl.IsValidRule(d, 2); got != c.want {
					t.Errorf("IsValidRule of a choice with the tags %v of %d bytes = %v", c.tags, size, got)
				}
			}
		}
	}
}

// The number of Kids that a kind needs, with the fields that it needs beside them.
func rulesWithKids(kids []int) []impl.Rule {
	return []impl.Rule{
		{Name: "new", Kind: impl.KindSized, Kids: kids},
		{Name: "new", Kind: impl.KindOption, Kids: kids},
		{Name: "new", Kind: impl.KindChecked, Kids: kids},
		{Name: "new", Kind: impl.KindArray, Kids: kids},
		{Name: "new", Kind: impl.KindSequence, Names: []string{"a", "b", "c"}, Kids: kids},
		{Name: "new", Kind: impl.KindChoice, Tags: []int{1, 2, 3}, Kids: kids},
	}
}

func TestNumberOfKids(t *testing.T) {
	needed := []int{1, 1, 1, 2, 3, 4}
	for count := range 12 {
		for i, rule := range rulesWithKids(make([]int, count)) {
			checkRule(t, rule, count == needed[i])
		}
	}
}

func TestKidsThatAreNoEarlierRules(t *testing.T) {
	index := len(allKinds().Rules)
	for _, bad := range []int{math.MinInt, -index, -1, index, index + 1, index + 2, 24, 400, math.MaxInt} {
		for i, needed := range []int{1, 1, 1, 2, 3, 4} {
			for place := range needed {
				kids := make([]int, needed)
				kids[place] = bad
				checkRule(t, rulesWithKids(kids)[i], false)
			}
		}
	}
}

// A later rule, of the kind that is needed, is there, but only earlier ones may be referred to.
func TestKidsThatAreLaterRules(t *testing.T) {
	for i, needed := range []int{1, 1, 1, 2, 3, 4} {
		for place := range needed {
			for _, kid := range []int{0, 1, 2} {
				kids := make([]int, needed)
				kids[place] = kid
				d := impl.Description{Rules: []impl.Rule{
					{Name: "first", Kind: impl.KindInteger, Size: 1}, rulesWithKids(kids)[i], {Name: "last", Kind: impl.KindInteger, Size: 1},
				}}
				if got := impl.IsValidRule(d, 1); got != (kid == 0) {
					t.Errorf("IsValidRule of the second rule of %+v = %v", d, got)
				}
				if got := impl.IsValidDescription(d); got != (kid == 0) {
					t.Errorf("IsValidDescription(%+v) = %v", d, got)
				}
			}
		}
	}
}

func TestKidsOfTheFirstRule(t *testing.T) {
	for i, needed := range []int{1, 1, 1, 2, 3, 4} {
		rule := rulesWithKids(make([]int, needed))[i]
		d := impl.Description{Rules: []impl.Rule{rule}}
		if impl.IsValidRule(d, 0) || impl.IsValidDescription(d) {
			t.Errorf("valid although there are no earlier rules: %+v", rule)
		}
	}
}

// The last kid of every kind, and the first one where no integer is needed, may be a rule of any kind.
func TestKindsOfKids(t *testing.T) {
	for kid, rule := range allKinds().Rules {
		integer := rule.Kind == impl.KindInteger
		checkRule(t, impl.Rule{Name: "new", Kind: impl.KindSized, Kids: []int{kid}}, integer)
		checkRule(t, impl.Rule{Name: "new", Kind: impl.KindArray, Kids: []int{kid, 0}}, integer)
		checkRule(t, impl.Rule{Name: "new", Kind: impl.KindArray, Kids: []int{0, kid}}, true)
		checkRule(t, impl.Rule{Name: "new", Kind: impl.KindChoice, Tags: []int{1}, Kids: []int{kid, 0}}, integer)
		checkRule(t, impl.Rule{Name: "new", Kind: impl.KindChoice, Tags: []int{1}, Kids: []int{0, kid}}, true)
		checkRule(t, impl.Rule{Name: "new", Kind: impl.KindOption, Kids: []int{kid}}, true)
		checkRule(t, impl.Rule{Name: "new", Kind: impl.KindChecked, Kids: []int{kid}}, true)
		checkRule(t, impl.Rule{Name: "new", Kind: impl.KindSequence, Names: []string{"a", "b"}, Kids: []int{kid, kid}}, true)
	}
}

// A rule is judged by itself: that an earlier rule is invalid makes the description invalid, but not each rule that refers to it.
func TestRulesAfterAnInvalidRule(t *testing.T) {
	d := impl.Description{Rules: []impl.Rule{
		{Name: "broken", Kind: impl.KindInteger, Size: 5},
		{Name: "sized", Kind: impl.KindSized, Kids: []int{0}},
		{Name: "option", Kind: impl.KindOption, Kids: []int{0}},
		{Name: "choice", Kind: impl.KindChoice, Tags: []int{0}, Kids: []int{0, 1}},
	}}
	// The integer of 5 bytes has no limit, so that it represents no tag.
	for index, want := range []bool{false, true, true, false} {
		if got := impl.IsValidRule(d, index); got != want {
			t.Errorf("IsValidRule(%d) = %v", index, got)
		}
	}
	for count := range 5 {
		if impl.IsValidDescription(impl.Description{Rules: d.Rules[:count]}) {
			t.Errorf("the first %d rules are valid", count)
		}
	}
}

func TestNamesOfRules(t *testing.T) {
	cases := []struct {
		name string
		want bool
	}{
		{"new", true}, {"n", true}, {"n1", true}, {"abcdefghijkl", true}, {"magic", true}, {"integer1", true}, {"intege", true},
		{"", false}, {"1n", false}, {"New", false}, {"a b", false}, {"a-b", false}, {"abcdefghijklm", false}, {"\u00e9", false}, {"a\xff", false}, {"a\x00", false},
	}
	for _, rule := range allKinds().Rules {
		cases = append(cases, struct {
			name string
			want bool
		}{rule.Name, false})
	}
	for _, c := range cases {
		checkRule(t, impl.Rule{Name: c.name, Kind: impl.KindInteger, Size: 1}, c.want)
		checkRule(t, impl.Rule{Name: c.name, Kind: impl.KindChecked, Kids: []int{10}}, c.want)
	}
}

// Of two rules with one name, the later one is invalid.
func TestEqualNamesOfRules(t *testing.T) {
	count := len(allKinds().Rules)
	for first := range count {
		for second := first + 1; second < count; second++ {
			d := allKinds()
			d.Rules[second].Name = d.Rules[first].Name
			if !impl.IsValidRule(d, first) || impl.IsValidRule(d, second) || impl.IsValidDescription(d) {
				t.Errorf("with one name for the rules %d and %d: %v, %v, %v", first, second, impl.IsValidRule(d, first), impl.IsValidRule(d, second), impl.IsValidDescription(d))
			}
		}
	}
}

func noKinds() []int {
	return []int{math.MinInt, math.MinInt + 1, -10, -1, 0, 11, 12, 255, 257, 1<<32 + 1, impl.MaxValue, math.MaxInt}
}

func TestUnknownKinds(t *testing.T) {
	for _, kind := range noKinds() {
		checkRule(t, impl.Rule{Name: "new", Kind: kind}, false)
		for index := range allKinds().Rules {
			d := allKinds()
			d.Rules[index].Kind = kind
			if impl.IsValidRule(d, index) || impl.IsValidDescription(d) {
				t.Errorf("the rule %d is valid with the kind %d", index, kind)
			}
		}
	}
}

// A rule with the fields of one kind and the number of another is invalid, unless both use the same fields alike.
func TestKindsExchanged(t *testing.T) {
	alike := []string{"option checked", "checked option", "sized option", "sized checked", "integer fixed", "terminated const"}
	for index, original := range allKinds().Rules {
		name := original.Name
		if name == "little" {
			name = "integer"
		}
		for other, kind := range kindsByName() {
			d := allKinds()
			d.Rules[index].Kind = kind
			want := other == name || slices.Contains(alike, name+" "+other) && !original.Little
			if got := impl.IsValidRule(d, index); got != want {
				t.Errorf("IsValidRule of %+v = %v", d.Rules[index], got)
			}
		}
	}
}

func outsideIndexes(count int) []int {
	return []int{math.MinInt, math.MinInt + 1, -impl.MaxValue, -count, -2, -1, count, count + 1, count + 5, 400, 1 << 32, math.MaxInt - 1, math.MaxInt}
}

func TestIsValidRuleOutside(t *testing.T) {
	for _, d := range append(validDescriptions(), impl.Description{}, impl.Description{Rules: []impl.Rule{}}) {
		for index := range d.Rules {
			if !impl.IsValidRule(d, index) {
				t.Errorf("IsValidRule(%+v, %d) = false", d, index)
			}
		}
		for _, index := range outsideIndexes(len(d.Rules)) {
			if impl.IsValidRule(d, index) {
				t.Errorf("IsValidRule of %d rules at %d = true", len(d.Rules), index)
			}
		}
	}
}

func TestNumberOfRules(t *testing.T) {
	if impl.IsValidDescription(impl.Description{}) || impl.IsValidDescription(impl.Description{Rules: []impl.Rule{}}) {
		t.Error("a description without rules is valid")
	}
	for _, count := range []int{0, 1, 2, impl.MaxRules - 1, impl.MaxRules, impl.MaxRules + 1, impl.MaxRules + 2, 2 * impl.MaxRules, 400} {
		d := manyRules(count)
		if got := impl.IsValidDescription(d); got != (1 <= count && count <= 24) {
			t.Errorf("IsValidDescription with %d rules = %v", count, got)
		}
		// The number of rules is a condition on the description alone.
		for index := range d.Rules {
			if !impl.IsValidRule(d, index) {
				t.Errorf("IsValidRule(%d) of %d rules = false", index, count)
			}
		}
	}
}

func TestRootOf(t *testing.T) {
	if got := impl.RootOf(impl.Description{}); got != -1 {
		t.Errorf("RootOf without rules = %d", got)
	}
	if got := impl.RootOf(impl.Description{Rules: []impl.Rule{}}); got != -1 {
		t.Errorf("RootOf of an empty list = %d", got)
	}
	if got := impl.RootOf(impl.Description{Rules: allKinds().Rules[:0]}); got != -1 {
		t.Errorf("RootOf of a list with spare capacity only = %d", got)
	}
	for _, count := range []int{1, 2, 23, 24, 25, 400} {
		if got := impl.RootOf(manyRules(count)); got != count-1 {
			t.Errorf("RootOf of %d rules = %d", count, got)
		}
		if got := impl.RootOf(impl.Description{Rules: make([]impl.Rule, count)}); got != count-1 {
			t.Errorf("RootOf of %d invalid rules = %d", count, got)
		}
	}
}

func TestFindRule(t *testing.T) {
	for _, name := range []string{"", "a", "none", "integer"} {
		for _, d := range []impl.Description{{}, {Rules: []impl.Rule{}}, {Rules: allKinds().Rules[:0]}} {
			if got := impl.FindRule(d, name); got != -1 {
				t.Errorf("FindRule of %q without rules = %d", name, got)
			}
		}
	}
	for _, d := range validDescriptions() {
		for index, rule := range d.Rules {
			if got := impl.FindRule(d, rule.Name); got != index {
				t.Errorf("FindRule(%+v, %q) = %d", d, rule.Name, got)
			}
			for _, name := range []string{rule.Name + "x", " " + rule.Name, rule.Name + "\x00", "none", "", "Integer", "magic"} {
				if got := impl.FindRule(d, name); got != -1 {
					t.Errorf("FindRule(%+v, %q) = %d", d, name, got)
				}
			}
		}
	}
}

func TestFindRuleOfTwo(t *testing.T) {
	names := []string{"a", "b", "a", "", "b", "no name", "", "a", "no name", "\xff"}
	d := impl.Description{}
	for _, name := range names {
		d.Rules = append(d.Rules, impl.Rule{Name: name})
	}
	for name, want := range map[string]int{"a": 0, "b": 1, "": 3, "no name": 5, "\xff": 9, "c": -1, "A": -1, "no": -1, "ab": -1, "\ufffd": -1} {
		if got := impl.FindRule(d, name); got != want {
			t.Errorf("FindRule of %q in %q = %d, want %d", name, names, got, want)
		}
	}
}

func TestKindName(t *testing.T) {
	for want, kind := range kindsByName() {
		if got := impl.KindName(kind); got != want {
			t.Errorf("KindName(%d) = %q, want %q", kind, got, want)
		}
	}
	inOrder := []string{"", "integer", "const", "fixed", "sized", "array", "sequence", "choice", "option", "checked", "terminated", ""}
	for kind, want := range inOrder {
		if got := impl.KindName(kind); got != want {
			t.Errorf("KindName(%d) = %q, want %q", kind, got, want)
		}
	}
	for _, kind := range noKinds() {
		if got := impl.KindName(kind); got != "" {
			t.Errorf("KindName(%d) = %q", kind, got)
		}
	}
}

func TestIntegerLimit(t *testing.T) {
	limits := map[int]int{1: 255, 2: 65535, 3: 16777215, 4: 4294967295}
	for _, size := range []int{math.MinInt, -1, 0, 1, 2, 3, 4, 5, 8, 1 << 61, 1<<61 + 1, math.MaxInt} {
		want, ok := limits[size]
		if !ok {
			want = -1
		}
		for _, little := range []bool{false, true} {
			d := with(impl.Rule{Name: "new", Kind: impl.KindInteger, Size: size, Little: little})
			if got := impl.IntegerLimit(d, len(d.Rules)-1); got != want {
				t.Errorf("IntegerLimit of %d bytes = %d, want %d", size, got, want)
			}
		}
		for _, kind := range append(noKinds(), numbers(2, 9)...) {
			d := with(impl.Rule{Name: "new", Kind: kind, Size: size})
			if got := impl.IntegerLimit(d, len(d.Rules)-1); got != -1 {
				t.Errorf("IntegerLimit of the kind %d with the Size %d = %d", kind, size, got)
			}
		}
	}
}

func TestIntegerLimitOfEveryIndex(t *testing.T) {
	d := allKinds()
	for index, rule := range d.Rules {
		want := -1
		if rule.Kind == impl.KindInteger {
			want = []int{255, 65535}[index]
		}
		if got := impl.IntegerLimit(d, index); got != want {
			t.Errorf("IntegerLimit(%d) = %d, want %d", index, got, want)
		}
	}
	for _, d := range []impl.Description{d, manyRules(1), {}, {Rules: []impl.Rule{}}, {Rules: d.Rules[:1]}, {Rules: d.Rules[:0]}} {
		for _, index := range outsideIndexes(len(d.Rules)) {
			if got := impl.IntegerLimit(d, index); got != -1 {
				t.Errorf("IntegerLimit of %d rules at %d = %d", len(d.Rules), index, got)
			}
		}
	}
}

// everyField has something in each field, whether its kind uses it or not: copies and comparisons are not about validity.
func everyField() impl.Rule {
	return impl.Rule{
		Name: "full", Kind: impl.KindChoice, Size: 3, Little: true,
		Bytes: []byte{1, 2, 3}, Names: []string{"x", "y"}, Tags: []int{4, 5, 6}, Kids: []int{0, 1, 2, 3},
	}
}

// descriptionsToCopy holds valid and invalid descriptions, with nil and with empty slices.
func descriptionsToCopy() []impl.Description {
	list := append(validDescriptions(), impl.Description{}, impl.Description{Rules: []impl.Rule{}}, impl.Description{Rules: make([]impl.Rule, 3)}, manyRules(30))
	list = append(list, impl.Description{Rules: []impl.Rule{everyField()}}, impl.Description{Rules: []impl.Rule{everyField(), {}, everyField()}})
	empty := impl.Rule{Name: "", Kind: -7, Size: -1, Bytes: []byte{}, Names: []string{}, Tags: []int{}, Kids: []int{}}
	return append(list, impl.Description{Rules: []impl.Rule{empty, everyField()}}, with(everyField()))
}

func TestCopiesAreEqual(t *testing.T) {
	for at, d := range descriptionsToCopy() {
		c := impl.CopyDescription(d)
		if !impl.EqualDescriptions(c, d) || !impl.EqualDescriptions(d, c) || !impl.EqualDescriptions(d, d) {
			t.Errorf("the copy of the description %d, %+v, is %+v", at, d, c)
		}
		if len(c.Rules) != len(d.Rules) {
			t.Fatalf("the copy of %d rules has %d", len(d.Rules), len(c.Rules))
		}
		for index := range d.Rules {
			if !sameRule(c.Rules[index], d.Rules[index]) {
				t.Errorf("the rule %+v is copied as %+v", d.Rules[index], c.Rules[index])
			}
		}
	}
}

// sameRule is the comparison of all eight fields, written another way.
func sameRule(a impl.Rule, b impl.Rule) bool {
	return reflect.DeepEqual(withoutNil(a), withoutNil(b))
}

// withoutNil has no nil slices and shares no memory with the rule.
func withoutNil(rule impl.Rule) impl.Rule {
	rule.Bytes = append([]byte{}, rule.Bytes...)
	rule.Names = append([]string{}, rule.Names...)
	rule.Tags = append([]int{}, rule.Tags...)
	rule.Kids = append([]int{}, rule.Kids...)
	return rule
}

// changes has, for each of the eight fields, changes of that field alone.
func changes() map[string][]func(*impl.Rule) {
	return map[string][]func(*impl.Rule){
		"Name":   {func(r *impl.Rule) { r.Name += "x" }, func(r *impl.Rule) { r.Name = "\x00" }},
		"Kind":   {func(r *impl.Rule) { r.Kind++ }, func(r *impl.Rule) { r.Kind = -r.Kind - 1 }},
		"Size":   {func(r *impl.Rule) { r.Size++ }, func(r *impl.Rule) { r.Size += 256 }, func(r *impl.Rule) { r.Size += 1 << 32 }},
		"Little": {func(r *impl.Rule) { r.Little = !r.Little }},
		"Bytes": {
			func(r *impl.Rule) { r.Bytes = append(slices.Clone(r.Bytes), 0) },
			func(r *impl.Rule) { r.Bytes = append([]byte{0}, r.Bytes...) },
		},
		"Names": {
			func(r *impl.Rule) { r.Names = append(slices.Clone(r.Names), "") },
			func(r *impl.Rule) { r.Names = append([]string{"x"}, r.Names...) },
		},
		"Tags": {
			func(r *impl.Rule) { r.Tags = append(slices.Clone(r.Tags), 0) },
			func(r *impl.Rule) { r.Tags = append([]int{-1}, r.Tags...) },
		},
		"Kids": {
			func(r *impl.Rule) { r.Kids = append(slices.Clone(r.Kids), 0) },
			func(r *impl.Rule) { r.Kids = append([]int{0}, r.Kids...) },
		},
	}
}

// changesWithin has changes of single elements, for rules with something in each field.
func changesWithin() map[string][]func(*impl.Rule) {
	return map[string][]func(*impl.Rule){
		"Bytes": {
			func(r *impl.Rule) { r.Bytes = []byte{9, 2, 3} }, func(r *impl.Rule) { r.Bytes = []byte{1, 9, 3} }, func(r *impl.Rule) { r.Bytes = []byte{1, 2, 9} },
			func(r *impl.Rule) { r.Bytes = []byte{1, 2} }, func(r *impl.Rule) { r.Bytes = []byte{2, 3} }, func(r *impl.Rule) { r.Bytes = nil }, func(r *impl.Rule) { r.Bytes = []byte{3, 2, 1} },
		},
		"Names": {
			func(r *impl.Rule) { r.Names = []string{"z", "y"} }, func(r *impl.Rule) { r.Names = []string{"x", "z"} }, func(r *impl.Rule) { r.Names = []string{"x"} },
			func(r *impl.Rule) { r.Names = []string{"xy", ""} }, func(r *impl.Rule) { r.Names = nil }, func(r *impl.Rule) { r.Names = []string{"y", "x"} },
		},
		"Tags": {
			func(r *impl.Rule) { r.Tags = []int{9, 5, 6} }, func(r *impl.Rule) { r.Tags = []int{4, 9, 6} }, func(r *impl.Rule) { r.Tags = []int{4, 5, 9} },
			func(r *impl.Rule) { r.Tags = []int{4, 5} }, func(r *impl.Rule) { r.Tags = []int{} }, func(r *impl.Rule) { r.Tags = []int{4, 5, 6 + 1<<32} },
		},
		"Kids": {
			func(r *impl.Rule) { r.Kids = []int{9, 1, 2, 3} }, func(r *impl.Rule) { r.Kids = []int{0, 1, 9, 3} }, func(r *impl.Rule) { r.Kids = []int{0, 1, 2, 9} },
			func(r *impl.Rule) { r.Kids = []int{0, 1, 2} }, func(r *impl.Rule) { r.Kids = nil }, func(r *impl.Rule) { r.Kids = []int{3, 2, 1, 0} },
		},
	}
}

// checkDifferent changes the rules of a description one by one, each time in one field.
func checkDifferent(t *testing.T, make func() impl.Description, changes map[string][]func(*impl.Rule)) {
	t.Helper()
	for field, list := range changes {
		for at, change := range list {
			for index := range make().Rules {
				a, b := make(), make()
				change(&b.Rules[index])
				if impl.EqualDescriptions(a, b) || impl.EqualDescriptions(b, a) {
					t.Errorf("equal although the change %d of %s is made in the rule %d", at, field, index)
				}
				change(&a.Rules[index])
				if !impl.EqualDescriptions(a, b) {
					t.Errorf("different although the change %d of %s is made in both rules %d", at, field, index)
				}
			}
		}
	}
}

func TestDescriptionsThatDifferInOneField(t *testing.T) {
	full := func() impl.Description {
		return impl.Description{Rules: []impl.Rule{everyField(), everyField(), everyField()}}
	}
	zero := func() impl.Description { return impl.Description{Rules: make([]impl.Rule, 3)} }
	checkDifferent(t, full, changes())
	checkDifferent(t, full, changesWithin())
	checkDifferent(t, zero, changes())
	checkDifferent(t, allKinds, changes())
}

func TestDescriptionsThatDifferInTheirRules(t *testing.T) {
	list := descriptionsToCopy()
	for i, a := range list {
		for k, b := range list {
			want := len(a.Rules) == len(b.Rules)
			for index := 0; want && index < len(a.Rules); index++ {
				want = sameRule(a.Rules[index], b.Rules[index])
			}
			if got := impl.EqualDescriptions(a, b); got != want {
				t.Errorf("EqualDescriptions of the descriptions %d and %d = %v", i, k, got)
			}
		}
	}
	d := allKinds()
	for count := range len(d.Rules) {
		if impl.EqualDescriptions(d, impl.Description{Rules: d.Rules[:count]}) || impl.EqualDescriptions(impl.Description{Rules: d.Rules[:count]}, d) {
			t.Errorf("equal to its first %d rules", count)
		}
	}
	for index := 1; index < len(d.Rules); index++ {
		exchanged := allKinds()
		exchanged.Rules[index-1], exchanged.Rules[index] = exchanged.Rules[index], exchanged.Rules[index-1]
		if impl.EqualDescriptions(d, exchanged) {
			t.Errorf("equal although the rules %d and %d are exchanged", index-1, index)
		}
	}
}

func TestNilAndEmptyFieldsAreEqual(t *testing.T) {
	if !impl.EqualDescriptions(impl.Description{}, impl.Description{Rules: []impl.Rule{}}) || !impl.EqualDescriptions(impl.Description{Rules: []impl.Rule{}}, impl.Description{}) {
		t.Error("no rules and empty rules are different")
	}
	for _, d := range descriptionsToCopy() {
		for index := range d.Rules {
			other := impl.Description{Rules: slices.Clone(d.Rules)}
			other.Rules[index] = withoutNil(d.Rules[index])
			if !impl.EqualDescriptions(d, other) || !impl.EqualDescriptions(other, d) {
				t.Errorf("%+v and %+v are different", d.Rules[index], other.Rules[index])
			}
			for i := range d.Rules {
				if impl.IsValidRule(d, i) != impl.IsValidRule(other, i) {
					t.Errorf("IsValidRule(%d) depends on nil slices of the rule %d", i, index)
				}
			}
			if c := impl.CopyDescription(other); !impl.EqualDescriptions(c, d) {
				t.Errorf("the copy of %+v is %+v", other, c)
			}
		}
	}
}

// inside lays the content into the middle of a larger array, so that writes in front of it and into its spare capacity are seen.
func inside[T any](content []T, filler T) (slice []T, array []T) {
	array = append([]T{filler, filler}, content...)
	array = append(array, filler, filler, filler, filler)
	if content == nil {
		return nil, array
	}
	return array[2 : 2+len(content)], array
}

// In a guarded description, the list of rules and every slice of a rule lie in larger arrays.
type guardedDescription struct {
	d      impl.Description
	list   []impl.Rule
	arrays []impl.Rule
	kept   [2][]impl.Rule
}

func guardDescription(d impl.Description) *guardedDescription {
	rules := slices.Clone(d.Rules)
	arrays := make([]impl.Rule, len(rules))
	for index, rule := range rules {
		rules[index].Bytes, arrays[index].Bytes = inside(rule.Bytes, 0xee)
		rules[index].Names, arrays[index].Names = inside(rule.Names, "spare")
		rules[index].Tags, arrays[index].Tags = inside(rule.Tags, 77)
		rules[index].Kids, arrays[index].Kids = inside(rule.Kids, 0)
	}
	slice, list := inside(rules, impl.Rule{Name: "spare", Kind: impl.KindInteger, Size: 1})
	g := &guardedDescription{d: impl.Description{Rules: slice}, list: list, arrays: arrays}
	g.kept = [2][]impl.Rule{deepCopy(list), deepCopy(arrays)}
	return g
}

func deepCopy(rules []impl.Rule) []impl.Rule {
	list := []impl.Rule{}
	for _, rule := range rules {
		list = append(list, withoutNil(rule))
	}
	return list
}

func sameRules(a []impl.Rule, b []impl.Rule) bool {
	return slices.EqualFunc(a, b, sameRule)
}

func (g *guardedDescription) check(t *testing.T, name string) {
	t.Helper()
	if !sameRules(g.list, g.kept[0]) || !sameRules(g.arrays, g.kept[1]) {
		t.Errorf("%s changed an argument: %+v", name, g.d)
	}
}

// overwrite writes to all memory that the rules reach, another value at every place, and returns the rules as they then must be.
func overwrite(rules []impl.Rule) []impl.Rule {
	whole := rules[:cap(rules)]
	want := []impl.Rule{}
	value := 1000
	for index := range whole {
		rule := &whole[index]
		wide := impl.Rule{Bytes: rule.Bytes[:cap(rule.Bytes)], Names: rule.Names[:cap(rule.Names)], Tags: rule.Tags[:cap(rule.Tags)], Kids: rule.Kids[:cap(rule.Kids)]}
		for i := range wide.Bytes {
			value++
			wide.Bytes[i] = byte(value)
		}
		for i := range wide.Names {
			value++
			wide.Names[i] = strconv.Itoa(value)
		}
		for _, list := range [][]int{wide.Tags, wide.Kids} {
			for i := range list {
				value++
				list[i] = value
			}
		}
		rule.Name, rule.Kind, rule.Size, rule.Little = "overwritten", index, value, !rule.Little
		want = append(want, withoutNil(*rule))
	}
	return want
}

func TestDescriptionsAreNotModified(t *testing.T) {
	for _, d := range descriptionsToCopy() {
		x, y := guardDescription(d), guardDescription(d)
		for _, index := range append(outsideIndexes(len(d.Rules)), numbers(0, len(d.Rules)+1)...) {
			impl.IsValidRule(x.d, index)
			impl.IntegerLimit(x.d, index)
		}
		impl.IsValidDescription(x.d)
		impl.RootOf(x.d)
		for _, name := range []string{"", "integer", "none", "spare"} {
			if got := impl.FindRule(x.d, name); name == "spare" && got != -1 {
				t.Errorf("FindRule finds a rule of the spare capacity at %d", got)
			}
		}
		impl.CopyDescription(x.d)
		if !impl.EqualDescriptions(x.d, y.d) {
			t.Errorf("EqualDescriptions of %+v and itself = false", d)
		}
		x.check(t, "a function of chapter 4")
		y.check(t, "EqualDescriptions")
		if got, want := impl.IsValidDescription(x.d), impl.IsValidDescription(d); got != want {
			t.Errorf("with spare capacity, IsValidDescription(%+v) = %v", d, got)
		}
	}
}

func TestCopiesAreNewMemory(t *testing.T) {
	for _, d := range descriptionsToCopy() {
		g := guardDescription(d)
		first, second := impl.CopyDescription(g.d), impl.CopyDescription(g.d)
		want := overwrite(first.Rules)
		if !sameRules(first.Rules[:cap(first.Rules)], want) {
			t.Errorf("two slices of the copy of %+v share memory", d)
		}
		g.check(t, "writing to a copy")
		if !impl.EqualDescriptions(second, d) {
			t.Errorf("writing to one copy changed another one: %+v, want %+v", second, d)
		}
		overwrite(g.arrays)
		overwrite(g.list)
		if !sameRules(first.Rules[:cap(first.Rules)], want) {
			t.Errorf("a copy that was written to changed with what was copied: %+v", first)
		}
		if !sameRules(second.Rules, d.Rules) {
			t.Errorf("a copy changed with what was copied: %+v, want %+v", second, d)
		}
	}
}

// What is copied may itself hold one slice in several places; its copy does not.
func TestCopiesOfSharedMemory(t *testing.T) {
	shared := []int{1, 2, 3, 4}
	rule := impl.Rule{Name: "shared", Bytes: []byte("abc"), Names: []string{"x", "y"}, Tags: shared, Kids: shared[:3]}
	d := impl.Description{Rules: []impl.Rule{rule, rule, rule}}
	c := impl.CopyDescription(d)
	if !impl.EqualDescriptions(c, d) {
		t.Fatalf("the copy of %+v is %+v", d, c)
	}
	if want := overwrite(c.Rules); !sameRules(c.Rules[:cap(c.Rules)], want) {
		t.Errorf("two slices of a copy share memory: %+v", c)
	}
	if !slices.Equal(shared, []int{1, 2, 3, 4}) || string(rule.Bytes) != "abc" || !slices.Equal(rule.Names, []string{"x", "y"}) {
		t.Errorf("writing to the copy changed what was copied: %+v", d)
	}
}

// Each field of the copy alone is written to, as the document's conventions say, and then each field of what was copied.
func TestCopiesFieldByField(t *testing.T) {
	writes := map[string]func(*impl.Rule){
		"Rules": func(r *impl.Rule) { *r = impl.Rule{Name: "other"} },
		"Bytes": func(r *impl.Rule) { r.Bytes[1] = 99 },
		"Names": func(r *impl.Rule) { r.Names[1] = "other" },
		"Tags":  func(r *impl.Rule) { r.Tags[1] = 99 },
		"Kids":  func(r *impl.Rule) { r.Kids[1] = 99 },
	}
	for field, write := range writes {
		for index := range 3 {
			d := impl.Description{Rules: []impl.Rule{everyField(), everyField(), everyField()}}
			kept := impl.Description{Rules: deepCopy(d.Rules)}
			c := impl.CopyDescription(d)
			write(&c.Rules[index])
			if !sameRules(d.Rules, kept.Rules) || impl.EqualDescriptions(c, d) {
				t.Errorf("writing to %s of the copy changed what was copied, or is not seen: %+v", field, d)
			}
			c = impl.CopyDescription(d)
			write(&d.Rules[index])
			if !sameRules(c.Rules, kept.Rules) || impl.EqualDescriptions(c, d) {
				t.Errorf("writing to %s of what was copied changed the copy, or is not seen: %+v", field, c)
			}
		}
	}
}
