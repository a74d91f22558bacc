package tests

import (
	"math/big"
	"math/rand"
	"slices"
	"strconv"
	"strings"
	"testing"

	"loop.example/g00518/impl"
)

// described returns the valid description with these lines.
func described(t *testing.T, lines ...string) impl.Description {
	t.Helper()
	d, at := impl.ParseDescription(strings.Join(lines, "\n"))
	if at != 0 {
		t.Fatalf("the line %d of %q is not accepted", at, lines)
	}
	return d
}

// A measured rule is written as its line, with both bounds that the document gives it.
type measured struct {
	line     string
	min, max int
}

func checkBounds(t *testing.T, d impl.Description, rule int, least int, greatest int) {
	t.Helper()
	if got := impl.MinSize(d, rule); got != least {
		t.Errorf("MinSize of %q = %d, want %d", impl.FormatRule(d, rule), got, least)
	}
	if got := impl.MaxSize(d, rule); got != greatest {
		t.Errorf("MaxSize of %q = %d, want %d", impl.FormatRule(d, rule), got, greatest)
	}
	if got, want := impl.IsFixedSize(d, rule), 0 < least && least == greatest && least < 400; got != want {
		t.Errorf("IsFixedSize of %q = %v with the bounds %d and %d", impl.FormatRule(d, rule), got, least, greatest)
	}
}

// checkMeasured tests all rules, in a description that ends with each of them: later rules do not matter.
func checkMeasured(t *testing.T, rules ...measured) {
	t.Helper()
	lines := []string{}
	for _, rule := range rules {
		lines = append(lines, rule.line)
		d := described(t, lines...)
		for index := range d.Rules {
			checkBounds(t, d, index, rules[index].min, rules[index].max)
		}
	}
}

func TestSizesOfIntegers(t *testing.T) {
	checkMeasured(t,
		measured{"a integer 1", 1, 1}, measured{"b integer 2", 2, 2}, measured{"c integer 3", 3, 3}, measured{"d integer 4", 4, 4},
		measured{"e integer 2 little", 2, 2}, measured{"f integer 3 little", 3, 3}, measured{"g integer 4 little", 4, 4},
	)
}

func TestSizesOfConstAndFixed(t *testing.T) {
	for size := 1; size <= 16; size++ {
		checkMeasured(t, measured{"c const " + strings.Repeat("00", size), size, size})
	}
	for size := 1; size <= 64; size++ {
		checkMeasured(t, measured{"f fixed " + strconv.Itoa(size), size, size})
	}
}

func TestSizesOfTerminated(t *testing.T) {
	checkMeasured(t, measured{"a terminated 00", 1, 400}, measured{"b terminated ff", 1, 400}, measured{"c terminated 0a", 1, 400})
}

// IntegerLimit of one byte is below MaxInput, and that of more bytes is above it; no integer has it as its limit.
func TestSizesOfSized(t *testing.T) {
	checkMeasured(t,
		measured{"a integer 1", 1, 1}, measured{"b integer 2", 2, 2}, measured{"c integer 3 little", 3, 3}, measured{"d integer 4", 4, 4},
		measured{"sa sized a", 1, 256}, measured{"sb sized b", 2, 400}, measured{"sc sized c", 3, 400}, measured{"sd sized d", 4, 400},
		measured{"ta sequence x:sa y:sa", 2, 400}, measured{"tb option sa", 1, 257},
	)
}

// An array has at most MaxItems items: IntegerLimit of every integer is above that.
func TestSizesOfArrays(t *testing.T) {
	checkMeasured(t,
		measured{"a integer 1", 1, 1}, measured{"b integer 2", 2, 2}, measured{"c integer 3", 3, 3}, measured{"d integer 4 little", 4, 4},
		measured{"nine fixed 9", 9, 9}, measured{"ten fixed 10", 10, 10}, measured{"most fixed 64", 64, 64},
		measured{"aa array a a", 1, 41}, measured{"ad array a d", 1, 161}, measured{"da array d a", 4, 44}, measured{"cb array c b", 3, 83},
		measured{"nines array a nine", 1, 361}, measured{"ninesb array b nine", 2, 362}, measured{"ninesd array d nine", 4, 364},
		measured{"tens array a ten", 1, 400}, measured{"tensd array d ten", 4, 400}, measured{"mosts array a most", 1, 400},
	)
	checkMeasured(t,
		measured{"a integer 1", 1, 1}, measured{"d integer 4", 4, 4}, measured{"text sized a", 1, 256}, measured{"line terminated 0a", 1, 400},
		measured{"flag option a", 1, 2}, measured{"texts array a text", 1, 400}, measured{"lines array d line", 4, 400}, measured{"flags array a flag", 1, 81},
		measured{"flagses array a flags", 1, 400}, measured{"sum checked flag", 2, 3}, measured{"sums array d sum", 4, 124},
	)
}

func TestSizesOfSequences(t *testing.T) {
	checkMeasured(t,
		measured{"a integer 1", 1, 1}, measured{"d integer 4", 4, 4}, measured{"c const 010203", 3, 3}, measured{"f fixed 20", 20, 20},
		measured{"flag option d", 1, 5}, measured{"text sized a", 1, 256}, measured{"line terminated 00", 1, 400},
		measured{"one sequence x:d", 4, 4}, measured{"oneflag sequence x:flag", 1, 5}, measured{"oneline sequence x:line", 1, 400},
		measured{"two sequence x:a y:f", 21, 21}, measured{"swapped sequence x:f y:a", 21, 21}, measured{"same sequence x:f y:f", 40, 40},
		measured{"eight sequence a:a b:d c:c d:f e:a f:d g:c h:f", 56, 56}, measured{"flags sequence a:flag b:flag c:flag d:flag e:flag f:flag g:flag h:flag", 8, 40},
		measured{"mixed sequence a:a b:flag c:text d:c", 6, 265}, measured{"last sequence a:f b:line", 21, 400}, measured{"first sequence a:line b:f", 21, 400},
		measured{"eights sequence a:f b:f c:f d:f e:f f:f g:f h:f", 160, 160}, measured{"nested sequence a:eights b:mixed", 166, 400}, measured{"pair sequence a:eights b:eights", 320, 320},
	)
}

// The least and the greatest alternative stand first, in the middle and last.
func TestSizesOfChoices(t *testing.T) {
	kids := []measured{
		{"a integer 1", 1, 1}, {"b integer 2", 2, 2}, {"c integer 3", 3, 3}, {"d integer 4", 4, 4},
		{"small fixed 5", 5, 5}, {"middle fixed 7", 7, 7}, {"large fixed 60", 60, 60}, {"flag option large", 1, 61}, {"text sized b", 2, 400},
	}
	for size, integer := range []string{"a", "b", "c", "d"} {
		n := size + 1
		for _, c := range []measured{
			{"1:small", 5, 5}, {"1:large", 60, 60}, {"1:a", 1, 1}, {"1:flag", 1, 61}, {"1:text", 2, 400 - n},
			{"1:small 2:middle 3:large", 5, 60}, {"1:small 2:large 3:middle", 5, 60}, {"1:middle 2:small 3:large", 5, 60},
			{"1:middle 2:large 3:small", 5, 60}, {"1:large 2:small 3:middle", 5, 60}, {"1:large 2:middle 3:small", 5, 60},
			{"0:middle 255:middle", 7, 7}, {"3:a 4:a 5:a", 1, 1}, {"3:a 4:b 5:c", 1, 3}, {"3:middle 4:d", 4, 7},
			{"1:flag 2:middle 3:small", 1, 61}, {"1:middle 2:flag 3:small", 1, 61}, {"1:large 2:middle 3:flag", 1, 61}, {"1:middle 2:text 3:small", 2, 400 - n},
			{"0:small 1:small 2:small 3:small 4:small 5:small 6:small 7:small", 5, 5}, {"0:a 1:middle 2:middle 3:middle 4:middle 5:middle 6:middle 7:large", 1, 60},
			{"0:large 1:middle 2:middle 3:middle 4:middle 5:middle 6:middle 7:a", 1, 60}, {"0:middle 1:middle 2:middle 3:a 4:large 5:middle 6:middle 7:middle", 1, 60},
		} {
			choice := measured{"choice choice " + integer + " " + c.line, n + c.min, n + c.max}
			checkMeasured(t, append(slices.Clone(kids), choice)...)
		}
	}
}

func TestSizesOfOptionsAndChecked(t *testing.T) {
	checkMeasured(t,
		measured{"d integer 4", 4, 4}, measured{"f fixed 64", 64, 64}, measured{"line terminated 00", 1, 400}, measured{"text sized d", 4, 400},
		measured{"od option d", 1, 5}, measured{"of option f", 1, 65}, measured{"oline option line", 1, 400}, measured{"otext option text", 1, 400}, measured{"ood option od", 1, 6},
		measured{"cd checked d", 5, 5}, measured{"cf checked f", 65, 65}, measured{"cline checked line", 2, 400}, measured{"ctext checked text", 5, 400}, measured{"ccd checked cd", 6, 6},
		measured{"cod checked od", 2, 6}, measured{"ocd option cd", 1, 6},
	)
}

// sixAnd has a rule x with exactly 384 bytes and as many more as the fixed rule b.
func sixAnd(more int) []measured {
	size := 384 + more
	least, greatest := min(size, 401), min(size, 400)
	return []measured{
		{"n integer 1", 1, 1}, {"a fixed 64", 64, 64}, {"b fixed " + strconv.Itoa(more), more, more},
		{"x sequence p0:a p1:a p2:a p3:a p4:a p5:a p6:b", least, greatest},
	}
}

func TestSizesAroundTheGreatestInput(t *testing.T) {
	for more, users := range map[int][]measured{
		14: {{"u checked x", 399, 399}, {"v checked u", 400, 400}, {"w checked v", 401, 400}, {"y checked w", 401, 400}, {"o option x", 1, 399}, {"oo option o", 1, 400}, {"ooo option oo", 1, 400}},
		15: {{"u checked x", 400, 400}, {"v checked u", 401, 400}, {"w checked v", 401, 400}, {"o option x", 1, 400}, {"oo option o", 1, 400}, {"s sequence x:x", 399, 399}, {"c choice n 0:x", 400, 400}},
		16: {{"u checked x", 401, 400}, {"o option x", 1, 400}, {"s sequence x:x", 400, 400}, {"c choice n 0:x", 401, 400}, {"both choice n 0:x 1:n", 2, 400}, {"more sequence x:x n:n", 401, 400}},
		17: {{"u checked x", 401, 400}, {"o option x", 1, 400}, {"s sequence x:x", 401, 400}, {"c choice n 0:x", 401, 400}, {"both choice n 0:n 1:x", 2, 400}, {"list array n x", 1, 400}},
		18: {{"u checked x", 401, 400}, {"o option x", 1, 400}, {"s sequence x:x", 401, 400}, {"so sequence o:o p:o", 2, 400}, {"list array n u", 1, 400}, {"sl sequence a:list b:x", 401, 400}},
		64: {{"u checked x", 401, 400}, {"o option u", 1, 400}, {"s sequence x:x y:x", 401, 400}, {"c choice n 0:x 1:s", 401, 400}, {"co choice n 0:x 1:o 2:s", 2, 400}, {"cc choice n 0:co", 3, 400}},
	} {
		checkMeasured(t, append(sixAnd(more), users...)...)
	}
}

// Sums of parts whose sizes differ come to MaxInput - 1, MaxInput, MaxInput + 1 and more in one bound or in both.
func TestSumsOfDifferentSizes(t *testing.T) {
	checkMeasured(t,
		measured{"n integer 1", 1, 1}, measured{"text sized n", 1, 256}, measured{"f fixed 64", 64, 64}, measured{"g fixed 15", 15, 15}, measured{"h fixed 16", 16, 16}, measured{"i fixed 17", 17, 17},
		measured{"a sequence a:text b:f c:f d:g", 144, 399}, measured{"b sequence a:text b:f c:f d:h", 145, 400}, measured{"c sequence a:text b:f c:f d:i", 146, 400},
		measured{"k fixed 39", 39, 39}, measured{"l fixed 38", 38, 38}, measured{"m fixed 40", 40, 40}, measured{"nine fixed 9", 9, 9}, measured{"list array n nine", 1, 361},
		measured{"la sequence a:list b:l", 39, 399}, measured{"lb sequence a:k b:list", 40, 400}, measured{"lc sequence a:list b:m", 41, 400},
		measured{"six sequence a:f b:f c:f d:f e:f f:f", 384, 384}, measured{"s0 sequence a:six b:g c:text", 400, 400}, measured{"s1 sequence a:text b:h c:six", 401, 400}, measured{"s2 sequence a:six b:text c:i", 401, 400},
		measured{"ss sequence a:s0 b:s1 c:s2", 401, 400},
	)
}

// chain has a rule for every index but 0; each line may name the rule before as %.
func chain(first string, line string) []string {
	lines := []string{"r0 " + first}
	for index := 1; index < impl.MaxRules; index++ {
		lines = append(lines, "r"+strconv.Itoa(index)+" "+strings.ReplaceAll(line, "%", "r"+strconv.Itoa(index-1)))
	}
	return lines
}

const eightParts = "sequence a:% b:% c:% d:% e:% f:% g:% h:%"

// Every rule uses the one before several times: the ways through the description are far too many to be walked, and the sums are beyond every integer.
func TestSizesOfRulesThatAreUsedAgain(t *testing.T) {
	for _, c := range []struct {
		first, line string
		min, max    []int
	}{
		{"integer 1", eightParts, []int{1, 8, 64, 401}, []int{1, 8, 64, 400}},
		{"integer 1", "sequence a:% b:%", []int{1, 2, 4, 8, 16, 32, 64, 128, 256, 401}, []int{1, 2, 4, 8, 16, 32, 64, 128, 256, 400}},
		{"fixed 50", eightParts, []int{50, 400, 401}, []int{50, 400}},
		{"fixed 51", eightParts, []int{51, 401}, []int{51, 400}},
		{"const 0102030405", "sequence a:% b:% c:%", []int{5, 15, 45, 135, 401}, []int{5, 15, 45, 135, 400}},
		{"terminated 00", eightParts, []int{1, 8, 64, 401}, []int{400}},
		{"terminated 00", "option %", []int{1}, []int{400}},
		{"fixed 64", "checked %", numbers(64, 24), numbers(64, 24)},
		{"fixed 64", "option %", append([]int{64}, slices.Repeat([]int{1}, 23)...), numbers(64, 24)},
		{"integer 4", "choice r0 0:% 1:% 2:% 3:% 4:% 5:% 6:% 7:%", []int{4, 8, 12, 16, 20, 24, 28, 32, 36, 40, 44, 48, 52, 56, 60, 64, 68, 72, 76, 80, 84, 88, 92, 96}, []int{4, 8, 12, 16, 20, 24, 28, 32, 36, 40, 44, 48, 52, 56, 60, 64, 68, 72, 76, 80, 84, 88, 92, 96}},
		{"integer 2", "array r0 %", []int{2}, []int{2, 82, 400}},
		{"integer 1", "array r0 %", []int{1}, []int{1, 41, 400}},
	} {
		d := described(t, chain(c.first, c.line)...)
		for index := range d.Rules {
			checkBounds(t, d, index, c.min[min(index, len(c.min)-1)], c.max[min(index, len(c.max)-1)])
		}
	}
}

// Behind sums beyond the greatest input, the last of MaxRules rules may still have small encodings.
func TestSizesOfTheLastRule(t *testing.T) {
	for line, want := range map[string]measured{
		"option %":                   {"", 1, 400},
		"checked %":                  {"", 401, 400},
		"choice r0 0:%":              {"", 401, 400},
		"choice r0 0:% 1:r0":         {"", 2, 400},
		"choice r0 5:r1 6:% 7:r2":    {"", 9, 400},
		"choice r0 5:r1 6:r0 7:r2":   {"", 2, 65},
		"array r0 %":                 {"", 1, 400},
		"sized r0":                   {"", 1, 256},
		"sequence a:r2 b:r2 c:r1":    {"", 136, 136},
		"sequence a:r2 b:r2 c:% d:%": {"", 401, 400},
		"integer 3":                  {"", 3, 3},
	} {
		lines := chain("integer 1", eightParts)
		lines[23] = "r23 " + strings.ReplaceAll(line, "%", "r22")
		d := described(t, lines...)
		checkBounds(t, d, 23, want.min, want.max)
		checkBounds(t, d, 22, 401, 400)
		checkBounds(t, d, 2, 64, 64)
	}
}

// A sized of four bytes may have more than 4000000000 bytes; sums of such sizes are limited as well.
func TestSizesOfManyLongParts(t *testing.T) {
	lines := chain("integer 4", eightParts)
	lines[1] = "r1 sized r0"
	d := described(t, lines...)
	least := []int{4, 4, 32, 256, 401}
	for index := range d.Rules {
		greatest := 400
		if index == 0 {
			greatest = 4
		}
		checkBounds(t, d, index, least[min(index, 4)], greatest)
	}
}

func TestIsFixedSize(t *testing.T) {
	fixed := func(size int) []string {
		lines := []string{}
		for _, rule := range sixAnd(size - 384) {
			lines = append(lines, rule.line)
		}
		return lines
	}
	pair := []string{"n integer 1", "a fixed 2", "b const 0102", "c fixed 3"}
	for _, c := range []struct {
		lines []string
		want  bool
	}{
		{[]string{"x integer 1"}, true}, {[]string{"x integer 4 little"}, true}, {[]string{"x const 00"}, true}, {[]string{"x fixed 64"}, true}, {[]string{"x terminated 00"}, false},
		{append(pair, "x sized n"), false}, {append(pair, "x array n a"), false}, {append(pair, "x option a"), false}, {append(pair, "x checked a"), true}, {append(pair, "x sequence a:a b:b c:c"), true},
		{append(pair, "x choice n 0:a"), true}, {append(pair, "x choice n 0:a 1:b"), true}, {append(pair, "x choice n 0:a 1:c"), false}, {append(pair, "x choice n 0:c 1:a"), false}, {append(pair, "x choice n 0:a 1:b 2:c 3:a"), false},
		{append(pair, "o option a", "x sequence a:a o:o"), false}, {append(pair, "o option a", "x checked o"), false}, {append(pair, "o option a", "x checked c"), true}, {append(pair, "t terminated 00", "x sequence a:t"), false},
		{fixed(385), true}, {fixed(398), true}, {fixed(399), true}, {fixed(400), false}, {fixed(401), false}, {fixed(402), false}, {fixed(448), false},
		{append(fixed(398), "y checked x"), true}, {append(fixed(399), "y checked x"), false}, {append(fixed(400), "y checked x"), false}, {append(fixed(401), "y checked x"), false},
		{append(fixed(400), "y option x"), false}, {append(fixed(399), "y choice n 0:x"), false}, {append(fixed(398), "y choice n 0:x 1:x"), true}, {append(fixed(400), "y sequence a:x b:x"), false},
	} {
		d := described(t, c.lines...)
		if got := impl.IsFixedSize(d, len(d.Rules)-1); got != c.want {
			t.Errorf("IsFixedSize of the last rule of %q = %v", c.lines, got)
		}
	}
	// Both bounds are MaxInput, and one has only its limit there.
	d := described(t, "n integer 1", "f fixed 64", "g fixed 16", "t terminated 00", "x sequence a:f b:f c:f d:f e:f f:f g:g", "y sequence x:x t:t", "z choice n 0:t 1:x")
	for rule, want := range [][2]int{4: {400, 400}, 5: {401, 400}, 6: {2, 400}} {
		if rule >= 4 && (impl.MinSize(d, rule) != want[0] || impl.MaxSize(d, rule) != want[1] || impl.IsFixedSize(d, rule)) {
			t.Errorf("the rule %d has the sizes %d and %d, fixed %v", rule, impl.MinSize(d, rule), impl.MaxSize(d, rule), impl.IsFixedSize(d, rule))
		}
	}
}

func TestDepthOf(t *testing.T) {
	for _, c := range []struct {
		lines []string
		want  []int
	}{
		{[]string{"a integer 1", "b integer 2 little", "c const 00", "d fixed 3", "e terminated 00"}, []int{1, 1, 1, 1, 1}},
		{[]string{"a integer 1", "s sized a", "r array a s", "o option r", "c checked o", "q sequence x:c", "h choice a 0:q"}, []int{1, 2, 3, 4, 5, 6, 7}},
		{[]string{"a integer 1", "s sized a", "t sequence x:a y:s", "u sequence x:s y:a", "v sequence x:s y:t z:a", "w sequence x:t y:a z:s"}, []int{1, 2, 3, 3, 4, 4}},
		{[]string{"a integer 1", "s sized a", "t option s", "c choice a 0:a", "d choice a 0:t 1:a", "e choice a 0:a 1:s 2:t", "f choice a 0:a 1:t 2:s"}, []int{1, 2, 3, 2, 4, 4, 4}},
		{[]string{"a integer 1", "r array a a", "s array a r", "f fixed 1", "o option f", "t sequence x:f y:f", "u sequence x:o y:s", "v sequence x:s y:o"}, []int{1, 2, 3, 1, 2, 2, 4, 4}},
		{chain("integer 1", "checked %"), numbers(1, 24)},
		{chain("terminated 00", "option %"), numbers(1, 24)},
		{chain("integer 1", eightParts), numbers(1, 24)},
		{chain("integer 1", "choice r0 0:% 1:r0 2:% 3:r0 4:% 5:r0 6:% 7:%"), numbers(1, 24)},
		{chain("integer 1", "sized r0"), append([]int{1}, slices.Repeat([]int{2}, 23)...)},
		{chain("integer 1", "fixed 1"), slices.Repeat([]int{1}, 24)},
	} {
		d := described(t, c.lines...)
		for rule, want := range c.want {
			if got := impl.DepthOf(d, rule); got != want {
				t.Errorf("DepthOf(%q, %d) = %d, want %d", c.lines, rule, got, want)
			}
		}
	}
	for rule, want := range []int{1, 1, 1, 1, 2, 3, 1, 4, 5, 6, 7} {
		if got := impl.DepthOf(allKinds(), rule); got != want {
			t.Errorf("DepthOf(allKinds, %d) = %d, want %d", rule, got, want)
		}
	}
}

// The greatest depth stands at each place among eight kids.
func TestDepthOfEveryPlace(t *testing.T) {
	for place := range impl.MaxParts {
		kids := slices.Repeat([]string{"a"}, impl.MaxParts)
		kids[place] = "deep"
		sequence, choice := "q sequence", "c choice a"
		for part, kid := range kids {
			sequence += " p" + strconv.Itoa(part) + ":" + kid
			choice += " " + strconv.Itoa(part) + ":" + kid
		}
		d := described(t, "a integer 1", "o option a", "deep checked o", sequence, choice)
		if impl.DepthOf(d, 3) != 4 || impl.DepthOf(d, 4) != 4 {
			t.Errorf("DepthOf with the deepest kid at %d = %d and %d", place, impl.DepthOf(d, 3), impl.DepthOf(d, 4))
		}
	}
}

// checkUsed tests UsedRules of every rule, and UnusedRules of the beginning that ends with it.
func checkUsed(t *testing.T, d impl.Description, want [][]int) {
	t.Helper()
	for rule, used := range want {
		if got := impl.UsedRules(d, rule); !slices.Equal(got, used) {
			t.Errorf("UsedRules(%q, %d) = %v, want %v", impl.FormatDescription(d), rule, got, used)
		}
		beginning := impl.Description{Rules: d.Rules[:rule+1]}
		unused := slices.DeleteFunc(numbers(0, rule+1), func(index int) bool { return slices.Contains(used, index) })
		if got := impl.UnusedRules(beginning); !slices.Equal(got, unused) {
			t.Errorf("UnusedRules of the first %d rules of %q = %v, want %v", rule+1, impl.FormatDescription(d), got, unused)
		}
		if got := impl.UsedRules(beginning, rule); !slices.Equal(got, used) {
			t.Errorf("UsedRules of the last of the first %d rules = %v, want %v", rule+1, got, used)
		}
	}
}

func TestUsedRules(t *testing.T) {
	checkUsed(t, allKinds(), [][]int{
		{0}, {1}, {2}, {3}, {1, 4}, {0, 1, 4, 5}, {6}, {0, 1, 4, 5, 6, 7}, {0, 1, 4, 5, 6, 7, 8}, {0, 1, 2, 3, 4, 5, 6, 7, 8, 9}, {0, 1, 2, 3, 4, 5, 6, 7, 8, 9, 10},
	})
	// Kids stand in descending order and several times, and rules between them are not used.
	d := described(t, "a integer 1", "b integer 2", "c const 00", "o option c", "s sized b", "q sequence x:s y:a z:s", "r array a o", "h choice b 0:r 1:q 2:r", "v sequence x:o y:c", "w checked v", "f fixed 1", "last sequence x:w y:a z:w")
	checkUsed(t, d, [][]int{
		{0}, {1}, {2}, {2, 3}, {1, 4}, {0, 1, 4, 5}, {0, 2, 3, 6}, {0, 1, 2, 3, 4, 5, 6, 7}, {2, 3, 8}, {2, 3, 8, 9}, {10}, {0, 2, 3, 8, 9, 11},
	})
	if got, want := impl.UnusedRules(d), []int{1, 4, 5, 6, 7, 10}; !slices.Equal(got, want) {
		t.Errorf("UnusedRules = %v, want %v", got, want)
	}
}

func TestUsedRulesOfChains(t *testing.T) {
	all, pairs, none := [][]int{}, [][]int{}, [][]int{}
	for rule := range impl.MaxRules {
		all = append(all, numbers(0, rule+1))
		none = append(none, []int{rule})
		pairs = append(pairs, slices.Compact([]int{0, rule}))
	}
	checkUsed(t, described(t, chain("integer 1", "checked %")...), all)
	checkUsed(t, described(t, chain("integer 1", eightParts)...), all)
	checkUsed(t, described(t, chain("integer 1", "choice r0 0:% 1:% 2:% 3:% 4:% 5:% 6:% 7:%")...), all)
	checkUsed(t, described(t, chain("integer 1", "array r0 %")...), all)
	checkUsed(t, described(t, chain("integer 1", "sized r0")...), pairs)
	checkUsed(t, described(t, chain("integer 1", "array r0 r0")...), pairs)
	checkUsed(t, described(t, chain("integer 1", "fixed 1")...), none)
	checkUsed(t, described(t, chain("terminated 00", "const 00")...), none)
}

func TestUnusedRules(t *testing.T) {
	for _, c := range []struct {
		lines []string
		want  []int
	}{
		{[]string{"a integer 1"}, nil}, {[]string{"a integer 1", "b option a"}, nil}, {[]string{"a integer 1", "b integer 1"}, []int{0}},
		{[]string{"a integer 1", "b integer 1", "c option a"}, []int{1}}, {[]string{"a integer 1", "b integer 1", "c option b"}, []int{0}}, {[]string{"a integer 1", "b option a", "c fixed 1"}, []int{0, 1}},
		{[]string{"a integer 1", "b option a", "c fixed 1", "d checked b"}, []int{2}}, {chain("integer 1", "option %"), nil}, {chain("fixed 1", "terminated 00"), numbers(0, 23)},
	} {
		if got := impl.UnusedRules(described(t, c.lines...)); !slices.Equal(got, c.want) {
			t.Errorf("UnusedRules(%q) = %v, want %v", c.lines, got, c.want)
		}
	}
	// Used and unused rules are together all rules.
	for _, d := range append(validDescriptions(), randomDescriptions(200)...) {
		together := append(impl.UsedRules(d, len(d.Rules)-1), impl.UnusedRules(d)...)
		slices.Sort(together)
		if !slices.Equal(together, numbers(0, len(d.Rules))) {
			t.Errorf("used and unused rules of %q are %v", impl.FormatDescription(d), together)
		}
	}
}

func TestIsBinaryOnly(t *testing.T) {
	for _, c := range []struct {
		lines []string
		want  bool
	}{
		{[]string{"t terminated 00"}, false}, {[]string{"a integer 1"}, true}, {[]string{"c const 00"}, true}, {[]string{"f fixed 1"}, true},
		{[]string{"t terminated 00", "a integer 1"}, true}, {[]string{"a integer 1", "t terminated 00"}, false},
		{[]string{"t terminated 00", "a option t"}, false}, {[]string{"t terminated 00", "a checked t"}, false}, {[]string{"t terminated 00", "a sequence x:t"}, false},
		{[]string{"a integer 1", "t terminated 00", "x array a t"}, false}, {[]string{"a integer 1", "t terminated 00", "x array a a"}, true}, {[]string{"a integer 1", "t terminated 00", "x sized a"}, true},
		{[]string{"a integer 1", "t terminated 00", "x choice a 0:a 1:t"}, false}, {[]string{"a integer 1", "t terminated 00", "x choice a 0:t 1:a"}, false}, {[]string{"a integer 1", "t terminated 00", "x choice a 0:a 1:a"}, true},
		{[]string{"a integer 1", "t terminated 00", "x sequence x:a y:a z:t"}, false}, {[]string{"a integer 1", "t terminated 00", "x sequence x:a y:a z:a"}, true},
		{[]string{"t terminated 00", "a option t", "b checked a", "c option b"}, false}, {[]string{"t terminated 00", "a option t", "b checked a", "c fixed 1"}, true},
		{[]string{"t terminated 00", "u terminated 01", "a integer 1", "x option u"}, false}, {[]string{"t terminated 00", "u terminated 01", "a integer 1", "x option t"}, false}, {[]string{"t terminated 00", "u terminated 01", "a integer 1", "x option a"}, true},
		{chain("terminated 00", "option %"), false}, {chain("terminated 00", eightParts), false}, {chain("integer 1", "option %"), true}, {chain("integer 1", eightParts), true}, {chain("terminated 00", "fixed 1"), true},
	} {
		if got := impl.IsBinaryOnly(described(t, c.lines...)); got != c.want {
			t.Errorf("IsBinaryOnly(%q) = %v", c.lines, got)
		}
	}
	if impl.IsBinaryOnly(allKinds()) || !impl.IsBinaryOnly(manyRules(24)) {
		t.Error("IsBinaryOnly of the examples")
	}
}

// randomRule is a rule of a random kind behind d; whether it is valid is left to the caller.
func randomRule(random *rand.Rand, d impl.Description) impl.Rule {
	count := len(d.Rules)
	// Sequences are more frequent than the other kinds, because their sizes grow beyond the greatest input.
	rule := impl.Rule{Name: "r" + strconv.Itoa(count), Kind: 1 + random.Intn(10)}
	if random.Intn(2) == 0 {
		rule.Kind = impl.KindSequence
	}
	kid := func() int { return random.Intn(max(1, count)) }
	// An integer is looked for among the first three rules alone: where it is one, it is chosen often.
	integer := func() int { return random.Intn(max(1, min(count, 3))) }
	parts := 1 + random.Intn(impl.MaxParts)
	switch rule.Kind {
	case impl.KindInteger:
		rule.Size = 1 + random.Intn(4)
	case impl.KindConst:
		rule.Bytes = make([]byte, 1+random.Intn(16))
	case impl.KindFixed:
		rule.Size = 1 + random.Intn(64)
	case impl.KindTerminated:
		rule.Bytes = []byte{byte(random.Intn(90))}
	case impl.KindSized:
		rule.Kids = []int{integer()}
	case impl.KindArray:
		rule.Kids = []int{integer(), kid()}
	case impl.KindOption, impl.KindChecked:
		rule.Kids = []int{kid()}
	case impl.KindSequence:
		rule.Names = partNames(parts)
		for range parts {
			rule.Kids = append(rule.Kids, kid())
		}
	case impl.KindChoice:
		rule.Tags = numbers(random.Intn(200), parts)
		rule.Kids = []int{integer()}
		for range parts {
			rule.Kids = append(rule.Kids, kid())
		}
	}
	return rule
}

// randomDescriptions returns count valid descriptions, the same ones at every call.
func randomDescriptions(count int) []impl.Description {
	random := rand.New(rand.NewSource(7))
	list := []impl.Description{}
	for range count {
		d := impl.Description{}
		for want := 1 + random.Intn(impl.MaxRules); len(d.Rules) < want; {
			if next := behind(d, randomRule(random, d)); impl.IsValidDescription(next) {
				d = next
			}
		}
		list = append(list, d)
	}
	return list
}

// trueSizes returns the least and the greatest length of an encoding of every rule, however long: nothing is limited on the way.
func trueSizes(d impl.Description) (least []*big.Int, greatest []*big.Int) {
	sum := func(sizes []*big.Int, kids ...int) *big.Int {
		total := new(big.Int)
		for _, kid := range kids {
			total.Add(total, sizes[kid])
		}
		return total
	}
	plus := func(a *big.Int, n int) *big.Int { return new(big.Int).Add(a, big.NewInt(int64(n))) }
	for _, rule := range d.Rules {
		low, high := new(big.Int), new(big.Int)
		switch rule.Kind {
		case impl.KindInteger, impl.KindFixed, impl.KindConst:
			low = big.NewInt(int64(rule.Size + len(rule.Bytes)))
			high = low
		case impl.KindTerminated:
			low, high = big.NewInt(1), big.NewInt(400)
		case impl.KindSized:
			low = least[rule.Kids[0]]
			high = plus(low, 1<<(8*d.Rules[rule.Kids[0]].Size)-1)
		case impl.KindArray:
			low = least[rule.Kids[0]]
			high = new(big.Int).Add(low, new(big.Int).Mul(big.NewInt(40), greatest[rule.Kids[1]]))
		case impl.KindOption:
			low, high = big.NewInt(1), plus(greatest[rule.Kids[0]], 1)
		case impl.KindChecked, impl.KindSequence:
			sums := 0
			if rule.Kind == impl.KindChecked {
				sums = 1
			}
			low, high = plus(sum(least, rule.Kids...), sums), plus(sum(greatest, rule.Kids...), sums)
		case impl.KindChoice:
			for at, kid := range rule.Kids[1:] {
				one, other := sum(least, rule.Kids[0], kid), sum(greatest, rule.Kids[0], kid)
				if at == 0 || one.Cmp(low) < 0 {
					low = one
				}
				if at == 0 || other.Cmp(high) > 0 {
					high = other
				}
			}
		}
		least, greatest = append(least, low), append(greatest, high)
	}
	return least, greatest
}

func limited(n *big.Int, limit int) int {
	if n.Cmp(big.NewInt(int64(limit))) > 0 {
		return limit
	}
	return int(n.Int64())
}

func TestSizesOfRandomDescriptions(t *testing.T) {
	fixed, beyond := 0, 0
	for _, d := range append(randomDescriptions(2000), validDescriptions()...) {
		least, greatest := trueSizes(d)
		for rule := range d.Rules {
			low, high := limited(least[rule], 401), limited(greatest[rule], 400)
			checkBounds(t, d, rule, low, high)
			if impl.IsFixedSize(d, rule) {
				fixed++
			}
			if low == 401 {
				beyond++
			}
		}
		if t.Failed() {
			t.Fatalf("the description is\n%s", impl.FormatDescription(d))
		}
	}
	if fixed < 1000 || beyond < 1000 {
		t.Errorf("%d rules have a fixed size, and %d are longer than the greatest input", fixed, beyond)
	}
}

// Depths and uses are followed from every rule through its kids, in the order in which they are found.
func TestUsesOfRandomDescriptions(t *testing.T) {
	for _, d := range append(randomDescriptions(500), validDescriptions()...) {
		used := [][]int{}
		for rule := range d.Rules {
			found := []int{rule}
			for at := 0; at < len(found); at++ {
				for _, kid := range d.Rules[found[at]].Kids {
					if !slices.Contains(found, kid) {
						found = append(found, kid)
					}
				}
			}
			slices.Sort(found)
			used = append(used, found)
			depth := 1
			for level := slices.Clone(d.Rules[rule].Kids); len(level) > 0; depth++ {
				next := []int{}
				for _, kid := range level {
					next = append(next, d.Rules[kid].Kids...)
				}
				slices.Sort(next)
				level = slices.Compact(next)
			}
			if got := impl.DepthOf(d, rule); got != depth {
				t.Errorf("DepthOf(%q, %d) = %d, want %d", impl.FormatDescription(d), rule, got, depth)
			}
		}
		checkUsed(t, d, used)
		binary := true
		for _, rule := range used[len(used)-1] {
			binary = binary && d.Rules[rule].Kind != impl.KindTerminated
		}
		if got := impl.IsBinaryOnly(d); got != binary {
			t.Errorf("IsBinaryOnly(%q) = %v", impl.FormatDescription(d), got)
		}
	}
}

// encodingEnd returns the index after the encoding of the rule that begins at the index at, or -1 if there is none.
func encodingEnd(d impl.Description, rule int, b string, at int) int {
	r := d.Rules[rule]
	end, n := at, 0
	takeInteger := func() bool {
		size := d.Rules[r.Kids[0]].Size
		if len(b) < at+size {
			return false
		}
		n, end = impl.ReadInteger([]byte(b[at:at+size]), d.Rules[r.Kids[0]].Little), at+size
		return true
	}
	switch r.Kind {
	case impl.KindInteger, impl.KindFixed:
		end = at + r.Size
	case impl.KindConst:
		if !strings.HasPrefix(b[at:], string(r.Bytes)) {
			return -1
		}
		end = at + len(r.Bytes)
	case impl.KindSized:
		if !takeInteger() {
			return -1
		}
		end += n
	case impl.KindArray:
		if !takeInteger() || n > 40 {
			return -1
		}
		return encodingsEnd(d, slices.Repeat(r.Kids[1:], n), b, end)
	case impl.KindSequence:
		return encodingsEnd(d, r.Kids, b, at)
	case impl.KindChoice:
		if !takeInteger() || !slices.Contains(r.Tags, n) {
			return -1
		}
		return encodingEnd(d, r.Kids[1+slices.Index(r.Tags, n)], b, end)
	case impl.KindOption:
		if len(b) == at || b[at] > 1 {
			return -1
		}
		return encodingsEnd(d, slices.Repeat(r.Kids, int(b[at])), b, at+1)
	case impl.KindChecked:
		end = encodingEnd(d, r.Kids[0], b, at)
		if end < 0 || end == len(b) || b[end] != sumOf(b[at:end]) {
			return -1
		}
		end++
	case impl.KindTerminated:
		for end < len(b) && b[end] != r.Bytes[0] {
			if b[end] == impl.Escape {
				end++
			}
			end++
		}
		end++
	}
	if end > len(b) {
		return -1
	}
	return end
}

func encodingsEnd(d impl.Description, rules []int, b string, at int) int {
	for _, rule := range rules {
		if at >= 0 {
			at = encodingEnd(d, rule, b, at)
		}
	}
	return at
}

func sumOf(b string) byte {
	sum := byte(0)
	for _, c := range []byte(b) {
		sum += c
	}
	return sum
}

func withSum(b string) string {
	return b + string([]byte{sumOf(b)})
}

// An encoded rule has encodings that are written down by hand: the first is one of the shortest, the last one of the longest in MaxInput bytes.
type encoded struct {
	rule      string
	encodings []string
}

func checkEncoded(t *testing.T, d impl.Description, rules []encoded) {
	t.Helper()
	for _, one := range rules {
		rule := impl.FindRule(d, one.rule)
		least, greatest, fixed := impl.MinSize(d, rule), impl.MaxSize(d, rule), impl.IsFixedSize(d, rule)
		for _, b := range one.encodings {
			if encodingEnd(d, rule, b, 0) != len(b) {
				t.Errorf("%q is no encoding of %s", b, one.rule)
			}
			if len(b) < least || len(b) > greatest || fixed && (len(b) != least || len(b) != greatest) {
				t.Errorf("%s has the bounds %d and %d, fixed %v, and the encoding %q with %d bytes", one.rule, least, greatest, fixed, b, len(b))
			}
		}
		if shortest, longest := len(one.encodings[0]), len(one.encodings[len(one.encodings)-1]); shortest != least || longest != greatest || fixed != (shortest == longest && longest < 400) {
			t.Errorf("%s has the bounds %d and %d, fixed %v, but its encodings have from %d to %d bytes", one.rule, least, greatest, fixed, shortest, longest)
		}
	}
}

func TestEncodingsOfAllKindsLieBetweenBothBounds(t *testing.T) {
	x := func(count int) string { return strings.Repeat("x", count) }
	head := "PK0123456789abcdef"
	checkEncoded(t, allKinds(), []encoded{
		{"integer", []string{"\x00", "\x01", "\xff"}},
		{"little", []string{"\x00\x00", "\x01\x00", "\xff\xff"}},
		{"const", []string{"PK"}},
		{"fixed", []string{x(16), "0123456789abcdef"}},
		{"sized", []string{"\x00\x00", "\x01\x00x", "\x00\x01" + x(256), "\x8d\x01" + x(397), "\x8e\x01" + x(398)}},
		{"array", []string{"\x00", "\x01\x00\x00", "\x02\x00\x00\x01\x00x", "\x28" + strings.Repeat("\x00\x00", 40), "\x02\x00\x00\x8b\x01" + x(395), "\x28" + strings.Repeat("\x07\x00"+x(7), 39) + "\x2e\x00" + x(46)}},
		{"terminated", []string{"\n", "x\n", "\\\n\n", "\\\\\n", "\\x\\x\n", strings.Repeat("\\\n", 199) + "\n", x(399) + "\n"}},
		{"choice", []string{"\x07\x00", "\xff\n", "\x00\x00\x00", "\x07\x01\x00\x00", "\xff" + x(397) + "\n", "\x00\x8d\x01" + x(397)}},
		{"option", []string{"\x00", "\x01\xff\n", "\x01\x00\x03\x00xyz", "\x01\xff" + x(397) + "\n"}},
		{"sequence", []string{head + "\x00", head + "\x01\xff\n", head + "\x01\x07\x02\x00\x00\x00\x00", head + "\x01\xff" + x(379) + "\n"}},
		{"checked", []string{withSum(head + "\x00"), withSum(head + "\x01\xff\n"), withSum(head + "\x01\x00\x03\x00xyz"), withSum(head + "\x01\xff" + x(378) + "\n")}},
	})
}

func TestEncodingsOfFixedSizesHaveOneLength(t *testing.T) {
	d := described(t,
		"byte integer 1", "word integer 2 little", "mark const cafe", "four fixed 4", "point sequence x:word y:word", "tagged choice byte 1:point 200:four",
		"sealed checked tagged", "six fixed 6", "far choice word 0:sealed 515:six", "file sequence m:mark a:sealed b:far c:sealed",
	)
	point, four := withSum("\x01\x00\x01\xff\xff"), withSum("\xc8abcd")
	checkEncoded(t, d, []encoded{
		{"byte", []string{"\x00", "x"}},
		{"word", []string{"\x00\x00", "\xff\xff"}},
		{"mark", []string{"\xca\xfe"}},
		{"four", []string{"\x00\x00\x00\x00", "abcd"}},
		{"point", []string{"\x00\x00\x00\x00", "\x01\x00\xff\xff"}},
		{"tagged", []string{"\x01abcd", "\xc8\x00\x00\x00\x00"}},
		{"sealed", []string{point, four}},
		{"far", []string{"\x00\x00" + point, "\x00\x00" + four, "\x03\x02abcdef"}},
		{"file", []string{"\xca\xfe" + point + "\x00\x00" + four + four, "\xca\xfe" + four + "\x03\x02abcdef" + point}},
	})
}

// The greatest lengths below MaxInput are reached as well.
func TestEncodingsOfShortRulesReachBothBounds(t *testing.T) {
	d := described(t,
		"byte integer 1", "long integer 4", "point fixed 2", "points array byte point", "name sized byte", "flag option point", "flags array long flag", "seal checked flag",
		"shape choice byte 0:flag 1:points 2:seal", "shapes sequence a:shape b:shape", "part sequence a:name b:flag", "last choice long 7:part 65536:byte",
	)
	full := "\x28" + strings.Repeat("ab", 40)
	name := "\xff" + strings.Repeat("n", 255)
	checkEncoded(t, d, []encoded{
		{"points", []string{"\x00", "\x01ab", "\x03ababab", full}},
		{"name", []string{"\x00", "\x01n", "\x04name", name}},
		{"flag", []string{"\x00", "\x01ab"}},
		{"flags", []string{"\x00\x00\x00\x00", "\x00\x00\x00\x02\x00\x01ab", "\x00\x00\x00\x28" + strings.Repeat("\x01ab", 40)}},
		{"seal", []string{"\x00\x00", withSum("\x01ab")}},
		{"shape", []string{"\x00\x00", "\x01\x00", "\x02\x00\x00", "\x02" + withSum("\x01ab"), "\x01" + full}},
		{"shapes", []string{"\x00\x00\x01\x00", "\x01\x00\x02\x00\x00", "\x01" + full + "\x01" + full}},
		{"part", []string{"\x00\x00", "\x01n\x01ab", name + "\x01ab"}},
		{"last", []string{"\x00\x01\x00\x00x", "\x00\x00\x00\x07\x00\x00", "\x00\x00\x00\x07" + name + "\x01ab"}},
	})
}

// All texts of up to six characters out of four are tried as encodings of every rule.
func TestShortTextsThatAreEncodingsLieBetweenBothBounds(t *testing.T) {
	short := [][]byte{{}}
	for at := 0; len(short[at]) < 6; at++ {
		for _, c := range []byte{0, 1, 2, impl.Escape} {
			short = append(short, append(slices.Clip(short[at]), c))
		}
	}
	d := described(t,
		"byte integer 1", "word integer 2", "mark const 0001", "two fixed 2", "text sized byte", "line terminated 02", "list array byte word", "texts array word text", "flag option two",
		"seal checked byte", "kind choice byte 0:line 1:flag 2:mark", "pair sequence a:kind b:seal", "deep checked pair", "many choice word 1:list 2:pair 257:byte",
	)
	for rule := range d.Rules {
		least, greatest, fixed, count := impl.MinSize(d, rule), impl.MaxSize(d, rule), impl.IsFixedSize(d, rule), 0
		shortest := 7
		for _, b := range short {
			if encodingEnd(d, rule, string(b), 0) != len(b) {
				continue
			}
			count++
			shortest = min(shortest, len(b))
			if len(b) < least || len(b) > greatest || fixed && len(b) != least {
				t.Errorf("the bounds of the rule %d are %d and %d, fixed %v; %q is an encoding", rule, least, greatest, fixed, b)
			}
		}
		if count == 0 || shortest != least {
			t.Errorf("%d short texts are encodings of the rule %d; the shortest has %d bytes, but MinSize is %d", count, rule, shortest, least)
		}
	}
}

func checkNoSizes(t *testing.T, d impl.Description, rule int) {
	t.Helper()
	if least, greatest, fixed := impl.MinSize(d, rule), impl.MaxSize(d, rule), impl.IsFixedSize(d, rule); least != 0 || greatest != 0 || fixed {
		t.Errorf("of the rule %d of %+v, the bounds are %d and %d, fixed %v", rule, d, least, greatest, fixed)
	}
	if depth, used := impl.DepthOf(d, rule), impl.UsedRules(d, rule); depth != 0 || len(used) != 0 {
		t.Errorf("of the rule %d of %+v, DepthOf is %d and UsedRules %v", rule, d, depth, used)
	}
}

func TestSizesOutside(t *testing.T) {
	for _, d := range append(validDescriptions(), randomDescriptions(50)...) {
		for _, rule := range outsideIndexes(len(d.Rules)) {
			checkNoSizes(t, d, rule)
		}
		// All rules that there are have a size, a depth and a use.
		for rule := range d.Rules {
			if impl.MinSize(d, rule) == 0 || impl.MaxSize(d, rule) == 0 || impl.DepthOf(d, rule) == 0 || len(impl.UsedRules(d, rule)) == 0 {
				t.Errorf("the rule %d of %q is not measured", rule, impl.FormatDescription(d))
			}
		}
	}
	// Rules in the spare capacity, and those that were cut off, are none.
	whole := allKinds().Rules
	for count := range whole {
		for rule := count; rule < len(whole); rule++ {
			checkNoSizes(t, impl.Description{Rules: whole[:count]}, rule)
		}
	}
}

func invalidDescriptions() []impl.Description {
	list := append(oddDescriptions(),
		impl.Description{}, impl.Description{Rules: []impl.Rule{}}, impl.Description{Rules: allKinds().Rules[:0]}, impl.Description{Rules: make([]impl.Rule, 1)}, impl.Description{Rules: make([]impl.Rule, 24)},
		manyRules(25), manyRules(26), manyRules(48), manyRules(400), manyRulesNamed(rNames(25)...), with(everyField()), with(impl.Rule{}), with(allKinds().Rules[0]), impl.Description{Rules: allKinds().Rules[1:]},
	)
	breaks := []func(*impl.Rule){
		func(r *impl.Rule) { r.Name = "" }, func(r *impl.Rule) { r.Name = "No name" }, func(r *impl.Rule) { r.Kind = 0 }, func(r *impl.Rule) { r.Kind = 11 }, func(r *impl.Rule) { r.Size = -1 }, func(r *impl.Rule) { r.Size = 65 },
		func(r *impl.Rule) { r.Bytes = make([]byte, 17) }, func(r *impl.Rule) { r.Tags = []int{-1} }, func(r *impl.Rule) { r.Names = []string{"a", "a", "a"} }, func(r *impl.Rule) { r.Kids = []int{-1} },
		func(r *impl.Rule) { r.Kids = []int{99, 99} }, func(r *impl.Rule) { r.Kids = []int{1 << 62, -1 << 62, 0} }, func(r *impl.Rule) { r.Kids = make([]int, 1000) }, func(r *impl.Rule) { r.Kids = []int{10} },
	}
	for _, change := range breaks {
		for index := range allKinds().Rules {
			d := allKinds()
			change(&d.Rules[index])
			list = append(list, d)
		}
	}
	// A rule that uses itself, and two that use each other.
	for _, kids := range [][2]int{{1, 0}, {0, 2}, {2, 1}} {
		list = append(list, impl.Description{Rules: []impl.Rule{{Name: "a", Kind: impl.KindFixed, Size: 1}, {Name: "b", Kind: impl.KindOption, Kids: kids[:1]}, {Name: "c", Kind: impl.KindOption, Kids: kids[1:]}}})
	}
	return append(list, brokenBehind()...)
}

// brokenBehind returns descriptions of which the first eleven rules are valid: what breaks them is a later rule, or one too many.
func brokenBehind() []impl.Description {
	late := impl.Rule{Name: "late", Kind: impl.KindOption, Kids: []int{11}}
	double := impl.Rule{Name: "integer", Kind: impl.KindFixed, Size: 1}
	return []impl.Description{
		{Rules: append(allKinds().Rules, late)}, {Rules: append(allKinds().Rules, double)}, {Rules: append(allKinds().Rules, manyRules(14).Rules...)},
	}
}

func TestSizesOfInvalidDescriptions(t *testing.T) {
	for _, d := range invalidDescriptions() {
		if impl.IsValidDescription(d) {
			t.Fatalf("valid: %+v", d)
		}
		for _, rule := range append(outsideIndexes(len(d.Rules)), numbers(0, len(d.Rules)+1)...) {
			checkNoSizes(t, d, rule)
		}
		if unused := impl.UnusedRules(d); len(unused) != 0 || impl.IsBinaryOnly(d) {
			t.Errorf("of the invalid description %+v, UnusedRules is %v and IsBinaryOnly %v", d, unused, impl.IsBinaryOnly(d))
		}
	}
}

func TestMeasuringModifiesNothing(t *testing.T) {
	for _, d := range slices.Concat(descriptionsToCopy(), invalidDescriptions(), randomDescriptions(50)) {
		g := guardDescription(d)
		for _, rule := range append(outsideIndexes(len(d.Rules)), numbers(0, len(d.Rules)+1)...) {
			if impl.MinSize(g.d, rule) != impl.MinSize(d, rule) || impl.MaxSize(g.d, rule) != impl.MaxSize(d, rule) || impl.IsFixedSize(g.d, rule) != impl.IsFixedSize(d, rule) || impl.DepthOf(g.d, rule) != impl.DepthOf(d, rule) {
				t.Errorf("with spare capacity, the rule %d of %+v has other sizes or another depth", rule, d)
			}
			if got, want := impl.UsedRules(g.d, rule), impl.UsedRules(d, rule); !slices.Equal(got, want) {
				t.Errorf("with spare capacity, UsedRules(%d) = %v, want %v", rule, got, want)
			}
		}
		if got, want := impl.UnusedRules(g.d), impl.UnusedRules(d); !slices.Equal(got, want) || impl.IsBinaryOnly(g.d) != impl.IsBinaryOnly(d) {
			t.Errorf("with spare capacity, UnusedRules = %v, want %v", got, want)
		}
		g.check(t, "a function of chapter 7")
	}
}

// checkListIsFresh writes to all memory of one list and to that of the description: other results, and the list itself, stay as they were.
func checkListIsFresh(t *testing.T, name string, d impl.Description, list func(d impl.Description) []int) {
	t.Helper()
	g := guardDescription(d)
	first, second := list(g.d), list(g.d)
	kept := slices.Clone(second)
	whole := first[:cap(first)]
	for at := range whole {
		whole[at] = -5
	}
	g.check(t, "writing to "+name)
	if !slices.Equal(second, kept) || !slices.Equal(list(g.d), kept) || !slices.Equal(list(d), kept) {
		t.Errorf("writing to %s changed others: %v, want %v", name, second, kept)
	}
	overwrite(g.arrays)
	overwrite(g.list)
	if !slices.Equal(second, kept) || slices.ContainsFunc(whole, func(rule int) bool { return rule != -5 }) {
		t.Errorf("writing to the description changed %s: %v, want %v", name, second, kept)
	}
}

func TestListsOfRulesAreNewMemory(t *testing.T) {
	for _, d := range slices.Concat(descriptionsToCopy(), invalidDescriptions(), randomDescriptions(50)) {
		for rule := -1; rule <= len(d.Rules); rule++ {
			checkListIsFresh(t, "UsedRules", d, func(d impl.Description) []int { return impl.UsedRules(d, rule) })
		}
		checkListIsFresh(t, "UnusedRules", d, impl.UnusedRules)
	}
	// What is written to the used rules does not reach the unused ones either.
	d := described(t, "a integer 1", "b integer 1", "c option b", "d fixed 1", "e option c")
	used, unused := impl.UsedRules(d, 4), impl.UnusedRules(d)
	for at := range used[:cap(used)] {
		used[:cap(used)][at] = 9
	}
	if !slices.Equal(unused, []int{0, 3}) {
		t.Errorf("writing to UsedRules changed UnusedRules: %v", unused)
	}
	used = impl.UsedRules(d, 4)
	for at := range unused[:cap(unused)] {
		unused[:cap(unused)][at] = 9
	}
	if !slices.Equal(used, []int{1, 2, 4}) {
		t.Errorf("writing to UnusedRules changed UsedRules: %v", used)
	}
}

// Sizes follow from the description as it is now, not from an earlier call.
func TestSizesFollowTheDescription(t *testing.T) {
	d := described(t, "a integer 1", "f fixed 9", "g fixed 5", "l array a f", "o option l", "c checked o")
	for range 2 {
		checkBounds(t, d, 5, 2, 363)
	}
	d.Rules[1].Size = 3
	checkBounds(t, d, 5, 2, 123)
	d.Rules[0].Size = 3
	checkBounds(t, d, 5, 2, 125)
	checkBounds(t, d, 3, 3, 123)
	d.Rules[4].Kids[0] = 2
	checkBounds(t, d, 5, 2, 7)
	if got := impl.UsedRules(d, 5); !slices.Equal(got, []int{2, 4, 5}) || impl.DepthOf(d, 5) != 3 {
		t.Errorf("UsedRules = %v and DepthOf = %d", got, impl.DepthOf(d, 5))
	}
	d.Rules[2] = impl.Rule{Name: "g", Kind: impl.KindTerminated, Bytes: []byte{0}}
	checkBounds(t, d, 5, 2, 400)
	if impl.IsBinaryOnly(d) {
		t.Error("IsBinaryOnly although a used rule is now a terminated")
	}
	d.Rules[2].Bytes[0] = impl.Escape
	checkNoSizes(t, d, 5)
	checkNoSizes(t, d, 0)
}
