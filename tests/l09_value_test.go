package tests

import (
	"math"
	"math/rand"
	"slices"
	"strconv"
	"strings"
	"testing"

	"loop.example/g00518/impl"
)

// The values of the tests are written with these: what has a number, what has bytes, what has items, and what has a number and an item.
func num(n int) impl.Value { return impl.Value{Number: n} }

func raw(b string) impl.Value { return impl.Value{Bytes: []byte(b)} }

func zeros(count int) impl.Value { return impl.Value{Bytes: make([]byte, count)} }

func parts(items ...impl.Value) impl.Value { return impl.Value{Items: items} }

func tagged(tag int, items ...impl.Value) impl.Value { return impl.Value{Number: tag, Items: items} }

func times(count int, v impl.Value) impl.Value {
	return impl.Value{Items: slices.Repeat([]impl.Value{v}, count)}
}

// plainCopy shares no memory with the value, nor between its parts; where empty is true, it has empty slices, and otherwise nil ones.
func plainCopy(v impl.Value, empty bool) impl.Value {
	c := impl.Value{Number: v.Number}
	if empty {
		c.Bytes, c.Items = []byte{}, []impl.Value{}
	}
	c.Bytes = append(c.Bytes, v.Bytes...)
	for _, item := range v.Items {
		c.Items = append(c.Items, plainCopy(item, empty))
	}
	return c
}

// plainText writes all fields of a value: values are equal if it is the same.
func plainText(v impl.Value) string {
	text := strconv.Itoa(v.Number) + "'" + string(v.Bytes) + "'" + strconv.Itoa(len(v.Bytes)) + "("
	for _, item := range v.Items {
		text += plainText(item) + ","
	}
	return text + ")"
}

// everyPartOf returns the places of the value and of all its items, directly and indirectly.
func everyPartOf(v *impl.Value) []*impl.Value {
	list := []*impl.Value{v}
	for at := range v.Items {
		list = append(list, everyPartOf(&v.Items[at])...)
	}
	return list
}

// checkValid tests a value with nil and with empty slices.
func checkValid(t *testing.T, d impl.Description, rule int, v impl.Value, want bool) {
	t.Helper()
	for _, w := range []impl.Value{v, plainCopy(v, false), plainCopy(v, true)} {
		if got := impl.IsValidValue(d, rule, w); got != want {
			t.Fatalf("IsValidValue of %q with %+v = %v", impl.FormatRule(d, rule), w, got)
		}
	}
}

// checkFields tests that something in a field that the kind does not use makes a valid value invalid.
func checkFields(t *testing.T, d impl.Description, rule int, v impl.Value, fields string) {
	t.Helper()
	checkValid(t, d, rule, v, true)
	if !strings.Contains(fields, "Number") {
		for _, n := range []int{1, -1, 2, 255, 256, 1 << 32, math.MinInt, math.MaxInt} {
			w := v
			w.Number = n
			checkValid(t, d, rule, w, false)
		}
	}
	if !strings.Contains(fields, "Bytes") {
		for _, b := range [][]byte{{0}, {1}, {0, 0}, v.Bytes, []byte("PK"), make([]byte, 16), make([]byte, 401)} {
			w := v
			w.Bytes = b
			checkValid(t, d, rule, w, len(b) == 0)
		}
	}
	if !strings.Contains(fields, "Items") {
		for _, items := range [][]impl.Value{{{}}, {num(1)}, {raw("a")}, {v}, {{}, {}}, make([]impl.Value, 41)} {
			w := v
			w.Items = items
			checkValid(t, d, rule, w, false)
		}
	}
}

func integerFields() []string {
	return []string{"1", "2", "3", "4", "2 little", "3 little", "4 little"}
}

func TestValuesOfIntegers(t *testing.T) {
	limits := []int{255, 65535, 16777215, 4294967295, 65535, 16777215, 4294967295}
	for at, fields := range integerFields() {
		d := described(t, "other integer 4", "i integer "+fields, "next integer 1")
		limit := limits[at]
		for _, n := range []int{0, 1, 9, 92, limit / 2, limit - 1, limit} {
			checkFields(t, d, 1, num(n), "Number")
		}
		for _, n := range []int{-1, -2, -limit, limit + 1, limit + 2, 2*limit + 1, limit + 1<<32 + 1, 1 << 62, math.MinInt, math.MaxInt} {
			checkValid(t, d, 1, num(n), false)
		}
	}
}

func TestValuesOfConst(t *testing.T) {
	for _, content := range []string{"00", "01", "504b", "000102030405060708090a0b0c0d0e0f"} {
		d := described(t, "c const "+content)
		checkFields(t, d, 0, impl.Value{}, "")
		b, _ := impl.ParseHex(content)
		checkValid(t, d, 0, impl.Value{Bytes: b}, false)
	}
}

func TestValuesOfFixed(t *testing.T) {
	for _, size := range []int{1, 2, 3, 16, 63, 64} {
		d := described(t, "f fixed "+strconv.Itoa(size))
		checkFields(t, d, 0, zeros(size), "Bytes")
		checkFields(t, d, 0, raw(strings.Repeat("\xff", size)), "Bytes")
		for count := range 70 {
			checkValid(t, d, 0, zeros(count), count == size)
			checkValid(t, d, 0, raw(strings.Repeat("\\", count)), count == size)
		}
		checkValid(t, d, 0, zeros(256+size), false)
		checkValid(t, d, 0, num(size), false)
	}
}

func TestValuesOfSized(t *testing.T) {
	most := []int{255, 400, 400, 400, 400, 400, 400}
	for at, fields := range integerFields() {
		d := described(t, "i integer "+fields, "s sized i", "other integer 1")
		for _, count := range []int{0, 1, 2, 254, 255, 256, 257, 399, 400, 401, 402, 511, 512, 65535, 65536} {
			checkValid(t, d, 1, zeros(count), count <= most[at])
			checkValid(t, d, 1, raw(strings.Repeat("\\", count)), count <= most[at])
		}
		for _, v := range []impl.Value{{}, raw("a"), raw("\x00"), zeros(most[at])} {
			checkFields(t, d, 1, v, "Bytes")
		}
	}
}

// The content has no escapes: its terminators and Escapes count as one byte each.
func TestValuesOfTerminated(t *testing.T) {
	for _, terminator := range []string{"00", "0a", "5b", "ff"} {
		d := described(t, "n integer 1", "t terminated "+terminator)
		b, _ := impl.ParseHex(terminator)
		for _, filler := range []string{string(b), "\\", "a", "\x00", "\xff"} {
			for _, count := range []int{0, 1, 2, 64, 65, 255, 256, 399, 400, 401, 402, 800} {
				checkValid(t, d, 1, raw(strings.Repeat(filler, count)), count <= 400)
			}
			checkFields(t, d, 1, raw(filler+string(b)+"\\"+filler), "Bytes")
			checkFields(t, d, 1, raw(strings.Repeat(filler, 400)), "Bytes")
		}
		checkFields(t, d, 1, impl.Value{}, "Bytes")
	}
}

func TestValuesOfArrays(t *testing.T) {
	for _, fields := range integerFields() {
		d := described(t, "i integer "+fields, "byte integer 1", "c const 07", "two fixed 2", "o option byte", "a array i byte", "ac array i c", "af array i two", "ao array i o", "aa array i a")
		for _, count := range []int{0, 1, 2, 39, 40, 41, 42, 80, 255, 256, 400, 401} {
			checkValid(t, d, 5, times(count, num(255)), count <= 40)
			checkValid(t, d, 6, times(count, impl.Value{}), count <= 40)
			checkValid(t, d, 7, times(count, raw("ab")), count <= 40)
			checkValid(t, d, 8, times(count, parts(num(7))), count <= 40)
			checkValid(t, d, 9, times(count, parts(num(0), num(255))), count <= 40)
			checkValid(t, d, 9, parts(impl.Value{}, times(count, num(1))), count <= 40)
		}
		for _, v := range []impl.Value{{}, parts(num(0)), times(40, num(255))} {
			checkFields(t, d, 5, v, "Items")
		}
		// One item is wrong: whichever it is.
		for _, count := range []int{1, 2, 3, 40} {
			for wrong := range count {
				for _, item := range []impl.Value{num(256), num(-1), raw("a"), parts(num(1))} {
					v := times(count, num(5))
					v.Items[wrong] = item
					checkValid(t, d, 5, v, false)
				}
				v := times(count, raw("ab"))
				v.Items[wrong] = raw("abc")
				checkValid(t, d, 7, v, false)
				v.Items[wrong] = raw("a")
				checkValid(t, d, 7, v, false)
			}
		}
	}
	// The items belong to the second kid: the integer has nothing to do with them.
	d := described(t, "wide integer 2", "narrow integer 1", "a array narrow wide", "b array wide narrow")
	checkValid(t, d, 2, parts(num(65535), num(256)), true)
	checkValid(t, d, 2, parts(num(65536)), false)
	checkValid(t, d, 3, parts(num(255)), true)
	checkValid(t, d, 3, parts(num(255), num(256)), false)
}

func TestValuesOfSequences(t *testing.T) {
	d := described(t, "n integer 1", "c const 504b", "f fixed 2", "o option n", "one sequence a:f", "all sequence a:n b:c c:f d:o", "eight sequence a:n b:n c:n d:n e:n f:n g:n h:f")
	whole := []impl.Value{num(200), {}, raw("xy"), parts(num(1))}
	checkFields(t, d, 5, parts(whole...), "Items")
	checkFields(t, d, 4, parts(raw("ab")), "Items")
	checkValid(t, d, 4, raw("ab"), false)
	checkValid(t, d, 4, impl.Value{}, false)
	checkValid(t, d, 4, parts(raw("ab"), raw("ab")), false)
	for count := range 5 {
		checkValid(t, d, 5, parts(whole[:count]...), count == 4)
		checkValid(t, d, 5, parts(whole[4-count:]...), count == 4)
	}
	for _, more := range []impl.Value{{}, num(1), raw("xy"), parts(num(1))} {
		checkValid(t, d, 5, parts(append(slices.Clone(whole), more)...), false)
		checkValid(t, d, 5, parts(append([]impl.Value{more}, whole...)...), false)
	}
	for a := range 4 {
		for b := range a {
			exchanged := slices.Clone(whole)
			exchanged[a], exchanged[b] = exchanged[b], exchanged[a]
			checkValid(t, d, 5, parts(exchanged...), false)
		}
		for _, wrong := range []impl.Value{num(256), num(-1), raw("x"), raw("xyz"), parts(num(256)), parts(num(1), num(1)), parts(impl.Value{}, impl.Value{})} {
			v := slices.Clone(whole)
			v[a] = wrong
			checkValid(t, d, 5, parts(v...), false)
		}
	}
	v := times(8, num(9))
	checkValid(t, d, 6, v, false)
	v.Items[7] = raw("ab")
	checkValid(t, d, 6, v, true)
	checkValid(t, d, 6, parts(v.Items[:7]...), false)
	checkValid(t, d, 6, parts(append(v.Items, num(9))...), false)
}

func TestValuesOfChoices(t *testing.T) {
	d := described(t, "n integer 1", "w integer 2 little", "c const 504b", "f fixed 2", "k choice n 0:c 1:f 7:n 255:f", "kw choice w 1:n 256:f 258:c 65535:k", "lone choice w 513:c")
	byTag := map[int]impl.Value{0: {}, 1: raw("ab"), 7: num(255), 255: raw("cd")}
	for tag, item := range byTag {
		checkFields(t, d, 4, tagged(tag, item), "Number Items")
		checkValid(t, d, 4, tagged(tag), false)
		checkValid(t, d, 4, tagged(tag, item, item), false)
		checkValid(t, d, 4, tagged(tag, item, impl.Value{}), false)
		checkValid(t, d, 4, tagged(tag, impl.Value{}, item), false)
		for _, other := range []int{-1, 2, 3, 6, 8, 254, 256, 257, 263, 511, tag + 256, tag - 256, tag + 1<<32, ^tag, math.MinInt, math.MaxInt} {
			checkValid(t, d, 4, tagged(other, item), false)
		}
		// The alternatives of other tags belong to these alone, but two tags have the same rule, and what is a const can also be the integer 0.
		for other := range byTag {
			checkValid(t, d, 4, tagged(other, item), other == tag || other+tag == 256 || tag == 0 && other == 7)
		}
	}
	for tag, item := range map[int]impl.Value{1: num(7), 256: raw("ab"), 258: {}, 65535: tagged(7, num(1))} {
		checkFields(t, d, 5, tagged(tag, item), "Number Items")
	}
	for _, v := range []impl.Value{tagged(1, num(256)), tagged(256, raw("abc")), tagged(258, num(1)), tagged(65535, tagged(8, num(1))), tagged(65535, tagged(7, num(-1))), tagged(65535, num(7)), tagged(0, num(7)), tagged(257, raw("ab")), tagged(65536, num(7)), tagged(512, num(7)), {}, num(1), num(258)} {
		checkValid(t, d, 5, v, false)
	}
	// The index of a tag is none.
	for tag := range 600 {
		checkValid(t, d, 6, tagged(tag, impl.Value{}), tag == 513)
	}
}

func TestValuesOfOptionsAndChecked(t *testing.T) {
	d := described(t, "n integer 1", "f fixed 2", "o option n", "oo option o", "of option f", "p checked n", "pp checked p", "po checked of")
	checkFields(t, d, 2, impl.Value{}, "Items")
	checkFields(t, d, 2, parts(num(255)), "Items")
	checkFields(t, d, 5, parts(num(255)), "Items")
	checkValid(t, d, 5, impl.Value{}, false)
	for _, rule := range []int{2, 5} {
		for _, v := range []impl.Value{parts(num(256)), parts(num(-1)), parts(raw("a")), parts(parts(num(1))), parts(num(1), num(1)), parts(num(1), impl.Value{}), times(3, num(0)), tagged(1, num(1)), num(1), raw("\x01")} {
			checkValid(t, d, rule, v, false)
		}
	}
	for rule, list := range map[int][]impl.Value{
		3: {{}, parts(impl.Value{}), parts(parts(num(9)))}, 4: {{}, parts(raw("ab"))}, 6: {parts(parts(num(9)))}, 7: {parts(impl.Value{}), parts(parts(raw("ab")))},
	} {
		for _, v := range list {
			checkFields(t, d, rule, v, "Items")
			checkValid(t, d, rule, parts(append(v.Items, v.Items...)...), len(v.Items) == 0 && rule != 6 && rule != 7)
		}
	}
	for rule, list := range map[int][]impl.Value{
		3: {parts(num(1)), parts(parts(num(256))), parts(parts(num(9), num(9))), parts(parts(parts(num(9))))}, 4: {parts(raw("abc")), raw("ab")},
		6: {{}, parts(impl.Value{}), parts(num(9)), parts(parts(num(256)))}, 7: {{}, parts(raw("ab")), parts(parts(raw("a"))), parts(impl.Value{}, impl.Value{})},
	} {
		for _, v := range list {
			checkValid(t, d, rule, v, false)
		}
	}
}

// levels has rules over many levels, with parts of all kinds that are the first and the last items of others.
func levels(t *testing.T) impl.Description {
	return described(t,
		"byte integer 1", "word integer 2 little", "magic const 504b", "id fixed 3", "text sized word", "line terminated 0a",
		"list array byte text", "kind choice word 5:list 300:line 301:byte", "maybe option kind", "sealed checked maybe", "pair sequence first:id last:sealed",
		"rows array word pair", "turned sequence rows:rows magic:magic", "more option turned", "file checked more",
	)
}

// fullValue is a value of the last rule of levels.
func fullValue() impl.Value {
	list := func(texts ...string) impl.Value {
		v := impl.Value{}
		for _, text := range texts {
			v.Items = append(v.Items, raw(text))
		}
		return parts(parts(tagged(5, v)))
	}
	rows := parts(
		parts(raw("abc"), list("a", "", "bcd")), parts(raw("def"), parts(impl.Value{})),
		parts(raw("ghi"), parts(parts(tagged(300, raw("\\\n\x00"))))), parts(raw("jkl"), parts(parts(tagged(301, num(255))))), parts(raw("mno"), list("x", "y")),
	)
	return parts(parts(parts(rows, impl.Value{})))
}

// plainRules returns, in the order of everyPartOf, the rules of all parts of a value; it is for valid values.
func plainRules(d impl.Description, rule int, v impl.Value) []int {
	list := []int{rule}
	r := d.Rules[rule]
	for at, item := range v.Items {
		kid := r.Kids[0]
		switch r.Kind {
		case impl.KindArray:
			kid = r.Kids[1]
		case impl.KindSequence:
			kid = r.Kids[at]
		case impl.KindChoice:
			for k, tag := range r.Tags {
				if tag == v.Number {
					kid = r.Kids[k+1]
				}
			}
		}
		list = append(list, plainRules(d, kid, item)...)
	}
	return list
}

// faults has changes that make any valid value of the kind invalid.
func faults() map[int][]func(*impl.Value) {
	number := func(n int) func(*impl.Value) { return func(v *impl.Value) { v.Number = n } }
	addBytes := func(count int) func(*impl.Value) {
		return func(v *impl.Value) { v.Bytes = append(slices.Clone(v.Bytes), make([]byte, count)...) }
	}
	addItems := func(count int) func(*impl.Value) {
		return func(v *impl.Value) { v.Items = append(slices.Clone(v.Items), make([]impl.Value, count)...) }
	}
	noBytes, noItems := func(v *impl.Value) { v.Bytes = nil }, func(v *impl.Value) { v.Items = nil }
	return map[int][]func(*impl.Value){
		impl.KindInteger:    {number(-1), number(1 << 32), number(math.MinInt), addBytes(1), addItems(1)},
		impl.KindConst:      {number(1), number(-1), addBytes(1), addBytes(2), addItems(1)},
		impl.KindFixed:      {number(1), number(-1), addBytes(1), addBytes(256), noBytes, addItems(1)},
		impl.KindSized:      {number(1), number(-1), addBytes(401), addItems(1)},
		impl.KindTerminated: {number(1), number(-1), addBytes(401), addItems(1)},
		impl.KindArray:      {number(1), number(-1), addBytes(1), addItems(41)},
		impl.KindSequence:   {number(1), number(-1), addBytes(1), addItems(1), noItems},
		impl.KindChoice:     {number(-1), number(1 << 32), number(1 << 40), addBytes(1), addItems(1), noItems},
		impl.KindOption:     {number(1), number(-1), addBytes(1), addItems(2)},
		impl.KindChecked:    {number(1), number(-1), addBytes(1), addItems(1), noItems},
	}
}

// checkFaults makes each part of a valid value invalid in turn, in all ways: so is then the whole value.
func checkFaults(t *testing.T, d impl.Description, rule int, v impl.Value) {
	t.Helper()
	checkValid(t, d, rule, v, true)
	for at, kid := range plainRules(d, rule, v) {
		for _, fault := range faults()[d.Rules[kid].Kind] {
			w := plainCopy(v, false)
			fault(everyPartOf(&w)[at])
			checkValid(t, d, rule, w, false)
		}
	}
}

func TestPartsThatAreWrong(t *testing.T) {
	d := levels(t)
	checkFaults(t, d, 14, fullValue())
	v := fullValue()
	rows := &v.Items[0].Items[0].Items[0]
	for _, at := range []int{0, len(rows.Items) - 1} {
		texts := rows.Items[at].Items[1].Items[0].Items[0].Items[0].Items
		for _, text := range []int{0, len(texts) - 1} {
			kept := texts[text]
			for length, want := range map[int]bool{0: true, 400: true, 401: false} {
				texts[text] = zeros(length)
				checkValid(t, d, 14, v, want)
			}
			texts[text] = num(1)
			checkValid(t, d, 14, v, false)
			texts[text] = kept
		}
	}
	// A part of the same value is no value of the rules around it.
	for at, part := range everyPartOf(&v) {
		for rule := range d.Rules {
			want := plainValid(d, rule, *part)
			checkValid(t, d, rule, *part, want)
			if at == 0 && want != (rule == 14) {
				t.Errorf("the whole value is a value of the rule %d: %v", rule, want)
			}
		}
	}
}

// plainValid says what the document says about a value, kind by kind.
func plainValid(d impl.Description, rule int, v impl.Value) bool {
	r := d.Rules[rule]
	n, b, i := v.Number, len(v.Bytes), len(v.Items)
	limit := func(index int) int { return int(math.Pow(256, float64(d.Rules[index].Size))) - 1 }
	all := func(kid int) bool {
		return !slices.ContainsFunc(v.Items, func(item impl.Value) bool { return !plainValid(d, kid, item) })
	}
	switch r.Kind {
	case impl.KindInteger:
		return 0 <= n && n <= limit(rule) && b == 0 && i == 0
	case impl.KindConst:
		return n == 0 && b == 0 && i == 0
	case impl.KindFixed:
		return n == 0 && b == r.Size && i == 0
	case impl.KindSized:
		return n == 0 && b <= limit(r.Kids[0]) && b <= 400 && i == 0
	case impl.KindTerminated:
		return n == 0 && b <= 400 && i == 0
	case impl.KindArray:
		return n == 0 && b == 0 && i <= 40 && i <= limit(r.Kids[0]) && all(r.Kids[1])
	case impl.KindSequence:
		if n != 0 || b != 0 || i != len(r.Kids) {
			return false
		}
		for at, kid := range r.Kids {
			if !plainValid(d, kid, v.Items[at]) {
				return false
			}
		}
		return true
	case impl.KindChoice:
		at := slices.Index(r.Tags, n)
		return at >= 0 && b == 0 && i == 1 && all(r.Kids[at+1])
	case impl.KindOption:
		return n == 0 && b == 0 && i <= 1 && all(r.Kids[0])
	}
	return n == 0 && b == 0 && i == 1 && all(r.Kids[0])
}

// leastParts returns for every rule the least number of parts of a value, or, with the first alternatives alone, that of the default value; great numbers are limited.
func leastParts(d impl.Description, first bool) []int {
	list := []int{}
	for _, r := range d.Rules {
		count := 1
		switch r.Kind {
		case impl.KindSequence, impl.KindChecked:
			for _, kid := range r.Kids {
				count += list[kid]
			}
		case impl.KindChoice:
			least := list[r.Kids[1]]
			for _, kid := range r.Kids[2:] {
				if !first {
					least = min(least, list[kid])
				}
			}
			count += least
		}
		list = append(list, min(count, 1000000))
	}
	return list
}

// A valueMaker makes random valid values; where they get large, it goes the shortest way.
type valueMaker struct {
	random *rand.Rand
	d      impl.Description
	least  []int
	made   int
}

func (m *valueMaker) some(limit int, kid int) int {
	if m.made+m.least[kid] > 200 {
		return 0
	}
	return m.random.Intn(limit + 1)
}

func (m *valueMaker) bytes(count int) []byte {
	b := make([]byte, count)
	m.random.Read(b)
	return b
}

func (m *valueMaker) make(rule int) impl.Value {
	m.made++
	r, v := m.d.Rules[rule], impl.Value{}
	switch r.Kind {
	case impl.KindInteger:
		v.Number = m.random.Intn(1 << (8 * r.Size))
		if m.random.Intn(8) == 0 {
			v.Number = 1<<(8*r.Size) - 1
		}
	case impl.KindFixed:
		v.Bytes = m.bytes(r.Size)
	case impl.KindSized, impl.KindTerminated:
		v.Bytes = m.bytes(m.random.Intn(6))
		if m.random.Intn(8) == 0 {
			v.Bytes = m.bytes(255)
		}
	case impl.KindArray:
		for range m.some([]int{3, 40}[m.random.Intn(2)], r.Kids[1]) {
			v.Items = append(v.Items, m.make(r.Kids[1]))
		}
	case impl.KindSequence:
		for _, kid := range r.Kids {
			v.Items = append(v.Items, m.make(kid))
		}
	case impl.KindChoice:
		at := 0
		for other, kid := range r.Kids[1:] {
			if m.least[kid] < m.least[r.Kids[at+1]] || m.some(1, kid) == 1 {
				at = other
			}
		}
		v.Number, v.Items = r.Tags[at], []impl.Value{m.make(r.Kids[at+1])}
	case impl.KindOption:
		for range m.some(1, r.Kids[0]) {
			v.Items = append(v.Items, m.make(r.Kids[0]))
		}
	case impl.KindChecked:
		v.Items = []impl.Value{m.make(r.Kids[0])}
	}
	return v
}

// A made value belongs to a rule of a description.
type made struct {
	d    impl.Description
	rule int
	v    impl.Value
}

// madeValues returns random values of the rules of random descriptions, the same ones at every call.
func madeValues(count int) []made {
	random := rand.New(rand.NewSource(9))
	list := []made{}
	for _, d := range startDescriptions(count) {
		least := leastParts(d, false)
		for rule := range d.Rules {
			if least[rule] < 300 {
				m := valueMaker{random: random, d: d, least: least}
				list = append(list, made{d, rule, m.make(rule)})
			}
		}
	}
	return list
}

// spoil changes one field of one part; the value may still be valid.
func spoil(random *rand.Rand, v *impl.Value) {
	list := everyPartOf(v)
	part, other := list[random.Intn(len(list))], list[random.Intn(len(list))]
	switch random.Intn(9) {
	case 0:
		part.Number = []int{-1, 0, 1, 7, 255, 256, 65535, 65536, 1 << 24, 1 << 32}[random.Intn(10)]
	case 1:
		part.Number += random.Intn(3) - 1
	case 2:
		part.Bytes = append(slices.Clone(part.Bytes), make([]byte, random.Intn(3))...)
	case 3:
		part.Bytes = make([]byte, []int{0, 1, 255, 256, 400, 401}[random.Intn(6)])
	case 4:
		part.Items = append(slices.Clone(part.Items), plainCopy(*other, false))
	case 5:
		part.Items = part.Items[:random.Intn(len(part.Items)+1)]
	case 6:
		part.Items = slices.Repeat(slices.Clone(part.Items), random.Intn(42)%8)
	case 7:
		*part = plainCopy(*other, random.Intn(2) == 0)
	case 8:
		part.Number = other.Number
	}
}

func TestRandomValues(t *testing.T) {
	random := rand.New(rand.NewSource(99))
	byKind, valid, invalid := map[int]int{}, 0, 0
	for _, m := range madeValues(300) {
		if !plainValid(m.d, m.rule, m.v) {
			t.Fatalf("made as a value of %q: %+v", impl.FormatRule(m.d, m.rule), m.v)
		}
		byKind[m.d.Rules[m.rule].Kind]++
		checkValid(t, m.d, m.rule, m.v, true)
		for range 6 {
			w := plainCopy(m.v, false)
			spoil(random, &w)
			want := plainValid(m.d, m.rule, w)
			if got := impl.IsValidValue(m.d, m.rule, w); got != want {
				t.Fatalf("IsValidValue of the rule %d of\n%s\nwith %+v = %v", m.rule, impl.FormatDescription(m.d), w, got)
			}
			if want {
				valid++
			} else {
				invalid++
			}
		}
		// The value is one of other rules only by chance.
		for rule := range m.d.Rules {
			if want := plainValid(m.d, rule, m.v); impl.IsValidValue(m.d, rule, m.v) != want {
				t.Fatalf("IsValidValue of the rule %d of\n%s\nwith %+v = %v", rule, impl.FormatDescription(m.d), m.v, !want)
			}
		}
	}
	for kind := 1; kind <= 10; kind++ {
		if byKind[kind] < 15 {
			t.Errorf("only %d values of the kind %d", byKind[kind], kind)
		}
	}
	if valid < 1000 || invalid < 3000 {
		t.Errorf("%d spoiled values were valid and %d invalid", valid, invalid)
	}
}

func TestFaultsOfRandomValues(t *testing.T) {
	for _, m := range madeValues(30) {
		if len(everyPartOf(&m.v)) < 60 {
			checkFaults(t, m.d, m.rule, m.v)
		}
	}
}

// checkDefault tests a default value; it is equal to the wanted one, and valid.
func checkDefault(t *testing.T, d impl.Description, rule int, want impl.Value) {
	t.Helper()
	got := impl.DefaultValue(d, rule)
	if plainText(got) != plainText(want) {
		t.Fatalf("DefaultValue of %q = %+v, want %+v", impl.FormatRule(d, rule), got, want)
	}
	if !impl.IsValidValue(d, rule, got) || !plainValid(d, rule, got) {
		t.Fatalf("DefaultValue of %q = %+v, which is not valid", impl.FormatRule(d, rule), got)
	}
}

func TestDefaultValues(t *testing.T) {
	d := described(t,
		"byte integer 1", "word integer 2 little", "far integer 4", "magic const 504b", "id fixed 3", "one fixed 1", "wide fixed 64", "text sized word", "line terminated 0a", "list array byte id",
		"kind choice word 5:id 300:byte", "zero choice byte 0:magic 1:id", "last choice far 4294967295:kind", "maybe option id", "sealed checked id", "deep checked last",
		"pair sequence a:id b:byte", "all sequence a:kind b:maybe c:sealed d:pair e:list f:text g:line h:magic", "file checked all", "flag option file", "rows array byte file",
	)
	id := raw("\x00\x00\x00")
	all := parts(tagged(5, id), impl.Value{}, parts(id), parts(id, impl.Value{}), impl.Value{}, impl.Value{}, impl.Value{}, impl.Value{})
	for rule, want := range []impl.Value{
		{}, {}, {}, {}, id, zeros(1), zeros(64), {}, {}, {}, tagged(5, id), tagged(0, impl.Value{}), tagged(4294967295, tagged(5, id)), {}, parts(id), parts(tagged(4294967295, tagged(5, id))),
		parts(id, impl.Value{}), all, parts(all), {}, {},
	} {
		checkDefault(t, d, rule, want)
	}
	kinds := allKinds()
	sixteen := zeros(16)
	for rule, want := range []impl.Value{{}, {}, {}, sixteen, {}, {}, {}, tagged(0, impl.Value{}), {}, parts(impl.Value{}, sixteen, impl.Value{}), parts(parts(impl.Value{}, sixteen, impl.Value{}))} {
		checkDefault(t, kinds, rule, want)
	}
}

func TestDefaultValuesOfFixed(t *testing.T) {
	for size := 1; size <= 64; size++ {
		checkDefault(t, described(t, "f fixed "+strconv.Itoa(size)), 0, zeros(size))
	}
}

// The first alternative is that of the least tag; it may be larger than the others.
func TestDefaultValuesOfChoices(t *testing.T) {
	for _, fields := range integerFields() {
		for tag := range 8 {
			line := "k choice i"
			for more := range 8 {
				line += " " + strconv.Itoa(tag*30+more) + ":" + []string{"s", "c", "f", "i", "k0", "c", "f", "i"}[(tag+more)%8]
			}
			d := described(t, "i integer "+fields, "c const 07", "f fixed 2", "k0 choice i 9:c", "s sequence a:f b:f", line)
			two := zeros(2)
			first := []impl.Value{parts(two, two), {}, two, {}, tagged(9, impl.Value{}), {}, two, {}}[tag]
			checkDefault(t, d, 5, tagged(tag*30, first))
		}
	}
}

// plainPart is a part of a default value as the document says it, but for its items; the rules are those of the items.
func plainPart(d impl.Description, rule int) (impl.Value, []int) {
	r := d.Rules[rule]
	switch r.Kind {
	case impl.KindFixed:
		return zeros(r.Size), nil
	case impl.KindChoice:
		return num(r.Tags[0]), r.Kids[1:2]
	case impl.KindSequence, impl.KindChecked:
		return impl.Value{}, r.Kids
	}
	return impl.Value{}, nil
}

func plainDefault(d impl.Description, rule int) impl.Value {
	v, kids := plainPart(d, rule)
	for _, kid := range kids {
		v.Items = append(v.Items, plainDefault(d, kid))
	}
	return v
}

func TestDefaultValuesOfRandomDescriptions(t *testing.T) {
	count := 0
	for _, d := range append(validDescriptions(), startDescriptions(300)...) {
		counts := leastParts(d, true)
		for rule := range d.Rules {
			if counts[rule] > 3000 {
				continue
			}
			checkDefault(t, d, rule, plainDefault(d, rule))
			if got := impl.CountParts(impl.DefaultValue(d, rule)); got != counts[rule] {
				t.Fatalf("the default value of the rule %d of\n%s\nhas %d parts, want %d", rule, impl.FormatDescription(d), got, counts[rule])
			}
			count++
		}
	}
	if count < 2000 {
		t.Errorf("only %d default values", count)
	}
}

func TestDefaultValuesOverManyLevels(t *testing.T) {
	for line, most := range map[string]int{"checked %": 23, "option %": 23, "choice r0 200:% 201:r0": 23, "sequence a:%": 23, "sequence a:r0 b:%": 23, "sequence a:% b:r0": 23, "array r0 %": 23, "sequence a:% b:%": 14, eightParts: 5} {
		d := described(t, chain("integer 1", line)...)
		for rule := range most + 1 {
			checkDefault(t, d, rule, plainDefault(d, rule))
		}
	}
}

func TestDefaultValuesOfManyParts(t *testing.T) {
	d := described(t, chain("integer 1", eightParts)...)
	if v := impl.DefaultValue(d, 6); impl.CountParts(v) != 299593 || !impl.IsValidValue(d, 6, v) {
		t.Errorf("the default value of the rule 6 has %d parts", impl.CountParts(v))
	}
	d = described(t, chain("fixed 3", "sequence a:% b:%")...)
	if v := impl.DefaultValue(d, 19); impl.CountParts(v) != 1<<20-1 || impl.TotalBytes(v) != 3<<19 || !impl.IsValidValue(d, 19, v) {
		t.Errorf("the default value of the rule 19 has %d parts and %d bytes", impl.CountParts(v), impl.TotalBytes(v))
	}
}

// checkOwnMemory tests that no two slices of a value share memory, on any level.
func checkOwnMemory(t *testing.T, v impl.Value) {
	t.Helper()
	next := 0
	overwriteParts(&v, &next)
	if next = 0; !isOverwritten(&v, &next) {
		t.Errorf("two slices of a value with %d parts share memory", impl.CountParts(v))
	}
}

// The value takes about 2 GB: each of its parts has memory of its own.
func TestDefaultValuesOfVeryManyParts(t *testing.T) {
	d := described(t, append(chain("const 01", eightParts)[:9], "r9 sequence a:r8 b:r8")...)
	v := impl.DefaultValue(d, 9)
	if impl.CountParts(v) != 38347923 || impl.TotalBytes(v) != 0 || !impl.IsValidValue(d, 9, v) {
		t.Fatalf("the default value of the rule 9 has %d items, and %d parts in all", len(v.Items), impl.CountParts(v))
	}
	checkOwnMemory(t, v)
}

// What is written to the items or the bytes of one part changes no other part of the same rule, next to it or on another level.
func TestPartsOfDefaultValuesShareNothing(t *testing.T) {
	d := described(t, "id fixed 3", "byte integer 1", "pair sequence a:id b:id", "four sequence a:pair b:pair c:id", "kind choice byte 5:four 6:id", "sealed checked kind", "all sequence a:id b:pair c:four d:kind e:sealed f:four g:kind h:byte")
	written := []func(v *impl.Value){
		func(v *impl.Value) { v.Items[1].Items[0].Bytes[2] = 7 },
		func(v *impl.Value) { v.Items[2].Items[1].Items[1] = num(5) },
		func(v *impl.Value) { v.Items[3].Items[0].Items[0] = raw("other") },
		func(v *impl.Value) { v.Items[4].Items[0].Items[0].Items[2].Bytes[0]++ },
		func(v *impl.Value) { v.Items[5].Items = v.Items[5].Items[:1] },
	}
	for at, write := range written {
		v := impl.DefaultValue(d, 6)
		want := plainDefault(d, 6)
		write(&v)
		write(&want)
		if plainText(v) != plainText(want) {
			t.Errorf("after the writing %d, the value is %+v, want %+v", at, v, want)
		}
	}
	checkOwnMemory(t, impl.DefaultValue(d, 6))
	// Eight parts of one rule on seven levels, with bytes; one part of each rule on 23 levels; and parts of one rule on several levels.
	for _, c := range []struct {
		first, line string
		rule        int
	}{{"fixed 5", eightParts, 6}, {"fixed 5", "sequence a:% b:%", 17}, {"fixed 64", "sequence a:r0 b:% c:r0", 23}, {"fixed 1", "checked %", 23}, {"integer 1", "choice r0 200:% 201:r0", 23}} {
		d := described(t, chain(c.first, c.line)...)
		checkOwnMemory(t, impl.DefaultValue(d, c.rule))
	}
	lines := []string{"r0 fixed 2", "r1 sequence a:r0 b:r0"}
	for rule := 2; rule <= 14; rule++ {
		last, before := strconv.Itoa(rule-1), strconv.Itoa(rule-2)
		lines = append(lines, "r"+strconv.Itoa(rule)+" sequence a:r"+last+" b:r"+before+" c:r"+last+" d:r0")
	}
	checkOwnMemory(t, impl.DefaultValue(described(t, lines...), 14))
}

// A rule may be described together with others that have more parts than any memory holds.
func TestDefaultValuesBesideVeryLargeOnes(t *testing.T) {
	d := described(t, append(chain("fixed 2", eightParts)[:20], "byte integer 1", "flag option r19", "small choice byte 7:flag 8:r19", "rows array byte r19")...)
	checkDefault(t, d, 0, zeros(2))
	checkDefault(t, d, 1, times(8, zeros(2)))
	checkDefault(t, d, 21, impl.Value{})
	checkDefault(t, d, 22, tagged(7, impl.Value{}))
	checkDefault(t, d, 23, impl.Value{})
}

// checkItemRules tests the items of a value; the wanted rules are those of all its items.
func checkItemRules(t *testing.T, d impl.Description, rule int, v impl.Value, want ...int) {
	t.Helper()
	for item, kid := range want {
		if got := impl.ItemRule(d, rule, v, item); got != kid {
			t.Errorf("ItemRule of %q with %+v at %d = %d, want %d", impl.FormatRule(d, rule), v, item, got, kid)
		}
	}
	for _, item := range append(outsideIndexes(len(want)), numbers(len(want), 50)...) {
		if got := impl.ItemRule(d, rule, v, item); got != -1 {
			t.Errorf("ItemRule of %q with %+v at %d = %d", impl.FormatRule(d, rule), v, item, got)
		}
	}
}

func TestItemRules(t *testing.T) {
	d := described(t,
		"n integer 1", "w integer 2", "c const 504b", "f fixed 2", "s sized w", "t terminated 00", "a array w f", "aa array n a", "q sequence x:f y:n z:a", "k choice w 3:c 4:f 300:a 65535:q",
		"o option k", "oo option o", "p checked q", "one sequence a:p", "eight sequence a:n b:w c:c d:f e:s f:t g:a h:aa",
	)
	for _, count := range []int{0, 1, 2, 39, 40} {
		checkItemRules(t, d, 6, times(count, raw("ab")), slices.Repeat([]int{3}, count)...)
		checkItemRules(t, d, 7, times(count, impl.Value{}), slices.Repeat([]int{6}, count)...)
	}
	checkItemRules(t, d, 8, parts(raw("ab"), num(1), impl.Value{}), 3, 0, 6)
	checkItemRules(t, d, 13, parts(parts(impl.Value{})), 12)
	checkItemRules(t, d, 14, times(8, impl.Value{}), 0, 1, 2, 3, 4, 5, 6, 7)
	for tag, kid := range map[int]int{3: 2, 4: 3, 300: 6, 65535: 8} {
		checkItemRules(t, d, 9, tagged(tag, impl.Value{}), kid)
		checkItemRules(t, d, 9, tagged(tag))
		for _, other := range []int{-1, 0, 1, 2, 5, 44, 255, 256, 299, 301, 65534, 65536, tag + 65536, tag + 1<<32, -tag, math.MinInt, math.MaxInt} {
			checkItemRules(t, d, 9, tagged(other, impl.Value{}))
		}
	}
	checkItemRules(t, d, 10, impl.Value{})
	checkItemRules(t, d, 10, parts(tagged(3, impl.Value{})), 9)
	checkItemRules(t, d, 11, parts(impl.Value{}), 10)
	checkItemRules(t, d, 12, parts(parts(raw("ab"), num(1), impl.Value{})), 8)
	checkItemRules(t, d, 12, impl.Value{})
	for _, leaf := range []int{0, 1, 2, 3, 4, 5} {
		for _, v := range []impl.Value{{}, num(1), raw("ab"), parts(impl.Value{}), times(3, num(1)), tagged(3, impl.Value{})} {
			checkItemRules(t, d, leaf, v)
		}
	}
}

// The other fields of the value, and what its items are, do not matter; an item has to be one of the value and one of the rule.
func TestItemRulesOfInvalidValues(t *testing.T) {
	d := described(t, "n integer 1", "f fixed 2", "q sequence x:f y:n z:f", "a array n f", "k choice n 3:f 4:n", "o option n", "p checked f")
	odd := []impl.Value{num(-1), raw("odd"), tagged(1<<40, num(1)), impl.Value{Number: 4, Bytes: make([]byte, 500), Items: make([]impl.Value, 5)}}
	for count := range 6 {
		for _, number := range []int{0, 3, -1, 1 << 40} {
			v := impl.Value{Number: number, Bytes: []byte("odd")}
			for at := range count {
				v.Items = append(v.Items, odd[at%4])
			}
			checkItemRules(t, d, 2, v, []int{1, 0, 1}[:min(count, 3)]...)
			checkItemRules(t, d, 3, v, []int{1, 1, 1, 1, 1}[:count]...)
			checkItemRules(t, d, 5, v, []int{0}[:min(count, 1)]...)
			checkItemRules(t, d, 6, v, []int{1}[:min(count, 1)]...)
			if number == 3 {
				checkItemRules(t, d, 4, v, []int{1}[:min(count, 1)]...)
			} else {
				checkItemRules(t, d, 4, v)
			}
		}
	}
	checkItemRules(t, d, 3, times(41, num(1)), slices.Repeat([]int{1}, 41)...)
}

// From the rule of the value, ItemRule leads to the rules of all parts.
func TestItemRulesOfRandomValues(t *testing.T) {
	full := []made{{levels(t), 14, fullValue()}}
	for _, m := range append(full, madeValues(100)...) {
		var follow func(rule int, v impl.Value) []int
		follow = func(rule int, v impl.Value) []int {
			list := []int{rule}
			for item := range v.Items {
				kid := impl.ItemRule(m.d, rule, v, item)
				if !impl.IsValidValue(m.d, kid, v.Items[item]) {
					t.Fatalf("ItemRule of %q with %+v at %d = %d", impl.FormatRule(m.d, rule), v, item, kid)
				}
				list = append(list, follow(kid, v.Items[item])...)
			}
			return list
		}
		if got, want := follow(m.rule, m.v), plainRules(m.d, m.rule, m.v); !slices.Equal(got, want) {
			t.Fatalf("the rules of %+v are %v, want %v", m.v, got, want)
		}
	}
}

func checkCounts(t *testing.T, v impl.Value, count int, total int) {
	t.Helper()
	if got := impl.CountParts(v); got != count {
		t.Errorf("CountParts = %d, want %d", got, count)
	}
	if got := impl.TotalBytes(v); got != total {
		t.Errorf("TotalBytes = %d, want %d", got, total)
	}
}

func TestCountPartsAndTotalBytes(t *testing.T) {
	checkCounts(t, impl.Value{}, 1, 0)
	checkCounts(t, num(-5), 1, 0)
	checkCounts(t, num(math.MaxInt), 1, 0)
	checkCounts(t, impl.Value{Bytes: []byte{}, Items: []impl.Value{}}, 1, 0)
	checkCounts(t, raw("abc"), 1, 3)
	checkCounts(t, zeros(1000), 1, 1000)
	checkCounts(t, parts(impl.Value{}), 2, 0)
	checkCounts(t, parts(raw("a"), raw("bc"), raw("def")), 4, 6)
	checkCounts(t, impl.Value{Number: 7, Bytes: []byte("abcd"), Items: []impl.Value{raw("a"), parts(raw("bc"), num(1)), parts(parts(zeros(300)))}}, 8, 307)
	checkCounts(t, parts(parts(parts(raw("a"))), parts(parts(raw("b"))), raw("c")), 8, 3)
	checkCounts(t, fullValue(), 38, 24)
	for _, count := range []int{0, 1, 2, 40, 41, 1000, 100000} {
		checkCounts(t, times(count, impl.Value{}), count+1, 0)
		checkCounts(t, times(count, raw("ab")), count+1, 2*count)
		checkCounts(t, times(count, parts(raw("ab"), num(1))), 3*count+1, 2*count)
	}
	// Every level has the same items twice: they count twice.
	v := raw("abc")
	for level := range 17 {
		checkCounts(t, v, 1<<(level+1)-1, 3<<level)
		v = parts(v, v)
	}
}

// nested returns a value with this many levels and three bytes on each; the last one has the content.
func nested(levels int, last impl.Value) impl.Value {
	v := last
	for range levels - 1 {
		v = impl.Value{Number: 1, Bytes: []byte("abc"), Items: []impl.Value{v}}
	}
	return v
}

// A value may have more levels than any description has rules.
func TestValuesWithManyLevels(t *testing.T) {
	for _, count := range []int{1, 2, 3, 24, 25, 400, 100000, 300000} {
		v := nested(count, raw("x"))
		checkCounts(t, v, count, 3*count-2)
		c := impl.CopyValue(v)
		if !impl.EqualValues(v, c) || !impl.EqualValues(c, v) {
			t.Errorf("the copy of a value with %d levels is another one", count)
		}
		for _, other := range []impl.Value{nested(count, raw("y")), nested(count, raw("xy")), nested(count, impl.Value{}), nested(count, impl.Value{Number: 1, Bytes: []byte("x")}), nested(count+1, raw("x")), nested(count, impl.Value{Bytes: []byte("x"), Items: make([]impl.Value, 1)})} {
			if impl.EqualValues(v, other) || impl.EqualValues(other, v) {
				t.Errorf("values with %d levels are equal, although they differ in the last one", count)
			}
		}
		if d := allKinds(); impl.IsValidValue(d, 10, v) || impl.ItemRule(d, 10, v, 0) != map[bool]int{true: 9, false: -1}[count > 1] {
			t.Errorf("a value with %d levels is valid, or its item has no rule", count)
		}
	}
}

// checkEqual tests both orders.
func checkEqual(t *testing.T, a impl.Value, b impl.Value, want bool) {
	t.Helper()
	if impl.EqualValues(a, b) != want || impl.EqualValues(b, a) != want {
		t.Errorf("EqualValues of %+v and %+v = %v and %v", a, b, impl.EqualValues(a, b), impl.EqualValues(b, a))
	}
}

// valuesToCompare holds different values, valid and invalid ones.
func valuesToCompare() []impl.Value {
	list := []impl.Value{
		{}, num(1), num(-1), num(256), num(1 << 32), num(1<<32 + 1), num(math.MinInt), num(math.MaxInt), raw("a"), raw("b"), raw("aa"), raw("ab"), raw("ba"), raw("\x00"), raw("\x00\x00"), zeros(400), zeros(401),
		parts(impl.Value{}), parts(impl.Value{}, impl.Value{}), times(40, impl.Value{}), times(41, impl.Value{}), parts(num(1)), parts(num(2)), parts(raw("a")), parts(raw("b")), parts(raw("a"), raw("b")), parts(raw("b"), raw("a")),
		parts(raw("ab"), impl.Value{}), parts(impl.Value{}, raw("ab")), tagged(1, raw("a")), tagged(1, num(1)), tagged(2, num(1)), {Number: 1, Bytes: []byte("a")}, {Bytes: []byte("a"), Items: []impl.Value{{}}}, {Number: 1, Bytes: []byte("a"), Items: []impl.Value{{}}},
		parts(parts(impl.Value{})), parts(parts(impl.Value{}), impl.Value{}), parts(impl.Value{}, parts(impl.Value{})), parts(parts(impl.Value{}, impl.Value{})), parts(parts(parts(impl.Value{}))), parts(parts(parts(num(1)))), parts(parts(parts(raw("a")))), fullValue(),
	}
	return list
}

func TestEqualValues(t *testing.T) {
	list := valuesToCompare()
	for i, a := range list {
		for k, b := range list {
			checkEqual(t, a, b, i == k)
			checkEqual(t, plainCopy(a, true), plainCopy(b, false), i == k)
			checkEqual(t, parts(num(7), a), parts(num(7), b), i == k)
			checkEqual(t, parts(a, num(7)), parts(b, num(7)), i == k)
			checkEqual(t, parts(parts(parts(raw("x"), a))), parts(parts(parts(raw("x"), b))), i == k)
			checkEqual(t, parts(a, b), parts(b, a), i == k)
		}
	}
}

// Wherever a value is changed, it is then another one.
func TestValuesThatDifferInOnePart(t *testing.T) {
	changes := []func(*impl.Value){
		func(v *impl.Value) { v.Number++ }, func(v *impl.Value) { v.Number = -v.Number - 1 }, func(v *impl.Value) { v.Number += 1 << 32 }, func(v *impl.Value) { v.Number ^= math.MinInt },
		func(v *impl.Value) { v.Bytes = append(slices.Clone(v.Bytes), 0) }, func(v *impl.Value) { v.Bytes = append([]byte{7}, v.Bytes...) }, func(v *impl.Value) { v.Bytes = append(v.Bytes, make([]byte, 256)...) },
		func(v *impl.Value) { v.Items = append(slices.Clone(v.Items), impl.Value{}) }, func(v *impl.Value) { v.Items = append([]impl.Value{num(3)}, v.Items...) }, func(v *impl.Value) { v.Items = append(slices.Clone(v.Items), v.Items...); v.Number++ },
	}
	values := valuesToCompare()
	for _, m := range madeValues(10) {
		values = append(values, m.v)
	}
	for _, v := range values {
		count := len(everyPartOf(&v))
		for at := range count {
			if at > 20 && at < count-20 {
				continue
			}
			for _, change := range changes {
				w := plainCopy(v, false)
				change(everyPartOf(&w)[at])
				checkEqual(t, v, w, false)
			}
			checkChangedWithin(t, v, at)
		}
	}
}

// checkChangedWithin changes the first and the last byte of a part and removes its last byte and its last item.
func checkChangedWithin(t *testing.T, v impl.Value, at int) {
	t.Helper()
	w := plainCopy(v, false)
	part := everyPartOf(&w)[at]
	if last := len(part.Bytes) - 1; last >= 0 {
		for _, b := range []int{0, last} {
			part.Bytes[b] ^= 0x80
			checkEqual(t, v, w, false)
			part.Bytes[b] ^= 0x80
		}
		checkEqual(t, v, w, true)
		part.Bytes = part.Bytes[:last]
		checkEqual(t, v, w, false)
		part.Bytes = part.Bytes[:last+1]
	}
	if last := len(part.Items) - 1; last >= 0 {
		part.Items = part.Items[:last]
		checkEqual(t, v, w, false)
		part.Items = part.Items[:last+1]
	}
	checkEqual(t, v, w, true)
}

// In a guarded value, all slices of all parts lie in larger arrays.
type guardedValue struct {
	v      impl.Value
	bytes  [][]byte
	items  [][]impl.Value
	before []string
}

func guardValue(v impl.Value) *guardedValue {
	g := &guardedValue{}
	g.v = g.lay(v)
	g.before = g.texts()
	return g
}

func (g *guardedValue) lay(v impl.Value) impl.Value {
	content, byteArray := inside(v.Bytes, 0xee)
	g.bytes = append(g.bytes, byteArray)
	items := slices.Clone(v.Items)
	for at, item := range items {
		items[at] = g.lay(item)
	}
	laid, itemArray := inside(items, impl.Value{Number: 77, Bytes: []byte("spare"), Items: make([]impl.Value, 2)})
	g.items = append(g.items, itemArray)
	return impl.Value{Number: v.Number, Bytes: content, Items: laid}
}

func (g *guardedValue) texts() []string {
	list := []string{}
	for _, b := range g.bytes {
		list = append(list, string(b))
	}
	for _, items := range g.items {
		list = append(list, plainText(impl.Value{Items: items}))
	}
	return list
}

func (g *guardedValue) check(t *testing.T, name string) {
	t.Helper()
	if !slices.Equal(g.texts(), g.before) {
		t.Fatalf("%s changed an argument: %+v", name, g.v)
	}
}

// overwriteAll writes to the arrays of a guarded value.
func (g *guardedValue) overwriteAll() {
	for _, b := range g.bytes {
		for at := range b {
			b[at] ^= 0x55
		}
	}
	for _, items := range g.items {
		for at := range items {
			items[at] = impl.Value{Number: -at - 1000, Bytes: []byte("overwritten")}
		}
	}
}

// overwriteParts writes to all memory that a value reaches, another number at every place.
func overwriteParts(v *impl.Value, next *int) {
	*next++
	v.Number = *next
	content := v.Bytes[:cap(v.Bytes)]
	for at := range content {
		*next++
		content[at] = byte(*next)
	}
	items := v.Items[:cap(v.Items)]
	for at := range items {
		overwriteParts(&items[at], next)
	}
}

// isOverwritten reports whether the value is as overwriteParts left it: if two of its slices shared memory, it is not.
func isOverwritten(v *impl.Value, next *int) bool {
	*next++
	same := v.Number == *next
	for _, b := range v.Bytes[:cap(v.Bytes)] {
		*next++
		same = same && b == byte(*next)
	}
	items := v.Items[:cap(v.Items)]
	for at := range items {
		same = isOverwritten(&items[at], next) && same
	}
	return same
}

// checkNewValue overwrites a result: neither another result nor the arguments change, and the other way round.
func checkNewValue(t *testing.T, name string, make func() impl.Value, checkArguments func(), overwriteArguments func()) {
	t.Helper()
	first, second := make(), make()
	want := plainText(second)
	if plainText(first) != want {
		t.Fatalf("two results of %s differ: %+v and %+v", name, first, second)
	}
	const start = 1000
	next := start
	overwriteParts(&first, &next)
	if next = start; !isOverwritten(&first, &next) {
		t.Fatalf("two slices of one result of %s share memory", name)
	}
	checkArguments()
	if plainText(second) != want || plainText(make()) != want {
		t.Fatalf("writing to a result of %s changed another one: %+v", name, second)
	}
	overwriteArguments()
	if next = start; plainText(second) != want || !isOverwritten(&first, &next) {
		t.Fatalf("writing to the arguments of %s changed a result: %+v", name, second)
	}
}

func TestCopiesOfValues(t *testing.T) {
	values := append(valuesToCompare(), impl.Value{Bytes: []byte{}, Items: []impl.Value{}}, impl.Value{Bytes: []byte("abc")[:0], Items: make([]impl.Value, 0, 5)})
	for _, m := range madeValues(60) {
		values = append(values, m.v)
	}
	for _, v := range values {
		for _, w := range []impl.Value{plainCopy(v, false), plainCopy(v, true)} {
			if c := impl.CopyValue(w); plainText(c) != plainText(v) || !impl.EqualValues(c, v) || !impl.EqualValues(v, c) {
				t.Fatalf("the copy of %+v is %+v", w, c)
			}
			g := guardValue(w)
			checkNewValue(t, "CopyValue", func() impl.Value { return impl.CopyValue(g.v) }, func() { g.check(t, "writing to a copy") }, g.overwriteAll)
		}
	}
}

// Each part of the copy alone is changed, and then each part of what was copied.
func TestCopiesPartByPart(t *testing.T) {
	v := fullValue()
	want := plainText(v)
	writes := []func(*impl.Value){
		func(v *impl.Value) { v.Number += 9 },
		func(v *impl.Value) {
			for at := range v.Bytes {
				v.Bytes[at]++
			}
		},
		func(v *impl.Value) {
			for at := range v.Items {
				v.Items[at] = impl.Value{Number: 99, Bytes: []byte("other")}
			}
		},
	}
	for at := range everyPartOf(&v) {
		for _, write := range writes {
			c := impl.CopyValue(v)
			write(everyPartOf(&c)[at])
			if plainText(v) != want {
				t.Fatalf("writing to the part %d of the copy changed what was copied: %+v", at, v)
			}
			original := plainCopy(v, false)
			c = impl.CopyValue(original)
			write(everyPartOf(&original)[at])
			if plainText(c) != want {
				t.Fatalf("writing to the part %d of what was copied changed the copy: %+v", at, c)
			}
		}
	}
}

// What is copied may itself hold one slice in several places; its copy does not.
func TestCopiesOfSharedValues(t *testing.T) {
	shared := impl.Value{Number: 1, Bytes: []byte("abcdef"), Items: []impl.Value{raw("gh"), parts(num(1), raw("i"))}}
	v := impl.Value{Bytes: shared.Bytes[:3], Items: []impl.Value{shared, shared, parts(shared, shared), {Items: shared.Items}, {Items: shared.Items[:1]}, {Bytes: shared.Bytes[2:]}}}
	kept := plainText(v)
	c := impl.CopyValue(v)
	if plainText(c) != kept || !impl.EqualValues(c, v) {
		t.Fatalf("the copy of %+v is %+v", v, c)
	}
	next := 0
	overwriteParts(&c, &next)
	if next = 0; !isOverwritten(&c, &next) || plainText(v) != kept {
		t.Errorf("slices of the copy share memory, or writing to it changed what was copied: %+v", v)
	}
}

func TestDefaultValuesAreNewMemory(t *testing.T) {
	for _, d := range append(descriptionsToGuard(), levels(t)) {
		counts := []int{}
		if impl.IsValidDescription(d) {
			counts = leastParts(d, true)
		}
		for rule := -1; rule <= min(len(d.Rules), 30); rule++ {
			if 0 <= rule && rule < len(counts) && counts[rule] > 1000 {
				continue
			}
			g := guardDescription(d)
			checkNewValue(t, "DefaultValue", func() impl.Value { return impl.DefaultValue(g.d, rule) }, func() { g.check(t, "DefaultValue") }, func() {
				overwrite(g.arrays)
				overwrite(g.list)
			})
		}
	}
}

// eachMissingRule calls check with rules that valid descriptions do not have.
func eachMissingRule(check func(d impl.Description, rule int)) {
	for _, d := range append(validDescriptions(), startDescriptions(50)...) {
		for _, rule := range outsideIndexes(len(d.Rules)) {
			check(d, rule)
		}
	}
	// Rules in the spare capacity, and those that were cut off, are none.
	whole := allKinds().Rules
	for count := range whole {
		for rule := count; rule < len(whole); rule++ {
			check(impl.Description{Rules: whole[:count]}, rule)
		}
	}
}

// eachInvalidRule calls check with rules of invalid descriptions, those that do not exist among them.
func eachInvalidRule(check func(d impl.Description, rule int)) {
	for _, d := range invalidDescriptions() {
		for _, rule := range append(outsideIndexes(len(d.Rules)), numbers(0, min(len(d.Rules), 30)+1)...) {
			check(d, rule)
		}
	}
}

// someValues returns values, each of which belongs to a rule of allKinds or to none.
func someValues() []impl.Value {
	return []impl.Value{{}, num(1), raw("a"), zeros(16), parts(impl.Value{}), tagged(7, impl.Value{}), parts(impl.Value{}, zeros(16), impl.Value{}), parts(parts(impl.Value{}, zeros(16), impl.Value{}))}
}

// checkNoValue tests everything about a rule that does not exist, or one of an invalid description.
func checkNoValue(t *testing.T, d impl.Description, rule int) {
	t.Helper()
	if got := impl.DefaultValue(d, rule); plainText(got) != plainText(impl.Value{}) {
		t.Errorf("DefaultValue of the rule %d of %+v = %+v", rule, d, got)
	}
	for _, v := range someValues() {
		if impl.IsValidValue(d, rule, v) {
			t.Errorf("%+v is a value of the rule %d of %+v", v, rule, d)
		}
		for _, item := range []int{math.MinInt, -1, 0, 1, 2, 3, math.MaxInt} {
			if got := impl.ItemRule(d, rule, v, item); got != -1 {
				t.Errorf("ItemRule of the rule %d of %+v with %+v at %d = %d", rule, d, v, item, got)
			}
		}
	}
}

func TestValuesOutside(t *testing.T) {
	eachMissingRule(func(d impl.Description, rule int) { checkNoValue(t, d, rule) })
}

func TestValuesOfInvalidDescriptions(t *testing.T) {
	eachInvalidRule(func(d impl.Description, rule int) { checkNoValue(t, d, rule) })
	for _, broken := range brokenBehind() {
		d := impl.Description{Rules: broken.Rules[:11]}
		checkValid(t, d, 9, parts(impl.Value{}, zeros(16), impl.Value{}), true)
		checkItemRules(t, d, 9, parts(impl.Value{}, zeros(16), impl.Value{}), 2, 3, 8)
		checkDefault(t, d, 9, parts(impl.Value{}, zeros(16), impl.Value{}))
	}
}

func TestValuesAreNotModified(t *testing.T) {
	full := []made{{levels(t), 14, fullValue()}}
	for _, m := range append(full, madeValues(60)...) {
		d, x, y := guardDescription(m.d), guardValue(m.v), guardValue(m.v)
		for rule := -1; rule <= len(m.d.Rules); rule++ {
			if got, want := impl.IsValidValue(d.d, rule, x.v), impl.IsValidValue(m.d, rule, m.v); got != want {
				t.Errorf("with spare capacity, IsValidValue of the rule %d with %+v = %v", rule, m.v, got)
			}
			for item := -1; item <= len(m.v.Items)+3; item++ {
				if got, want := impl.ItemRule(d.d, rule, x.v, item), impl.ItemRule(m.d, rule, m.v, item); got != want {
					t.Errorf("with spare capacity, ItemRule of the rule %d with %+v at %d = %d, want %d", rule, m.v, item, got, want)
				}
			}
		}
		checkCounts(t, x.v, len(everyPartOf(&m.v)), impl.TotalBytes(m.v))
		checkEqual(t, x.v, y.v, true)
		impl.CopyValue(x.v)
		d.check(t, "a function of chapter 9")
		x.check(t, "a function of chapter 9")
		y.check(t, "EqualValues")
	}
	for _, a := range valuesToCompare() {
		for _, b := range valuesToCompare() {
			x, y := guardValue(a), guardValue(b)
			checkEqual(t, x.v, y.v, plainText(a) == plainText(b))
			x.check(t, "EqualValues")
			y.check(t, "EqualValues")
		}
	}
}

// Values follow from the description as it is now, not from an earlier call.
func TestValuesFollowTheDescription(t *testing.T) {
	d := described(t, "n integer 1", "f fixed 2", "k choice n 3:f 4:n", "q sequence a:k b:f", "o option q")
	two := zeros(2)
	v := parts(parts(tagged(3, two), two))
	for range 2 {
		checkValid(t, d, 4, v, true)
		checkDefault(t, d, 3, parts(tagged(3, two), two))
		checkItemRules(t, d, 2, tagged(3, two), 1)
	}
	d.Rules[2].Tags[0] = 2
	checkValid(t, d, 4, v, false)
	checkItemRules(t, d, 2, tagged(3, two))
	checkDefault(t, d, 3, parts(tagged(2, two), two))
	d.Rules[2].Kids[1] = 0
	checkDefault(t, d, 3, parts(tagged(2, impl.Value{}), two))
	d.Rules[1].Size = 3
	checkDefault(t, d, 3, parts(tagged(2, impl.Value{}), zeros(3)))
	d.Rules[4].Kind = impl.KindChecked
	checkDefault(t, d, 4, parts(parts(tagged(2, impl.Value{}), zeros(3))))
	d.Rules[1].Size = 65
	checkNoValue(t, d, 4)
	checkNoValue(t, d, 0)
}
