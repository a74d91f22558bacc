package tests

import (
	"math"
	"math/rand"
	"regexp"
	"slices"
	"strconv"
	"strings"
	"testing"

	"loop.example/g00518/impl"
)

func isZero(v impl.Value) bool { return plainText(v) == plainText(impl.Value{}) }

// checkText tests that the value is written as this text, and the text read as this value.
func checkText(t *testing.T, d impl.Description, rule int, v impl.Value, text string) {
	t.Helper()
	for _, w := range []impl.Value{v, plainCopy(v, false), plainCopy(v, true)} {
		if got := impl.FormatValue(d, rule, w); got != text {
			t.Fatalf("FormatValue of %q with %+v = %q, want %q", impl.FormatRule(d, rule), w, got, text)
		}
	}
	got, ok := impl.ParseValue(d, rule, text)
	if !ok || plainText(got) != plainText(v) || !impl.EqualValues(got, v) {
		t.Fatalf("ParseValue of %q with %q = %+v, %v, want %+v", impl.FormatRule(d, rule), text, got, ok, v)
	}
	if d.Rules[rule].Kind != impl.KindSequence {
		checkLines(t, d, rule, v, text)
	}
}

func checkLines(t *testing.T, d impl.Description, rule int, v impl.Value, want ...string) {
	t.Helper()
	for _, w := range []impl.Value{v, plainCopy(v, false), plainCopy(v, true)} {
		if got := impl.ValueLines(d, rule, w); !slices.Equal(got, want) {
			t.Fatalf("ValueLines of %q with %+v = %q, want %q", impl.FormatRule(d, rule), w, got, want)
		}
	}
}

// checkNoText tests texts that are not those of a value of the rule.
func checkNoText(t *testing.T, d impl.Description, rule int, texts ...string) {
	t.Helper()
	for _, text := range texts {
		if got, ok := impl.ParseValue(d, rule, text); ok || !isZero(got) {
			t.Errorf("ParseValue of %q with %q = %+v, %v", impl.FormatRule(d, rule), text, got, ok)
		}
	}
}

// checkUnwritten tests a value that is not written.
func checkUnwritten(t *testing.T, d impl.Description, rule int, v impl.Value) {
	t.Helper()
	if got := impl.FormatValue(d, rule, v); got != "" {
		t.Errorf("FormatValue of the rule %d with %+v = %q", rule, v, got)
	}
	if got := impl.ValueLines(d, rule, v); len(got) != 0 {
		t.Errorf("ValueLines of the rule %d with %+v = %q", rule, v, got)
	}
}

func TestTextsOfTheExample(t *testing.T) {
	d := described(t, "byte integer 1", "maybe option byte", "list array byte byte", "kind choice byte 1:byte 2:list", "all sequence x:byte y:maybe z:kind")
	checkText(t, d, 4, parts(num(7), impl.Value{}, tagged(2, parts(num(1), num(2)))), "{x:7,y:-,z:2<[1,2]>}")
}

func TestTextsOfIntegers(t *testing.T) {
	texts := [][]string{{"0", "255", "256"}, {"0", "65535", "65536"}, {"0", "16777215", "16777216"}, {"0", "4294967295", "4294967296"}, {"0", "65535", "65536"}, {"0", "16777215", "16777216"}, {"0", "4294967295", "4294967296"}}
	for at, fields := range integerFields() {
		d := described(t, "i integer "+fields)
		limit, _ := strconv.Atoi(texts[at][1])
		checkText(t, d, 0, num(0), texts[at][0])
		checkText(t, d, 0, num(limit), texts[at][1])
		for _, n := range []int{1, 2, 9, 10, 19, 90, 99, 100, 101, 199, 200, 250, limit / 2, limit - 1} {
			checkText(t, d, 0, num(n), strconv.Itoa(n))
		}
		for _, n := range []int{-1, -limit, limit + 1, limit + 2, 2*limit + 1, limit + 1 + 1<<32, math.MinInt, math.MaxInt} {
			checkNoText(t, d, 0, strconv.Itoa(n))
			checkUnwritten(t, d, 0, num(n))
		}
		checkNoText(t, d, 0, texts[at][2], texts[at][1]+"0", "1"+texts[at][1], "0"+texts[at][1], "+"+texts[at][1], "-"+texts[at][1], texts[at][1]+".")
	}
}

// Each of these is a text of an integer but for one byte or more.
func wrongNumbers() []string {
	return []string{
		"", "00", "000", "01", "07", "010", "0000000000", "0000000001", "00000000001", "0000000000000000000007", "-0", "-1", "-7", "+0", "+1", "+7", "--7", "1-", "7-",
		" 7", "7 ", "7\n", "\t7", "7\x00", "\x007", "7 7", "7,7", "7_7", "7.0", "7e0", "1e1", "0x7", "0b1", "0o7", "x7", "7x", "a", "f", "7a", "a7", "!", "-", "?7", "(7)", "[7]", "<7>", "{7}", "{a:7}", "7<7>", "7,", ",7", "7]", "7}", "7)", "7>",
		"12345678901", "10000000000", "00000000007", "42949672950", "4294967296", "9999999999", "99999999999", "18446744073709551623", "18446744073709551616", "340282366920938463463374607431768211463", strings.Repeat("7", 400), strings.Repeat("0", 400), "\u0663", "\uff17", "7\u0663", "\u00b7", "\xb7", "7\xff",
	}
}

func TestTextsThatAreNoIntegers(t *testing.T) {
	for _, fields := range integerFields() {
		d := described(t, "i integer "+fields, "q sequence a:i b:i", "a array i i", "k choice i 7:i", "o option i", "p checked i")
		checkText(t, d, 1, parts(num(7), num(7)), "{a:7,b:7}")
		checkText(t, d, 2, parts(num(7), num(7)), "[7,7]")
		checkText(t, d, 3, tagged(7, num(7)), "7<7>")
		checkText(t, d, 4, parts(num(7)), "?7")
		checkText(t, d, 5, parts(num(7)), "(7)")
		for _, wrong := range wrongNumbers() {
			checkNoText(t, d, 0, wrong)
			checkNoText(t, d, 1, "{a:"+wrong+",b:7}", "{a:7,b:"+wrong+"}")
			checkNoText(t, d, 3, wrong+"<7>", "7<"+wrong+">")
			checkNoText(t, d, 4, "?"+wrong)
			checkNoText(t, d, 5, "("+wrong+")")
			if wrong != "7,7" && wrong != "" {
				checkNoText(t, d, 2, "["+wrong+"]")
			}
			if wrong != "7,7" {
				checkNoText(t, d, 2, "["+wrong+",7]", "[7,"+wrong+"]", "[7,"+wrong+",7]")
			}
		}
	}
}

func TestTextsOfConst(t *testing.T) {
	for _, content := range []string{"00", "504b", "21", "000102030405060708090a0b0c0d0e0f"} {
		d := described(t, "c const "+content)
		checkText(t, d, 0, impl.Value{}, "!")
		checkNoText(t, d, 0, "", "!!", "! ", " !", "!\n", "!\x00", "x", content, "x"+content, "!"+content, "!x", "0", "-", "?", "[]", "(!)", "?!", "[!]", "\u01c3", "\uff01", "\x00", "\xa1")
		checkUnwritten(t, d, 0, num(1))
		checkUnwritten(t, d, 0, raw("P"))
		checkUnwritten(t, d, 0, parts(impl.Value{}))
	}
}

// digitsOf writes bytes with one digit after the other, the digits being found by hand.
func digitsOf(b string) string {
	text := ""
	for at := range len(b) {
		text += "0123456789abcdef"[b[at]>>4:][:1] + "0123456789abcdef"[b[at]&15:][:1]
	}
	return text
}

// contentsOfBytes has contents with what is special elsewhere: signs, Escapes, terminators.
func contentsOfBytes() []string {
	list := []string{"a", "\x00", "\xff", "\\", "\n", "ab", "\x00\x00", "\\\\", "\x0f\xf0", "},]", "{a:7}", "x6162", "\u00e4\u2028", "\xc3\x28"}
	return append(list, string(everyByte()[:64]), string(everyByte()[64:128]), string(everyByte()[128:192]), string(everyByte()[192:]))
}

func TestTextsOfBytes(t *testing.T) {
	for _, content := range contentsOfBytes() {
		d := described(t, "byte integer 1", "word integer 2 little", "f fixed "+strconv.Itoa(len(content)), "s sized byte", "w sized word", "t terminated 00", "u terminated 61")
		for rule := 2; rule <= 6; rule++ {
			checkText(t, d, rule, raw(content), "x"+digitsOf(content))
			if rule > 2 {
				checkText(t, d, rule, impl.Value{}, "x")
			} else {
				checkNoText(t, d, rule, "x", "x"+digitsOf(content+content), "x"+digitsOf(content+"a"), "x"+digitsOf(content[1:]))
				checkUnwritten(t, d, rule, impl.Value{})
				checkUnwritten(t, d, rule, raw(content+"a"))
			}
			text := digitsOf(content)
			checkNoText(t, d, rule, "", text, "x"+text+"0", "x0"+text, "x"+text[1:], "x"+text[:len(text)-1], "X"+text, "xx"+text, "x"+text+"x", "x "+text, "x"+text+" ", " x"+text, "x"+text+"\n", "x"+text+"g", "x"+text+"0g", "xg0"+text, "!"+text, "0x"+text, "x"+text+",", "x"+text+"}", "[x"+text+"]", "(x"+text+")", "x"+text+"x"+text, "x-"+text, "x:"+text)
			checkUnwritten(t, d, rule, impl.Value{Number: 1, Bytes: []byte(content)})
			checkUnwritten(t, d, rule, impl.Value{Bytes: []byte(content), Items: make([]impl.Value, 1)})
		}
	}
	d := described(t, "byte integer 1", "f fixed 2", "s sized byte", "t terminated 00")
	for rule := 1; rule <= 3; rule++ {
		checkText(t, d, rule, raw("\xab\xcd"), "xabcd")
		checkText(t, d, rule, raw("\x09\xef"), "x09ef")
		checkNoText(t, d, rule, "xABCD", "xAbcd", "xaBcd", "xabCd", "xabcD", "x09EF", "x09eF", "xabc", "xabcde", "xabcg", "xab`d", "xab/d", "xab:d", "xab@d", "xa\xe2cd", "xab\uff11", "xab cd", "xab,cd", "xab\x00cd")
	}
}

func TestTextsOfBytesAtTheirLimits(t *testing.T) {
	for at, fields := range integerFields() {
		d := described(t, "i integer "+fields, "s sized i", "t terminated 0a", "f fixed 64")
		most := []int{255, 400, 400, 400, 400, 400, 400}[at]
		for _, count := range []int{0, 1, 2, 63, 64, 65, 254, 255, 256, 257, 399, 400, 401, 402, 800, 70000} {
			v, text := raw(strings.Repeat("\x5c", count)), "x"+strings.Repeat("5c", count)
			for kind, fits := range []bool{count <= most, count <= 400, count == 64} {
				if fits {
					checkText(t, d, kind+1, v, text)
				} else {
					checkNoText(t, d, kind+1, text)
					checkUnwritten(t, d, kind+1, v)
				}
			}
		}
	}
}

func TestTextsOfArrays(t *testing.T) {
	d := described(t, "byte integer 1", "word integer 2", "c const 07", "f fixed 1", "o option byte", "a array byte word", "ac array word c", "af array byte f", "ao array byte o", "aa array byte a", "as array byte aa")
	checkText(t, d, 5, impl.Value{}, "[]")
	checkText(t, d, 5, parts(num(0)), "[0]")
	checkText(t, d, 5, parts(num(65535)), "[65535]")
	checkText(t, d, 5, parts(num(1), num(20), num(300)), "[1,20,300]")
	checkText(t, d, 6, parts(impl.Value{}), "[!]")
	checkText(t, d, 6, parts(impl.Value{}, impl.Value{}), "[!,!]")
	checkText(t, d, 7, parts(raw("a"), raw("\x00")), "[x61,x00]")
	checkText(t, d, 8, parts(impl.Value{}, parts(num(5)), impl.Value{}), "[-,?5,-]")
	checkText(t, d, 9, parts(impl.Value{}), "[[]]")
	checkText(t, d, 9, parts(parts(num(1)), impl.Value{}, parts(num(2), num(3))), "[[1],[],[2,3]]")
	checkText(t, d, 10, parts(impl.Value{}, parts(impl.Value{}), parts(parts(num(4)))), "[[],[[]],[[4]]]")
	checkNoText(t, d, 5, "", "[", "]", "[[]", "[]]", "][", "[,]", "[1", "1]", "1", "1,2", "[1,]", "[,1]", "[1,,2]", "[1,2,]", "[1;2]", "[1 2]", "[1, 2]", "[1 ,2]", "[ 1]", "[1 ]", " [1]", "[1] ", "[1][2]", "[1]1", "[1],[2]", "[[1]]", "{1}", "(1)", "<1>", "[1}", "{1]", "[1>", "[1)", "[65536]", "[1,65536]", "[01]", "[1,00]", "[1.2]", "[:1]", "[1:2]", "[a:1]", "[!]", "[x]", "[-]", "[?1]", "[1]\x00", "[\x00]", "[1,2")
	checkNoText(t, d, 6, "[!!]", "[!,]", "[,!]", "[!", "!", "!]", "[!,!", "[!,,!]", "[!,!]!", "[1]", "[]!")
	checkNoText(t, d, 7, "[x]", "[x6161]", "[x61x61]", "[x61,61]", "[x61,x6]", "[x61,x]", "[x,x61]", "[x61,x61,x616]", "[x61,X61]")
	checkNoText(t, d, 8, "[?]", "[-,?]", "[--]", "[-?5]", "[?-]", "[?5?5]", "[-,,-]", "[-5]", "[5]")
	checkNoText(t, d, 9, "[[]", "[]]", "[[][]]", "[[],]", "[,[]]", "[[1]", "[1]", "[[1],2]", "[[[]]]", "[[]],[]", "[[]][]", "[[65536]]")
	checkUnwritten(t, d, 5, parts(num(65536)))
	checkUnwritten(t, d, 5, parts(num(1), num(-1)))
	checkUnwritten(t, d, 5, num(1))
	checkUnwritten(t, d, 7, parts(raw("a"), raw("")))
	checkUnwritten(t, d, 9, parts(parts(num(1)), parts(num(65536))))
}

func TestTextsOfArraysAtTheirLimit(t *testing.T) {
	for _, fields := range integerFields() {
		d := described(t, "i integer "+fields, "byte integer 1", "c const 07", "s sized byte", "a array i byte", "ac array i c", "as array i s", "aa array i ac")
		for _, count := range []int{0, 1, 2, 39, 40, 41, 42, 80, 255, 256, 400, 5000} {
			for rule, item := range map[int]string{4: "7", 5: "!", 6: "x07", 7: "[!]"} {
				v := times(count, map[int]impl.Value{4: num(7), 5: {}, 6: raw("\x07"), 7: parts(impl.Value{})}[rule])
				text := "[" + strings.TrimSuffix(strings.Repeat(item+",", count), ",") + "]"
				if count <= 40 {
					checkText(t, d, rule, v, text)
				} else {
					checkNoText(t, d, rule, text)
					checkUnwritten(t, d, rule, v)
				}
			}
		}
	}
}

func TestTextsOfSequences(t *testing.T) {
	d := described(t, "n integer 1", "c const 504b", "f fixed 2", "o option n", "one sequence a:f", "all sequence ab:n b:c c2:f ab2:o", "eight sequence a:n b:n c:n d:n e:n f:n g:n h:f", "lone sequence a:one", "long sequence abcdefghijkl:one z:all", "same sequence n:n o:n")
	checkText(t, d, 4, parts(raw("xy")), "{a:x7879}")
	checkText(t, d, 5, parts(num(200), impl.Value{}, raw("xy"), parts(num(1))), "{ab:200,b:!,c2:x7879,ab2:?1}")
	checkText(t, d, 5, parts(num(0), impl.Value{}, zeros(2), impl.Value{}), "{ab:0,b:!,c2:x0000,ab2:-}")
	checkText(t, d, 6, parts(num(1), num(2), num(3), num(4), num(5), num(6), num(7), raw("ab")), "{a:1,b:2,c:3,d:4,e:5,f:6,g:7,h:x6162}")
	checkText(t, d, 7, parts(parts(raw("ab"))), "{a:{a:x6162}}")
	checkText(t, d, 8, parts(parts(raw("ab")), parts(num(9), impl.Value{}, raw("cd"), impl.Value{})), "{abcdefghijkl:{a:x6162},z:{ab:9,b:!,c2:x6364,ab2:-}}")
	checkText(t, d, 9, parts(num(1), num(2)), "{n:1,o:2}")
	checkNoText(t, d, 4, "", "{", "}", "{}", "{a}", "{a:}", "{:x7879}", "{x7879}", "x7879", "a:x7879", "{a:x7879", "a:x7879}", "{a:x7879}}", "{{a:x7879}", "{{a:x7879}}", "{a:x7879,}", "{,a:x7879}", "{a:x7879,b:x7879}", "{a:x7879,a:x7879}", "{a:x7879}{a:x7879}", "{b:x7879}", "{A:x7879}", "{aa:x7879}", "{f:x7879}", "{a=x7879}", "{a;x7879}", "{a::x7879}", "{a x7879}", "{a: x7879}", "{a :x7879}", "{ a:x7879}", "{a:x7879 }", " {a:x7879}", "{a:x7879} ", "{a:x7879}\n", "[a:x7879]", "(a:x7879)", "<a:x7879>", "{a:x7879]", "[a:x7879}", "[x7879]", "{a:x78}", "{a:x787900}", "{a:!}", "{a:a:x7879}", "{a:x7879:}", "\"a\":x7879")
	checkNoText(t, d, 9, "{n:1}", "{o:2}", "{o:2,n:1}", "{n:1o:2}", "{n:1;o:2}", "{n:1, o:2}", "{n:1,,o:2}", "{n:1,o:2,}", "{n:1,o:2,p:3}", "{n:1,o:2,n:1}", "{n:1,o:2", "{n:1,2}", "{1,o:2}", "{1,2}", "{n:1,o:}", "{n:,o:2}", "{n:1,o}", "{n,o}", "{,}", "{n:1:o:2}", "{n:1,n:2}", "{o:1,o:2}", "{x:1,y:2}", "{n:1,o:256}", "{n:256,o:2}", "{n:01,o:2}", "{n:1}{o:2}", "n:1,o:2", "{{n:1,o:2}}", "n=1", "{n=1,o=2}")
	whole := []string{"ab:200", "b:!", "c2:x7879", "ab2:?1"}
	for a := range whole {
		without := slices.Delete(slices.Clone(whole), a, a+1)
		twice := slices.Insert(slices.Clone(whole), a, whole[a])
		checkNoText(t, d, 5, "{"+strings.Join(without, ",")+"}", "{"+strings.Join(twice, ",")+"}", "{"+strings.Join(whole[:a], ",")+"}")
		for b := range a {
			exchanged := slices.Clone(whole)
			exchanged[a], exchanged[b] = exchanged[b], exchanged[a]
			checkNoText(t, d, 5, "{"+strings.Join(exchanged, ",")+"}")
		}
		_, content, _ := strings.Cut(whole[a], ":")
		for _, name := range []string{"", "a", "ab", "b", "c2", "ab2", "c", "ab3", "abb", "z", "AB"} {
			other := slices.Clone(whole)
			if other[a] = name + ":" + content; other[a] != whole[a] {
				checkNoText(t, d, 5, "{"+strings.Join(other, ",")+"}")
			}
		}
	}
	checkUnwritten(t, d, 4, impl.Value{})
	checkUnwritten(t, d, 4, parts(raw("ab"), raw("ab")))
	checkUnwritten(t, d, 5, parts(num(256), impl.Value{}, raw("xy"), impl.Value{}))
	checkUnwritten(t, d, 5, parts(num(200), impl.Value{}, raw("xy"), parts(num(256))))
	checkUnwritten(t, d, 7, parts(parts(raw("abc"))))
}

func TestTextsOfChoices(t *testing.T) {
	d := described(t, "n integer 1", "w integer 2 little", "c const 504b", "f fixed 1", "k choice n 0:c 1:f 7:n 255:f", "kw choice w 1:n 256:f 258:c 65535:k", "ka array n k", "far choice w 513:kw")
	checkText(t, d, 4, tagged(0, impl.Value{}), "0<!>")
	checkText(t, d, 4, tagged(1, raw("a")), "1<x61>")
	checkText(t, d, 4, tagged(7, num(7)), "7<7>")
	checkText(t, d, 4, tagged(255, raw("\xff")), "255<xff>")
	checkText(t, d, 5, tagged(1, num(0)), "1<0>")
	checkText(t, d, 5, tagged(256, raw("a")), "256<x61>")
	checkText(t, d, 5, tagged(258, impl.Value{}), "258<!>")
	checkText(t, d, 5, tagged(65535, tagged(7, num(255))), "65535<7<255>>")
	checkText(t, d, 6, parts(tagged(0, impl.Value{}), tagged(7, num(1))), "[0<!>,7<1>]")
	checkText(t, d, 7, tagged(513, tagged(65535, tagged(0, impl.Value{}))), "513<65535<0<!>>>")
	checkNoText(t, d, 4, "", "0", "7", "<", ">", "<>", "<7>", "7<", "7<>", "7<7", "7>", "77>", "7<7>>", "7<<7>>", "7<<7>", "7<7>7", "7<7>7<7>", "7<7><7>", "7<7,7>", "7<7,>", "7<,7>", "7:7", "7 <7>", "7< 7>", "7<7 >", " 7<7>", "7<7> ", "7<7>\n", "7[7]", "7(7)", "7{7}", "7<7]", "7<7}", "7<7)", "7(7>", "07<7>", "+7<7>", "-7<7>", "007<7>", "7<07>", "7<256>", "2<7>", "6<7>", "8<7>", "70<7>", "263<7>", "256<!>", "4294967303<7>", "-249<7>", "00<!>", "-0<!>", "<!>", "a<7>", "x07<7>", "0<7>", "1<7>", "255<7>", "7<!>", "7<x61>", "1<!>", "0<x61>", "1<x>", "1<x6161>", "1<x6>", "0<!!>", "0<>", "7<7<7>>", "?7", "k:7<7>", "7:<7>", "n<7>", "c<!>")
	checkNoText(t, d, 5, "0<0>", "2<0>", "257<x61>", "255<x61>", "512<x61>", "1<x61>", "256<0>", "65536<7<1>>", "65535<8<1>>", "65535<7<256>>", "65535<7<1>", "65535<7>", "65535<1>", "65535<7<1>>>", "065535<7<1>>")
	for tag := range 300 {
		for alternative, tags := range map[string][]int{"!": {0}, "x61": {1, 255}, "5": {7}} {
			if !slices.Contains(tags, tag) {
				checkNoText(t, d, 4, strconv.Itoa(tag)+"<"+alternative+">")
			}
		}
	}
	checkUnwritten(t, d, 4, tagged(7))
	checkUnwritten(t, d, 4, tagged(7, num(256)))
	checkUnwritten(t, d, 4, tagged(7, num(1), num(1)))
	checkUnwritten(t, d, 4, tagged(8, num(7)))
	checkUnwritten(t, d, 4, tagged(-1, impl.Value{}))
	checkUnwritten(t, d, 5, tagged(65535, tagged(8, num(7))))
}

func TestTextsOfOptions(t *testing.T) {
	d := described(t, "n integer 1", "f fixed 1", "o option n", "oo option o", "o3 option oo", "of option f", "a array n o", "oa option a", "q sequence x:o y:oo z:n", "oq option q")
	checkText(t, d, 2, impl.Value{}, "-")
	checkText(t, d, 2, parts(num(0)), "?0")
	checkText(t, d, 2, parts(num(255)), "?255")
	checkText(t, d, 3, impl.Value{}, "-")
	checkText(t, d, 3, parts(impl.Value{}), "?-")
	checkText(t, d, 3, parts(parts(num(9))), "??9")
	checkText(t, d, 4, parts(parts(impl.Value{})), "??-")
	checkText(t, d, 4, parts(parts(parts(num(9)))), "???9")
	checkText(t, d, 5, parts(raw("a")), "?x61")
	checkText(t, d, 7, impl.Value{}, "-")
	checkText(t, d, 7, parts(impl.Value{}), "?[]")
	checkText(t, d, 7, parts(parts(impl.Value{}, parts(num(1)))), "?[-,?1]")
	checkText(t, d, 8, parts(parts(num(1)), parts(parts(num(2))), num(3)), "{x:?1,y:??2,z:3}")
	checkText(t, d, 9, parts(parts(impl.Value{}, parts(impl.Value{}), num(3))), "?{x:-,y:?-,z:3}")
	checkNoText(t, d, 2, "", "?", "0", "7", "--", "-?", "-7", "-?7", "?-", "?-7", "??7", "?7?", "?7-", "?7?7", "?7,7", "?7,", "? 7", " ?7", "?7 ", "- ", " -", "-\n", "?(7)", "?<7>", "?[7]", "?{7}", "<?7>", "(-)", "?07", "?256", "?+7", "!", "x", "[]", "1?7", "0-", "1<7>", "\u2212", "?\x00")
	checkNoText(t, d, 3, "?", "??", "9", "?9", "???9", "--", "?--", "??9-", "-?9", "??-")
	checkNoText(t, d, 5, "?x", "?x6161", "?x6", "?61", "x61", "?x61 ")
	checkNoText(t, d, 8, "{x:,y:-,z:3}", "{x:-,y:-}", "{x:?,y:-,z:3}", "{x:?1,2,y:-,z:3}", "{x:--,y:-,z:3}", "{x:-y:-,z:3}")
	checkUnwritten(t, d, 2, parts(num(256)))
	checkUnwritten(t, d, 2, parts(num(1), num(1)))
	checkUnwritten(t, d, 2, num(1))
	checkUnwritten(t, d, 3, parts(num(1)))
}

func TestTextsOfChecked(t *testing.T) {
	d := described(t, "n integer 1", "c const 07", "f fixed 1", "p checked n", "pp checked p", "pc checked c", "pf checked f", "a array n p", "pa checked a", "q sequence a:pa b:pp")
	checkText(t, d, 3, parts(num(0)), "(0)")
	checkText(t, d, 3, parts(num(255)), "(255)")
	checkText(t, d, 4, parts(parts(num(9))), "((9))")
	checkText(t, d, 5, parts(impl.Value{}), "(!)")
	checkText(t, d, 6, parts(raw("a")), "(x61)")
	checkText(t, d, 8, parts(impl.Value{}), "([])")
	checkText(t, d, 8, parts(parts(parts(num(1)), parts(num(2)))), "([(1),(2)])")
	checkText(t, d, 9, parts(parts(impl.Value{}), parts(parts(num(1)))), "{a:([]),b:((1))}")
	checkNoText(t, d, 3, "", "(", ")", "()", "9", "(9", "9)", "((9)", "(9))", "((9))", "(9)9", "(9)(9)", "(9,9)", "(9,)", "(,9)", "( 9)", "(9 )", " (9)", "(9) ", "(9)\n", "[9]", "{9}", "<9>", "(9]", "[9)", "(9>", "(09)", "(256)", "(-9)", "(-)", "(?9)", "(!)", "(x09)", "(9)x09", "(a:9)", "()()", "9()")
	checkNoText(t, d, 4, "(9)", "((9)", "(9))", "(((9)))", "()", "(())", "((9)9)", "((9),(9))", "((256))")
	checkNoText(t, d, 5, "!", "()", "(!!)", "(!,!)", "(07)")
	checkUnwritten(t, d, 3, impl.Value{})
	checkUnwritten(t, d, 3, parts(num(256)))
	checkUnwritten(t, d, 3, parts(num(1), num(1)))
	checkUnwritten(t, d, 4, parts(impl.Value{}))
}

const fullText = "(?{rows:[{first:x616263,last:(?5<[x61,x,x626364]>)},{first:x646566,last:(-)},{first:x676869,last:(?300<x5c0a00>)},{first:x6a6b6c,last:(?301<255>)},{first:x6d6e6f,last:(?5<[x78,x79]>)}],magic:!})"

func TestTextsOverSeveralLevels(t *testing.T) {
	d := levels(t)
	checkText(t, d, 14, fullValue(), fullText)
	checkText(t, d, 14, parts(impl.Value{}), "(-)")
	checkText(t, d, 14, parts(parts(parts(impl.Value{}, impl.Value{}))), "(?{rows:[],magic:!})")
	checkText(t, d, 12, fullValue().Items[0].Items[0], fullText[2:len(fullText)-1])
	for _, wrong := range []string{fullText + ")", fullText[1:], fullText[:len(fullText)-1], strings.Replace(fullText, "?5", "5", 1), strings.Replace(fullText, "301<255>", "301<256>", 1), strings.Replace(fullText, "!", "", 1), strings.Replace(fullText, "first", "last", 1), strings.Replace(fullText, "x6d6e6f", "x6d6e6f70", 1), strings.Replace(fullText, "300<", "302<", 1), strings.Replace(fullText, "(-)", "(?)", 1), strings.Replace(fullText, "(-)", "()", 1), strings.Replace(fullText, "x5c0a00", "x5c0A00", 1)} {
		checkNoText(t, d, 14, wrong)
	}
	for index := range d.Rules[:14] {
		checkNoText(t, d, index, fullText)
	}
}

// A text with a part on every level that a description can have, and one with many parts.
func TestTextsOverManyLevels(t *testing.T) {
	alone := func(v impl.Value) impl.Value { return parts(v) }
	for _, c := range []struct {
		line, before, after string
		around              func(v impl.Value) impl.Value
	}{
		{"checked %", "(", ")", alone}, {"option %", "?", "", alone}, {"array r0 %", "[", "]", alone}, {"sequence a:%", "{a:", "}", alone},
		{"choice r0 200:% 201:r0", "200<", ">", func(v impl.Value) impl.Value { return tagged(200, v) }},
		{"sequence a:r0 b:%", "{a:5,b:", "}", func(v impl.Value) impl.Value { return parts(num(5), v) }},
		{"sequence a:% b:r0", "{a:", ",b:5}", func(v impl.Value) impl.Value { return parts(v, num(5)) }},
	} {
		d := described(t, chain("integer 1", c.line)...)
		v, text := num(77), "77"
		for rule := range 24 {
			checkText(t, d, rule, v, text)
			checkNoText(t, d, rule, c.before+text+c.after, text+")", " "+text, "x"+text[1:], text[:len(text)-1]+"!")
			if rule > 0 {
				checkNoText(t, d, rule, text[1:])
			}
			v, text = c.around(v), c.before+text+c.after
		}
	}
	d := described(t, chain("integer 1", eightParts)...)
	text := impl.FormatValue(d, 6, impl.DefaultValue(d, 6))
	v, ok := impl.ParseValue(d, 6, text)
	if !ok || !impl.EqualValues(v, impl.DefaultValue(d, 6)) || strings.Count(text, ":0") != 1<<18 {
		t.Errorf("a text of %d bytes is read as a value with %d parts", len(text), impl.CountParts(v))
	}
}

// The values of such rules are beyond all memory; texts that are none of them are rejected all the same, and at once.
func TestTextsOfRulesThatNoMemoryHolds(t *testing.T) {
	d := described(t, append(chain("integer 1", eightParts)[:22], "flag option r21", "list array r0 flag")...)
	for rule := 8; rule < 22; rule++ {
		checkNoText(t, d, rule, "", "{", "{a:", "0", "{}", strings.Repeat("{a:", rule), strings.Repeat("{a:", rule)+"0", strings.Repeat("{a:", rule)+"0,b:0", strings.Repeat("{a:", rule)+"0"+strings.Repeat("}", rule))
	}
	checkText(t, d, 22, impl.Value{}, "-")
	checkText(t, d, 23, parts(impl.Value{}, impl.Value{}), "[-,-]")
	checkNoText(t, d, 22, "?", "?{a:")
	checkNoText(t, d, 23, "[?", "[-,?{a:")
}

func TestLongTextsThatAreNoValues(t *testing.T) {
	d := described(t, "n integer 1", "s sized n", "c const 07", "o option n", "a array n o", "aa array n a", "p checked aa", "k choice n 1:p", "q sequence a:k")
	const count = 1 << 20
	for rule := range d.Rules {
		for _, c := range []string{"0", "7", "x", "a", "-", "?", "[", "]", "{", "}", "(", ")", "<", ">", ",", ":", "!", " ", "[-", "-,", "[]", "[],", "x00,", "1<", "{a:", "?0", "\x00", "\xff"} {
			checkNoText(t, d, rule, strings.Repeat(c, count))
		}
		checkNoText(t, d, rule, "["+strings.Repeat("-,", count)+"-]", "["+strings.Repeat("[],", count)+"[]]", "([["+strings.Repeat("?7,", count), "{a:1<([["+strings.Repeat("-,", count)+"-]])>}", "x"+strings.Repeat("00", count), "x"+strings.Repeat("00", count)+"0", "[-]"+strings.Repeat("]", count))
	}
}

// plainWriting writes a valid value as the document says, kind by kind.
func plainWriting(d impl.Description, rule int, v impl.Value) string {
	r := d.Rules[rule]
	list := []string{}
	for at, item := range v.Items {
		text := ""
		switch r.Kind {
		case impl.KindArray:
			text = plainWriting(d, r.Kids[1], item)
		case impl.KindSequence:
			text = r.Names[at] + ":" + plainWriting(d, r.Kids[at], item)
		case impl.KindChoice:
			text = plainWriting(d, r.Kids[slices.Index(r.Tags, v.Number)+1], item)
		default:
			text = plainWriting(d, r.Kids[0], item)
		}
		list = append(list, text)
	}
	items := strings.Join(list, ",")
	switch r.Kind {
	case impl.KindInteger:
		return strconv.Itoa(v.Number)
	case impl.KindConst:
		return "!"
	case impl.KindFixed, impl.KindSized, impl.KindTerminated:
		return "x" + digitsOf(string(v.Bytes))
	case impl.KindArray:
		return "[" + items + "]"
	case impl.KindSequence:
		return "{" + items + "}"
	case impl.KindChoice:
		return strconv.Itoa(v.Number) + "<" + items + ">"
	case impl.KindOption:
		return strings.Replace("?"+items, "?", map[bool]string{true: "-", false: "?"}[len(v.Items) == 0], 1)
	}
	return "(" + items + ")"
}

func TestTextsOfRandomValues(t *testing.T) {
	count := map[int]int{}
	for _, m := range madeValues(300) {
		text := plainWriting(m.d, m.rule, m.v)
		checkText(t, m.d, m.rule, m.v, text)
		count[m.d.Rules[m.rule].Kind]++
		// Where other rules read the text, it is that of the value they give.
		for rule := range m.d.Rules {
			v, ok := impl.ParseValue(m.d, rule, text)
			if ok != (impl.IsValidValue(m.d, rule, v) && plainWriting(m.d, rule, v) == text) {
				t.Fatalf("ParseValue of %q with %q = %+v, %v", impl.FormatRule(m.d, rule), text, v, ok)
			}
		}
	}
	for kind := 1; kind <= 10; kind++ {
		if count[kind] < 15 {
			t.Errorf("only %d values of the kind %d", count[kind], kind)
		}
	}
}

func TestTextsOfSpoiledValues(t *testing.T) {
	random := rand.New(rand.NewSource(10))
	valid, invalid := 0, 0
	for _, m := range madeValues(200) {
		for range 6 {
			w := plainCopy(m.v, false)
			spoil(random, &w)
			if plainValid(m.d, m.rule, w) {
				checkText(t, m.d, m.rule, w, plainWriting(m.d, m.rule, w))
				valid++
			} else {
				checkUnwritten(t, m.d, m.rule, w)
				invalid++
			}
		}
	}
	if valid < 500 || invalid < 2000 {
		t.Errorf("%d spoiled values were valid and %d invalid", valid, invalid)
	}
}

// Every part of a value made wrong in turn: then nothing of it is written.
func TestTextsOfValuesWithAWrongPart(t *testing.T) {
	d := levels(t)
	for at, kid := range plainRules(d, 14, fullValue()) {
		for _, fault := range faults()[d.Rules[kid].Kind] {
			v := fullValue()
			fault(everyPartOf(&v)[at])
			checkUnwritten(t, d, 14, v)
		}
	}
}

// numbersUpTo is a regular expression for the numbers from 0 to the limit.
func numbersUpTo(limit int) string {
	digits := strconv.Itoa(limit)
	list := []string{"0", digits}
	for length := 1; length < len(digits); length++ {
		list = append(list, "[1-9][0-9]{"+strconv.Itoa(length-1)+"}")
	}
	for at := range len(digits) {
		least := map[bool]byte{true: '1', false: '0'}[at == 0]
		if digits[at] > least {
			list = append(list, digits[:at]+"["+string(least)+"-"+string(digits[at]-1)+"][0-9]{"+strconv.Itoa(len(digits)-1-at)+"}")
		}
	}
	return "(?:" + strings.Join(list, "|") + ")"
}

// expressionOf is a regular expression for the texts of a rule; it has no limit for arrays and for the bytes of a sized and a terminated.
func expressionOf(d impl.Description, rule int) string {
	r := d.Rules[rule]
	switch r.Kind {
	case impl.KindInteger:
		return numbersUpTo(1<<(8*r.Size) - 1)
	case impl.KindConst:
		return "!"
	case impl.KindFixed:
		return "x(?:[0-9a-f]{2}){" + strconv.Itoa(r.Size) + "}"
	case impl.KindSized, impl.KindTerminated:
		return "x(?:[0-9a-f]{2})*"
	case impl.KindArray:
		item := expressionOf(d, r.Kids[1])
		return `\[(?:` + item + "(?:," + item + `)*)?\]`
	case impl.KindSequence:
		list := []string{}
		for at, kid := range r.Kids {
			list = append(list, r.Names[at]+":"+expressionOf(d, kid))
		}
		return `\{` + strings.Join(list, ",") + `\}`
	case impl.KindChoice:
		list := []string{}
		for at, tag := range r.Tags {
			list = append(list, strconv.Itoa(tag)+"<"+expressionOf(d, r.Kids[at+1])+">")
		}
		return "(?:" + strings.Join(list, "|") + ")"
	case impl.KindOption:
		return `(?:-|\?` + expressionOf(d, r.Kids[0]) + ")"
	}
	return `\(` + expressionOf(d, r.Kids[0]) + `\)`
}

// compiled has an expression that accepts the whole text of a value; none if it were too large.
func compiled(d impl.Description, rule int) *regexp.Regexp {
	if leastParts(d, false)[rule] > 60 {
		return nil
	}
	text := expressionOf(d, rule)
	if len(text) > 20000 {
		return nil
	}
	return regexp.MustCompile(`\A(?:` + text + `)\z`)
}

// checkAccepted tests whether a text is accepted; what it gives is a valid value with this text.
func checkAccepted(t *testing.T, d impl.Description, rule int, text string, want bool) {
	t.Helper()
	v, ok := impl.ParseValue(d, rule, text)
	if ok != want {
		t.Fatalf("ParseValue of the rule %d of\n%s\nwith %q = %+v, %v", rule, impl.FormatDescription(d), text, v, ok)
	}
	if !ok && !isZero(v) {
		t.Fatalf("ParseValue rejects %q and gives %+v", text, v)
	}
	if ok && (!plainValid(d, rule, v) || plainWriting(d, rule, v) != text || impl.FormatValue(d, rule, v) != text) {
		t.Fatalf("ParseValue of %q with %q = %+v, which has the text %q", impl.FormatRule(d, rule), text, v, impl.FormatValue(d, rule, v))
	}
}

// textsBeside returns texts that differ from this one at one place.
func textsBeside(text string, at int) []string {
	list := []string{}
	for _, c := range []string{"0", "1", "9", "a", "f", "g", "A", "x", "!", "-", "?", "+", "[", "]", "{", "}", "(", ")", "<", ">", ",", ":", " ", "\n", "\x00", "\xff", "00", "!,"} {
		list = append(list, text[:at]+c+text[at:])
		if at < len(text) {
			list = append(list, text[:at]+c+text[at+1:])
		}
	}
	if at < len(text) {
		list = append(list, text[:at], text[at:], text[:at]+text[at+1:], text[:at]+strings.ToUpper(text[at:at+1])+text[at+1:], text[:at]+text[at:at+1]+text[at:])
	}
	if at+1 < len(text) {
		list = append(list, text[:at]+text[at+2:], text[:at]+text[at+1:at+2]+text[at:at+1]+text[at+2:])
	}
	return list
}

func TestTextsThatDifferInOneByte(t *testing.T) {
	full := levels(t)
	expression := compiled(full, 14)
	for at := range len(fullText) + 1 {
		for _, text := range textsBeside(fullText, at) {
			checkAccepted(t, full, 14, text, expression.MatchString(text))
		}
	}
	count, accepted := map[int]int{}, 0
	for _, m := range madeValues(400) {
		text := impl.FormatValue(m.d, m.rule, m.v)
		expression := compiled(m.d, m.rule)
		kind := m.d.Rules[m.rule].Kind
		if expression == nil || len(text) > 300 || count[kind] >= 40 {
			continue
		}
		count[kind]++
		for at := range len(text) + 1 {
			for _, other := range textsBeside(text, at) {
				want := expression.MatchString(other)
				checkAccepted(t, m.d, m.rule, other, want)
				if want {
					accepted++
				}
			}
		}
	}
	for kind := 1; kind <= 10; kind++ {
		if count[kind] < 10 {
			t.Errorf("only %d texts of the kind %d", count[kind], kind)
		}
	}
	if accepted < 5000 {
		t.Errorf("only %d texts were accepted", accepted)
	}
}

// allTexts calls check with every text of these characters, up to the length.
func allTexts(characters string, length int, check func(text string)) {
	list := []string{""}
	for range length + 1 {
		next := []string{}
		for _, text := range list {
			check(text)
			for _, c := range characters {
				next = append(next, text+string(c))
			}
		}
		list = next
	}
}

// All short texts of the characters that matter: just those are accepted that are texts of values.
func TestAllShortTexts(t *testing.T) {
	d := described(t,
		"n integer 1", "w integer 2 little", "c const 504b", "f fixed 1", "s sized n", "t terminated 00", "a array n n", "aa array n a", "ac array n c", "q sequence a:n", "qc sequence a:c b:c",
		"k choice n 1:n 2:c 12:c", "kk choice n 1:k", "o option n", "oo option o", "p checked n", "pp checked p", "po checked o", "ap array n p", "oa option ac", "as array n s",
	)
	accepted := 0
	for _, c := range []struct {
		name, characters string
		length           int
	}{
		{"n", "01256-+ ,", 4}, {"w", "06535", 5}, {"c", "!x0 -", 4}, {"f", "x0afAFg!", 5}, {"s", "x0aA,", 6}, {"t", "x0f ", 6}, {"a", "[],01", 7}, {"aa", "[],0", 8}, {"ac", "[],!", 8}, {"q", "{}a:01", 6}, {"qc", "{}ab:,!", 6},
		{"k", "12<>!0", 6}, {"kk", "1<>0!", 7}, {"o", "-?01 ", 6}, {"oo", "-?0", 8}, {"p", "()01,", 7}, {"pp", "()0", 8}, {"po", "()?-0", 7}, {"ap", "[](),0", 7}, {"oa", "?-[]!,", 6}, {"as", "[]x0,", 7},
	} {
		rule := impl.FindRule(d, c.name)
		expression := compiled(d, rule)
		found := 0
		allTexts(c.characters, c.length, func(text string) {
			want := expression.MatchString(text)
			checkAccepted(t, d, rule, text, want)
			if want {
				found++
			}
		})
		accepted += found
		if found == 0 && c.name != "qc" {
			t.Errorf("none of the texts is one of the rule %s", c.name)
		}
	}
	if accepted < 3000 {
		t.Errorf("only %d texts were accepted", accepted)
	}
}

func TestFormatNumberText(t *testing.T) {
	for _, c := range []struct {
		number             int
		open, inner, close string
		want               string
	}{
		{5, "<", "a", ">", "5<a>"}, {0, "", "", "", "0"}, {0, "<", "", ">", "0<>"}, {-1, "", "", "", "-1"}, {-17, "(", "-", ")", "-17(-)"}, {7, "a", "", "", "7a"}, {7, "", "b", "", "7b"}, {7, "", "", "c", "7c"}, {12, "ab", "cd", "ef", "12abcdef"},
		{math.MaxInt, "<", "x", ">", "9223372036854775807<x>"}, {math.MinInt, "<", "x", ">", "-9223372036854775808<x>"}, {4294967295, "0", "1", "2", "4294967295012"}, {1000000000000, "\x00", "\xff", "\n", "1000000000000\x00\xff\n"}, {100, " ", " ", " ", "100   "},
	} {
		if got := impl.FormatNumberText(c.number, c.open, c.inner, c.close); got != c.want {
			t.Errorf("FormatNumberText(%d, %q, %q, %q) = %q, want %q", c.number, c.open, c.inner, c.close, got, c.want)
		}
	}
	long := strings.Repeat("long", 1000)
	if got := impl.FormatNumberText(1, long, long+"x", long+"y"); got != "1"+long+long+"x"+long+"y" {
		t.Errorf("FormatNumberText with long texts has %d bytes", len(got))
	}
}

func checkDigits(t *testing.T, s string, at int, n int, next int) {
	t.Helper()
	if gotN, gotNext := impl.ReadDigits(s, at); gotN != n || gotNext != next {
		t.Errorf("ReadDigits(%q, %d) = %d, %d, want %d, %d", s, at, gotN, gotNext, n, next)
	}
}

func TestReadDigits(t *testing.T) {
	for _, c := range []struct {
		s           string
		at, n, next int
	}{
		{"a123b", 1, 123, 4}, {"a123b", 0, 0, 0}, {"a123b", 2, 23, 4}, {"a123b", 3, 3, 4}, {"a123b", 4, 0, 4}, {"a123b", 5, 0, 5}, {"a123b", 6, 0, 6}, {"a123b", -1, 0, -1}, {"123", 0, 123, 3}, {"123", 2, 3, 3}, {"123", 3, 0, 3}, {"123", 4, 0, 4}, {"123", -1, 0, -1},
		{"", 0, 0, 0}, {"", 1, 0, 1}, {"", -1, 0, -1}, {"0", 0, 0, 1}, {"7", 0, 7, 1}, {"007", 0, 7, 3}, {"000", 0, 0, 3}, {"0x7", 0, 0, 1}, {"0,1", 0, 0, 1}, {"12 34", 0, 12, 2}, {"12 34", 2, 0, 2}, {"12 34", 3, 34, 5}, {"-5", 0, 0, 0}, {"-5", 1, 5, 2}, {"+5", 0, 0, 0}, {" 5", 0, 0, 0}, {"5-", 0, 5, 1}, {"5.5", 0, 5, 1}, {"5_5", 0, 5, 1}, {"5e5", 0, 5, 1},
		{"123456789", 0, 123456789, 9}, {"1234567890", 0, 1234567890, 10}, {"12345678901", 0, 1234567890, 10}, {"12345678901", 1, 2345678901, 11}, {"123456789012", 1, 2345678901, 11}, {"9999999999", 0, 9999999999, 10}, {"99999999999", 0, 9999999999, 10}, {"4294967295", 0, 4294967295, 10}, {"0000000007", 0, 7, 10}, {"00000000007", 0, 0, 10}, {"00000000070", 0, 7, 10}, {"x00000000070", 2, 70, 12}, {"0000000000", 0, 0, 10},
		{"1\u0663", 0, 1, 1}, {"\u0663", 0, 0, 0}, {"\uff17", 0, 0, 0}, {"1\xb1", 0, 1, 1}, {"\xb1", 0, 0, 0}, {"1\x00", 0, 1, 1}, {"1/", 0, 1, 1}, {"1:", 0, 1, 1}, {"/1", 0, 0, 0}, {":1", 0, 0, 0},
	} {
		checkDigits(t, c.s, c.at, c.n, c.next)
	}
	for _, s := range []string{"", "1", "12345", "abc", strings.Repeat("9", 30)} {
		for _, at := range []int{math.MinInt, math.MinInt + 1, -1 << 32, -100, -2, -1, len(s), len(s) + 1, len(s) + 9, len(s) + 10, len(s) + 11, 1 << 32, math.MaxInt - 10, math.MaxInt - 1, math.MaxInt} {
			checkDigits(t, s, at, 0, at)
		}
	}
	long := strings.Repeat("1234567890", 100)
	for at := range 990 {
		n, _ := strconv.Atoi(long[at : at+10])
		checkDigits(t, long, at, n, at+10)
	}
}

func TestReadDigitsOfEveryByte(t *testing.T) {
	for b := range 256 {
		c := string([]byte{byte(b)})
		if '0' <= b && b <= '9' {
			checkDigits(t, c, 0, b-'0', 1)
			checkDigits(t, "7"+c+"8", 0, 708+10*(b-'0'), 3)
			checkDigits(t, "7"+c+"8", 1, 10*(b-'0')+8, 3)
		} else {
			checkDigits(t, c, 0, 0, 0)
			checkDigits(t, "7"+c+"8", 0, 7, 1)
			checkDigits(t, "7"+c+"8", 1, 0, 1)
		}
	}
}

func TestReadDigitsOfShortTexts(t *testing.T) {
	allTexts("079a-", 5, func(text string) {
		for at := range text {
			end := at
			for end < len(text) && strings.Contains("079", text[end:end+1]) {
				end++
			}
			n, _ := strconv.Atoi("0" + text[at:end])
			checkDigits(t, text, at, n, end)
		}
		checkDigits(t, text, -1, 0, -1)
		checkDigits(t, text, len(text), 0, len(text))
	})
}

func checkHexDigits(t *testing.T, s string, at int, content string, next int) {
	t.Helper()
	if b, got := impl.ReadHexDigits(s, at); string(b) != content || got != next {
		t.Errorf("ReadHexDigits(%q, %d) = %q, %d, want %q, %d", s, at, b, got, content, next)
	}
}

func TestReadHexDigits(t *testing.T) {
	for _, c := range []struct {
		s       string
		at      int
		content string
		next    int
	}{
		{"x0aFF", 1, "\x0a", 3}, {"x0aFF", 0, "", 0}, {"x0aFF", 2, "", 2}, {"x0aFF", 3, "", 3}, {"x0aFF", 5, "", 5}, {"x0aFF", 6, "", 6}, {"x0aFF", -1, "", -1}, {"", 0, "", 0}, {"", 1, "", 1}, {"", -1, "", -1},
		{"6", 0, "", 0}, {"61", 0, "a", 2}, {"616", 0, "a", 2}, {"6162", 0, "ab", 4}, {"6162", 1, "\x16", 3}, {"6162", 2, "b", 4}, {"6162", 3, "", 3}, {"6162", 4, "", 4}, {"6162", 5, "", 5}, {"61626", 0, "ab", 4}, {"61 62", 0, "a", 2}, {"61,62", 0, "a", 2}, {"61,62", 2, "", 2}, {"61,62", 3, "b", 5}, {"616,", 0, "a", 2}, {"6,16", 0, "", 0},
		{"FF", 0, "", 0}, {"fF", 0, "", 0}, {"Ff", 0, "", 0}, {"ff", 0, "\xff", 2}, {"00", 0, "\x00", 2}, {"09af", 0, "\x09\xaf", 4}, {"0G", 0, "", 0}, {"0g", 0, "", 0}, {"g0", 0, "", 0}, {"0`", 0, "", 0}, {"0/", 0, "", 0}, {"0:", 0, "", 0}, {"0@", 0, "", 0}, {"00\x00", 0, "\x00", 2}, {"00\xff", 0, "\x00", 2}, {"00\uff11", 0, "\x00", 2}, {"-1", 0, "", 0}, {"+1", 0, "", 0}, {"0x61", 0, "", 0}, {"0x61", 2, "a", 4}, {"61xx", 0, "a", 2},
	} {
		checkHexDigits(t, c.s, c.at, c.content, c.next)
	}
	for _, s := range []string{"", "61", "616263", "xyz"} {
		for _, at := range []int{math.MinInt, -1 << 32, -100, -2, -1, len(s), len(s) + 1, len(s) + 2, 1 << 32, math.MaxInt - 1, math.MaxInt} {
			checkHexDigits(t, s, at, "", at)
		}
	}
	// There is no limit: not even that of an input.
	for _, count := range []int{63, 255, 399, 400, 401, 100000} {
		checkHexDigits(t, "x"+strings.Repeat("5c", count)+"5", 1, strings.Repeat("\\", count), 1+2*count)
	}
}

func TestReadHexDigitsOfEveryByte(t *testing.T) {
	for b := range 256 {
		c := string([]byte{byte(b)})
		value := strings.Index("0123456789abcdef", c)
		if value < 0 {
			checkHexDigits(t, "61"+c+"262", 0, "a", 2)
			checkHexDigits(t, "6"+c+"62", 0, "", 0)
			checkHexDigits(t, c+"162", 0, "", 0)
			continue
		}
		checkHexDigits(t, "61"+c+"262", 0, "a"+string([]byte{byte(16*value + 2)})+"b", 6)
		checkHexDigits(t, "6"+c+"62", 0, string([]byte{byte(96 + value)})+"b", 4)
	}
}

func TestReadHexDigitsOfShortTexts(t *testing.T) {
	allTexts("09afAg", 5, func(text string) {
		for at := range len(text) + 1 {
			content, end := "", at
			for end+2 <= len(text) && !strings.ContainsAny(text[end:end+2], "Ag") {
				b, _ := strconv.ParseUint(text[end:end+2], 16, 8)
				content += string([]byte{byte(b)})
				end += 2
			}
			checkHexDigits(t, text, at, content, end)
		}
	})
}

func TestValueLines(t *testing.T) {
	d := described(t, "n integer 1", "c const 504b", "f fixed 2", "s sized n", "t terminated 0a", "a array n n", "o option n", "k choice n 1:a 5:o", "p checked k", "one sequence a:f", "all sequence ab:n b:c c2:f ab2:o", "eight sequence a:n b:n c:n d:n e:n f:n g:n h:f", "outer sequence x:all y:one z:p", "sealed checked outer", "rows array n one", "maybe option one", "kind choice n 3:one")
	all := parts(num(200), impl.Value{}, raw("xy"), parts(num(1)))
	checkLines(t, d, 9, parts(raw("xy")), "a=x7879")
	checkLines(t, d, 10, all, "ab=200", "b=!", "c2=x7879", "ab2=?1")
	checkLines(t, d, 10, parts(num(0), impl.Value{}, zeros(2), impl.Value{}), "ab=0", "b=!", "c2=x0000", "ab2=-")
	checkLines(t, d, 11, parts(num(1), num(2), num(3), num(4), num(5), num(6), num(7), raw("ab")), "a=1", "b=2", "c=3", "d=4", "e=5", "f=6", "g=7", "h=x6162")
	outer := parts(all, parts(raw("ab")), parts(tagged(1, parts(num(3), num(4)))))
	checkLines(t, d, 12, outer, "x={ab:200,b:!,c2:x7879,ab2:?1}", "y={a:x6162}", "z=(1<[3,4]>)")
	one := parts(raw("xy"))
	for rule, c := range map[int]struct {
		v    impl.Value
		line string
	}{
		0: {num(77), "77"}, 1: {impl.Value{}, "!"}, 2: {raw("ab"), "x6162"}, 3: {raw(""), "x"}, 4: {raw("\n"), "x0a"}, 5: {parts(num(1), num(2)), "[1,2]"}, 6: {impl.Value{}, "-"}, 7: {tagged(5, parts(num(6))), "5<?6>"}, 8: {parts(tagged(1, impl.Value{})), "(1<[]>)"},
		13: {parts(outer), "({x:{ab:200,b:!,c2:x7879,ab2:?1},y:{a:x6162},z:(1<[3,4]>)})"}, 14: {parts(one, one), "[{a:x7879},{a:x7879}]"}, 15: {parts(one), "?{a:x7879}"}, 16: {tagged(3, one), "3<{a:x7879}>"},
	} {
		checkLines(t, d, rule, c.v, c.line)
	}
	for _, v := range []impl.Value{{}, num(1), parts(num(256), impl.Value{}, raw("xy"), impl.Value{}), parts(num(2), impl.Value{}, raw("xyz"), impl.Value{}), parts(num(2), impl.Value{}, raw("xy"), parts(num(256))), parts(num(2), impl.Value{}, raw("xy")), tagged(1, all.Items...)} {
		checkUnwritten(t, d, 10, v)
	}
}

func TestValueLinesOfRandomValues(t *testing.T) {
	for _, m := range madeValues(200) {
		want := []string{}
		r := m.d.Rules[m.rule]
		if r.Kind != impl.KindSequence {
			want = append(want, plainWriting(m.d, m.rule, m.v))
		} else {
			for at, kid := range r.Kids {
				want = append(want, r.Names[at]+"="+plainWriting(m.d, kid, m.v.Items[at]))
			}
		}
		checkLines(t, m.d, m.rule, m.v, want...)
	}
}

// checkNoTexts tests everything about a rule that does not exist, or one of an invalid description.
func checkNoTexts(t *testing.T, d impl.Description, rule int) {
	t.Helper()
	for _, v := range someValues() {
		checkUnwritten(t, d, rule, v)
	}
	for _, text := range []string{"", "0", "7", "!", "x", "x00", "x00000000000000000000000000000000", "[]", "[0]", "{}", "{a:0}", "{n:0}", "0<!>", "0<0>", "7<0>", "-", "?0", "()", "(0)", "(!)"} {
		if v, ok := impl.ParseValue(d, rule, text); ok || !isZero(v) {
			t.Errorf("ParseValue of the rule %d of %+v with %q = %+v, %v", rule, d, text, v, ok)
		}
	}
}

func TestTextsOutside(t *testing.T) {
	eachMissingRule(func(d impl.Description, rule int) { checkNoTexts(t, d, rule) })
}

func TestTextsOfInvalidDescriptions(t *testing.T) {
	eachInvalidRule(func(d impl.Description, rule int) { checkNoTexts(t, d, rule) })
	for _, broken := range brokenBehind() {
		checkText(t, impl.Description{Rules: broken.Rules[:11]}, 0, num(0), "0")
	}
}

func TestWritingValuesModifiesNothing(t *testing.T) {
	full := []made{{levels(t), 14, fullValue()}}
	for _, m := range append(full, madeValues(60)...) {
		d, x := guardDescription(m.d), guardValue(m.v)
		text := plainWriting(m.d, m.rule, m.v)
		for rule := -1; rule <= len(m.d.Rules); rule++ {
			if got, want := impl.FormatValue(d.d, rule, x.v), impl.FormatValue(m.d, rule, m.v); got != want {
				t.Errorf("with spare capacity, FormatValue of the rule %d with %+v = %q", rule, m.v, got)
			}
			if got, want := impl.ValueLines(d.d, rule, x.v), impl.ValueLines(m.d, rule, m.v); !slices.Equal(got, want) {
				t.Errorf("with spare capacity, ValueLines of the rule %d with %+v = %q", rule, m.v, got)
			}
			v, ok := impl.ParseValue(d.d, rule, text)
			if w, want := impl.ParseValue(m.d, rule, text); ok != want || plainText(v) != plainText(w) {
				t.Errorf("with spare capacity, ParseValue of the rule %d with %q = %+v, %v", rule, text, v, ok)
			}
		}
		d.check(t, "a function of chapter 10")
		x.check(t, "a function of chapter 10")
	}
}

func TestParsedValuesAreNewMemory(t *testing.T) {
	full := []made{{levels(t), 14, fullValue()}}
	for _, m := range append(full, madeValues(60)...) {
		text := plainWriting(m.d, m.rule, m.v)
		g := guardDescription(m.d)
		checkNewValue(t, "ParseValue", func() impl.Value {
			v, _ := impl.ParseValue(g.d, m.rule, text)
			return v
		}, func() { g.check(t, "ParseValue") }, func() {
			overwrite(g.arrays)
			overwrite(g.list)
		})
	}
}

// A part alone is changed, on every level: no other value changes.
func TestParsedValuesPartByPart(t *testing.T) {
	d := levels(t)
	other, _ := impl.ParseValue(d, 14, fullText)
	want := plainText(other)
	for at := range everyPartOf(&other) {
		v, ok := impl.ParseValue(d, 14, fullText)
		if !ok || plainText(v) != want {
			t.Fatalf("ParseValue of %q = %+v, %v", fullText, v, ok)
		}
		part := everyPartOf(&v)[at]
		part.Number += 9
		for k := range part.Bytes[:cap(part.Bytes)] {
			part.Bytes[:cap(part.Bytes)][k] ^= 0x55
		}
		for k := range part.Items[:cap(part.Items)] {
			part.Items[:cap(part.Items)][k] = impl.Value{Number: 99, Bytes: []byte("other")}
		}
		if plainText(other) != want {
			t.Fatalf("writing to the part %d of a parsed value changed another one: %+v", at, other)
		}
	}
}

func TestHexDigitsAreNewMemory(t *testing.T) {
	for _, s := range []string{"x616263", "61", "", "6", "xyz", strings.Repeat("5c", 500)} {
		for at := -1; at <= len(s)+1; at++ {
			first, next := impl.ReadHexDigits(s, at)
			second, _ := impl.ReadHexDigits(s, at)
			want := string(second)
			first = first[:cap(first)]
			for k := range first {
				first[k] ^= 0x55
			}
			if third, again := impl.ReadHexDigits(s, at); string(second) != want || string(third) != want || next != again {
				t.Fatalf("writing to a result of ReadHexDigits(%q, %d) changed another one: %q", s, at, second)
			}
		}
	}
}

func TestLinesOfValuesAreNewMemory(t *testing.T) {
	d := described(t, "n integer 1", "f fixed 2", "q sequence a:n b:f c:n", "one sequence a:q", "p checked q")
	q := parts(num(1), raw("ab"), num(3))
	for rule, v := range []impl.Value{num(7), raw("ab"), q, parts(q), parts(q), {}} {
		first, second := impl.ValueLines(d, rule, v), impl.ValueLines(d, rule, v)
		want := slices.Clone(second)
		first = first[:cap(first)]
		for at := range first {
			first[at] = "overwritten"
		}
		if !slices.Equal(second, want) || !slices.Equal(impl.ValueLines(d, rule, v), want) || !impl.EqualValues(q, parts(num(1), raw("ab"), num(3))) || d.Rules[2].Names[0] != "a" {
			t.Fatalf("writing to the lines of %+v changed others: %q", v, second)
		}
	}
}

// Texts follow from the description as it is now, not from an earlier call.
func TestTextsFollowTheDescription(t *testing.T) {
	d := described(t, "n integer 1", "f fixed 2", "k choice n 3:f 4:n", "q sequence a:k b:f", "o option q")
	v := parts(parts(tagged(3, raw("ab")), raw("cd")))
	for range 2 {
		checkText(t, d, 4, v, "?{a:3<x6162>,b:x6364}")
		checkLines(t, d, 3, v.Items[0], "a=3<x6162>", "b=x6364")
	}
	d.Rules[3].Names[1] = "c"
	checkText(t, d, 4, v, "?{a:3<x6162>,c:x6364}")
	checkLines(t, d, 3, v.Items[0], "a=3<x6162>", "c=x6364")
	checkNoText(t, d, 4, "?{a:3<x6162>,b:x6364}")
	d.Rules[4].Kind = impl.KindChecked
	checkText(t, d, 4, v, "({a:3<x6162>,c:x6364})")
	d.Rules[2].Tags[0] = 2
	checkUnwritten(t, d, 4, v)
	checkNoText(t, d, 4, "({a:3<x6162>,c:x6364})")
	v.Items[0].Items[0].Number = 2
	checkText(t, d, 4, v, "({a:2<x6162>,c:x6364})")
	d.Rules[1].Size = 65
	checkNoTexts(t, d, 4)
	checkNoTexts(t, d, 0)
}
