package catch_test

import (
	"strings"
	"testing"

	"gamp/api"
	"gamp/catch"
)

const (
	lowest  = -1 << 63
	highest = 1<<63 - 1
)

// call has the arguments of all functions.
type call struct {
	rule, other, text string
	length            int
	rank              api.Num
}

// errorOf calls a function, and fails if it returns more than an error.
func (c call) errorOf(t *testing.T, function string) api.Errno {
	t.Helper()
	var e api.Errno
	var ok bool
	var label string
	var n api.Num
	var m api.Machine
	switch function {
	case "Check":
		e = catch.Check(c.rule)
	case "Match":
		ok, e = catch.Match(c.rule, c.text)
	case "Automaton":
		m, e = catch.Automaton(c.rule)
	case "Same":
		ok, label, e = catch.Same(c.rule, c.other)
	case "First":
		label, e = catch.First(c.rule)
	case "Endless":
		ok, e = catch.Endless(c.rule)
	case "Count":
		n, e = catch.Count(c.rule, c.length)
	case "At":
		label, e = catch.At(c.rule, c.rank)
	case "Rank":
		n, e = catch.Rank(c.rule, c.text)
	}
	if e != api.OK && (ok || label != "" || n != "" || len(m.Next) > 0 || len(m.Accept) > 0) {
		t.Errorf("%s(%v) returns more than the error %d", function, c, e)
	}
	return e
}

func (c call) check(t *testing.T, want api.Errno, functions ...string) {
	t.Helper()
	for _, function := range functions {
		if e := c.errorOf(t, function); e != want {
			t.Errorf("%s(%+v): error %d, not %d", function, c, e, want)
		}
	}
}

func allFunctions() []string {
	return []string{"Check", "Match", "Automaton", "Same", "First", "Endless", "Count", "At", "Rank"}
}

// good is a call that no function refuses.
func good() call {
	return call{".*a", "a|b", "ba", 3, "1"}
}

// bad is a call in which all but the rule is refused.
func bad() call {
	return call{".*a", "(", "no", -1, "00"}
}

func TestGood(t *testing.T) {
	good().check(t, api.OK, allFunctions()...)
}

// Rules of more than 100 bytes are too long, whether they are malformed or not.
func TestErrLong(t *testing.T) {
	for _, rule := range []string{strings.Repeat("e", 101), strings.Repeat("a", 101), "a" + strings.Repeat("*", 100), strings.Repeat("(", 50) + "a" + strings.Repeat(")", 50), strings.Repeat("!", 101), strings.Repeat("(", 1_000_000), strings.Repeat("\x00", 101), strings.Repeat("a|", 51)} {
		for _, c := range []call{good(), bad()} {
			c.rule = rule
			c.check(t, api.ErrLong, allFunctions()...)
		}
	}
}

// malformed are rules that the grammar does not allow.
func malformed() []string {
	all := []string{"", "a|", "(a", "[aa]", "a&", "{a", "(a&b)", "e", "*", "|a", "a||b", "&a", "a&&b", "/a", "a//b", "a/", "!", "a!", "a!b", "!&a", "{}", "{", "}", "(", ")", "[", "]", "a)", "a}", "a]", "{a)", "(a}", "{a}*", "{a}+", "{a}?", "{a}{b}", "{a}b", "a{b}", "a|{b}", "{a}|b",
		"({a})", "(!a)", "(a/b)", "[a", "[.]", "[()]", "[a|b]", "[[a]]", "[abcda]", "[abca]", "[e]", "[A]", "[ ]", "[a b]", "[a-c]", "A", "1", " a", "a ", "a b", "a\n", "\x00", "a\x00", "\xff", "a\xff", "é", "()()|", "(|a)", "(a|)", "( )", "(())(", "+a", "a|*b", "(*a)", "a&*", "a|&b", "a/&b", "a&|b", "!*", "!!", "!a|", "!{a|}", "{!}", "{a/}", "{a}&", "^a$", "a.b,", "\\a", "a{2}",
		strings.Repeat("(", 50) + strings.Repeat(")", 49), strings.Repeat("(", 49) + strings.Repeat(")", 51), strings.Repeat("{", 50) + "a" + strings.Repeat("}", 49), strings.Repeat("!", 100), strings.Repeat("a|", 50), strings.Repeat("(", 100), strings.Repeat("{", 100), strings.Repeat("[", 100), strings.Repeat("a", 99) + "e"}
	return all
}

func TestErrForm(t *testing.T) {
	for _, rule := range malformed() {
		for _, c := range []call{good(), bad()} {
			c.rule = rule
			c.check(t, api.ErrForm, allFunctions()...)
		}
	}
}

// Rules of more than 12 atoms are too long, unless they are malformed. The letters in classes do not count, nor do empty labels.
func TestErrLongOfAtoms(t *testing.T) {
	for _, rule := range []string{"abcdabcdabcda", "............+.", strings.Repeat("[ab]", 13), strings.Repeat("[]", 13), strings.Repeat("a", 100), strings.Repeat(".", 100), strings.Repeat("a|", 49) + "a", "abcdab&[abc]/.[]|!", "aaaa&{aaaa/!bbbb}&d", "(a|b)*(c|d)+(.[abcd])?[]abcdab", strings.Repeat("[]", 50), "{aaaaaaa}/{aaaaaa}", "()aaaaaaaaaaaa()[]"} {
		want := api.ErrLong
		if parse(rule) == nil {
			want = api.ErrForm
		}
		for _, c := range []call{good(), bad()} {
			c.rule = rule
			c.check(t, want, allFunctions()...)
			c.rule = rule[:len(rule)-1] + "e"
			c.check(t, api.ErrForm, allFunctions()...)
		}
	}
	for _, rule := range []string{"abcdabcdabcd", strings.Repeat(".", 12), strings.Repeat("[abcd]", 12), strings.Repeat("[]", 12), strings.Repeat("()", 44) + "abcdabcdabcd", "aaaa&{aaaa/!bbbb}&()", "(aaaaaaaaaaaa)+*?", "{aaaaaa}/{aaaaaa}", "a|b|c|d|.|.|.|.|[a]|[b]|[c]|[]"} {
		call{rule: rule}.check(t, api.OK, "Check", "Endless", "Count")
	}
}

// Same checks its first rule wholly before the second one.
func TestErrorsOfSame(t *testing.T) {
	long, many := strings.Repeat("a", 101), strings.Repeat("a", 13)
	for _, c := range []struct {
		rule, other string
		want        api.Errno
	}{
		{long, "(", api.ErrLong}, {"(", long, api.ErrForm}, {"(", many, api.ErrForm}, {many, "(", api.ErrLong}, {"(", "(", api.ErrForm}, {"a", long, api.ErrLong}, {"a", "(", api.ErrForm}, {"a", many, api.ErrLong}, {"", "a", api.ErrForm}, {"a", "", api.ErrForm}, {long, "a", api.ErrLong}, {many, "a", api.ErrLong}, {"a", "a", api.OK}, {"a", "b", api.OK},
	} {
		call{rule: c.rule, other: c.other}.check(t, c.want, "Same")
	}
}

// Labels of more than 1000 bytes are too long, whether they are labels or not.
func TestErrorsOfLabels(t *testing.T) {
	c := good()
	for _, text := range []string{strings.Repeat("a", 1001), strings.Repeat("e", 1001), strings.Repeat("a", 1000) + "\x00", strings.Repeat("b", 100000)} {
		c.text = text
		c.check(t, api.ErrLong, "Match", "Rank")
		c.check(t, api.OK, "Check", "Automaton", "Same", "First", "Endless", "Count", "At")
	}
	for _, text := range []string{"e", "A", " ", "aa aa", "a\n", "\x00", "a\x00", "\xff", "é", ".", "()", "[a]", "a*", "`", "abcde", strings.Repeat("e", 1000), strings.Repeat("a", 999) + "e", "e" + strings.Repeat("a", 999)} {
		c.text = text
		c.check(t, api.ErrForm, "Match", "Rank")
	}
	for _, text := range []string{"", "b", "ab", strings.Repeat("a", 999) + "b", strings.Repeat("b", 1000)} {
		c.text = text
		c.check(t, api.OK, "Match")
		c.check(t, api.ErrNone, "Rank")
	}
	c.text = strings.Repeat("a", 1000)
	c.check(t, api.OK, "Match", "Rank")
}

func TestErrArgOfLengths(t *testing.T) {
	c := good()
	for _, length := range []int{-1, 101, lowest, highest, -100, 1000} {
		c.length = length
		c.check(t, api.ErrArg, "Count")
	}
	for _, length := range []int{0, 1, 99, 100} {
		c.length = length
		c.check(t, api.OK, "Count")
	}
}

// Ranks that are no valid Nums, and those that are, but that are no integers, or below 0, or too long.
func TestErrorsOfRanks(t *testing.T) {
	c := good()
	digits := strings.Repeat("9", 4000)
	one := "1" + strings.Repeat("0", 3999)
	for _, rank := range []string{"", "-", "+1", "00", "01", "-0", "-01", "1/1", "0/1", "0/2", "-0/2", "2/4", "-2/4", "3/-2", "1/0", "0/0", "1/", "/", "/2", "1/02", "1//2", "1/2/3", "1 ", " 1", "1.0", "1e3", "a", "--1", "１", "1\x00", "\xff", "1/2a", "0x1", digits + "9", "-" + digits + "9", "1/" + digits + "9", digits + "9/2", digits + "/" + digits, digits + "/3", one + "/2", "1/" + one + "0", one + "/" + one[:2000], "2/" + one, "35/49", "1000000000000000000/2000000000000000000", "0/7", digits[:100] + "/" + digits[:50]} {
		c.rank = api.Num(rank)
		c.check(t, api.ErrForm, "At")
		c.check(t, api.OK, "Check", "Match", "Automaton", "Same", "First", "Endless", "Count", "Rank")
	}
	for _, rank := range []string{"-1", "-7", "1/2", "-1/2", "3/2", "49/36", "1" + strings.Repeat("0", 40), strings.Repeat("9", 41), digits, "-" + digits, "1/" + digits, digits + "/2", digits + "/" + one, one + "/" + digits, "-" + one + "/3", "1/3", "1000000000000000000/1000000000000000001", "1000000000000000001/1000000000000000000", "2/1000000000000000001"} {
		c.rank = api.Num(rank)
		c.check(t, api.ErrArg, "At")
	}
	for _, rank := range []string{"0", "1", "10", strings.Repeat("9", 40), "1" + strings.Repeat("0", 39)} {
		c.rank = api.Num(rank)
		c.check(t, api.OK, "At")
	}
}

// The rule is checked before all else, and a rank before it is looked for.
func TestOrder(t *testing.T) {
	call{rule: "[]", rank: "1/2"}.check(t, api.ErrArg, "At")
	call{rule: "[]", rank: "2/2"}.check(t, api.ErrForm, "At")
	call{rule: "[]", text: "e"}.check(t, api.ErrForm, "Rank")
	call{rule: "[]", text: strings.Repeat("a", 1001)}.check(t, api.ErrLong, "Rank")
	call{rule: "a*", rank: "1/2"}.check(t, api.ErrArg, "At")
	call{rule: ".*a..........", length: -1, rank: "-1", text: "e"}.check(t, api.ErrRange, "Automaton")
}

func TestErrNone(t *testing.T) {
	call{rule: "[]", rank: "0"}.check(t, api.ErrNone, "First", "At", "Rank")
	call{rule: "[]", rank: "0", text: "a"}.check(t, api.ErrNone, "Rank")
	call{rule: "a&b", rank: "0"}.check(t, api.ErrNone, "First", "At")
	call{rule: "()", rank: "0"}.check(t, api.OK, "First", "At", "Rank")
	call{rule: "()", rank: "1"}.check(t, api.ErrNone, "At")
	call{rule: "a|b", rank: "1"}.check(t, api.OK, "At")
	call{rule: "a|b", rank: "2"}.check(t, api.ErrNone, "At")
	call{rule: "............", rank: "16777215"}.check(t, api.OK, "At")
	call{rule: "............", rank: "16777216"}.check(t, api.ErrNone, "At")
	call{rule: ".?.?.?.?.?.?.?.?.?.?.?.?", rank: "22369620"}.check(t, api.OK, "At")
	call{rule: ".?.?.?.?.?.?.?.?.?.?.?.?", rank: "22369621"}.check(t, api.ErrNone, "At")
	call{rule: "{.*a..........}&!{.*a..........}", rank: "0"}.check(t, api.ErrLong, "At")
	call{rule: "a?b?c?", rank: api.Num(strings.Repeat("9", 40))}.check(t, api.ErrNone, "At")
}

func TestErrRange(t *testing.T) {
	call{rule: "a*", rank: "1000"}.check(t, api.OK, "At")
	call{rule: "a*", rank: "1001"}.check(t, api.ErrRange, "At")
	call{rule: "a+", rank: "999"}.check(t, api.OK, "At")
	call{rule: "a+", rank: "1000"}.check(t, api.ErrRange, "At")
	call{rule: "(aaa)*", rank: "333"}.check(t, api.OK, "At")
	call{rule: "(aaa)*", rank: "334"}.check(t, api.ErrRange, "At")
	call{rule: "a*", rank: api.Num(strings.Repeat("9", 40))}.check(t, api.ErrRange, "At")
	call{rule: "(aaa)*&(aaaa)*&(aaaaa)*", rank: "16"}.check(t, api.OK, "At")
	call{rule: "(aaa)*&(aaaa)*&(aaaaa)*", rank: "17"}.check(t, api.ErrRange, "At")
}
