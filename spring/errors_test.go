package spring_test

import (
	"slices"
	"strings"
	"testing"

	"gamp/api"
	"gamp/spring"
)

const (
	least = -1 << 63
	most  = 1<<63 - 1
)

// call has the arguments of all functions.
type call struct {
	n          int
	springs    []api.Spring
	a, b, node int
	forces     []api.Num
	flow       []api.Num
}

// errorOf calls a function, and fails if it returns more than an error.
func (c call) errorOf(t *testing.T, function string) api.Errno {
	t.Helper()
	var e api.Errno
	var zero bool
	var text api.Num
	var list []api.Num
	switch function {
	case "Trees":
		text, e = spring.Trees(c.n, c.springs)
		zero = text == ""
	case "Move":
		list, e = spring.Move(c.n, c.springs, c.forces)
		zero = len(list) == 0
	case "Between":
		text, e = spring.Between(c.n, c.springs, c.a, c.b)
		zero = text == ""
	case "Flow":
		list, e = spring.Flow(c.n, c.springs, c.a, c.b)
		zero = len(list) == 0
	case "Carries":
		zero, e = spring.Carries(c.n, c.springs, c.a, c.b, c.flow)
		zero = !zero
	case "Energy":
		text, e = spring.Energy(c.n, c.springs, c.flow)
		zero = text == ""
	case "Drop":
		var l []api.Spring
		l, e = spring.Drop(c.n, c.springs, c.node)
		zero = len(l) == 0
	}
	if e != api.OK && !zero {
		t.Errorf("%s(%v) returns more than the error %d", function, c, e)
	}
	return e
}

func (c call) check(t *testing.T, want api.Errno, functions ...string) {
	t.Helper()
	for _, function := range functions {
		if e := c.errorOf(t, function); e != want {
			t.Errorf("%s(%v): error %d, not %d", function, c, e, want)
		}
	}
}

func allFunctions() []string {
	return []string{"Trees", "Move", "Between", "Flow", "Carries", "Energy", "Drop"}
}

// good is a call that no function refuses.
func good() call {
	return call{3, springsOf("0-1:2 1-2:2 0-1:1/3"), 0, 2, 1, []api.Num{"-1", "0", "1"}, []api.Num{"1", "1", "0"}}
}

func invalidNums() []api.Num {
	return []api.Num{"", "-", "/", "1/", "/2", "-/2", "+1", "01", "-01", "00", "000", "-0", "0/2", "-0/2", "0/1", "1/1", "3/1", "-3/1", "2/4", "-2/4", "6/3",
		"35/14", "1/0", "0/0", "1/00", "1/-2", "--1", "1//2", "1/2/3", " 1", "1 ", "1.5", "1e3", "0x1", "1_000", ":", "1:", "1/:", "a", "1/b", "1/02", "01/2", "1/2\n", "\x00", "1\x00",
		"\xff", "\u0663", "\u00bd", "1,5", api.Num("1" + strings.Repeat("0", 4000)), api.Num("-1" + strings.Repeat("0", 4000)),
		api.Num("1/1" + strings.Repeat("0", 4000)), api.Num(strings.Repeat("0", 4001)), api.Num(strings.Repeat("7", 100000)),
		api.Num(strings.Repeat("6", 3999) + "/" + strings.Repeat("3", 4000))}
}

func TestGood(t *testing.T) {
	good().check(t, api.OK, allFunctions()...)
}

// A Num that is not valid is refused, wherever it is, and before all that is wrong besides.
func TestErrForm(t *testing.T) {
	for _, num := range invalidNums() {
		for i := range 3 {
			c := good()
			c.springs[i].K = num
			c.check(t, api.ErrForm, allFunctions()...)
			c = good()
			c.forces[i], c.flow[i] = num, num
			c.check(t, api.ErrForm, "Move", "Carries", "Energy")
		}
	}
	bad := []func(*call){
		func(c *call) { c.n = 1 },
		func(c *call) { c.n = most },
		func(c *call) { c.a, c.b, c.node = -1, -1, -1 },
		func(c *call) { c.springs[0].A = 7 },
		func(c *call) { c.springs[0].K = "0" },
		func(c *call) { c.springs[0].K = "-1/2" },
		func(c *call) { c.springs[0].K = "123456789012345678901" },
		func(c *call) { c.springs = c.springs[:1] },
		func(c *call) { c.springs = slices.Repeat(c.springs, 30) },
	}
	for _, spoil := range bad {
		c := good()
		spoil(&c)
		c.springs = append(c.springs, api.Spring{A: 0, B: 1, K: "2/2"})
		c.check(t, api.ErrForm, allFunctions()...)
		c = good()
		spoil(&c)
		c.forces, c.flow = append(c.forces, "1/1"), append(c.flow, "1/1")
		c.check(t, api.ErrForm, "Move", "Carries", "Energy")
	}
}

// A network that is not valid is refused, also if it is not connected.
func TestErrArgOfNetworks(t *testing.T) {
	for _, n := range []int{least, -1, 0, 1, 11, 12, most} {
		c := good()
		c.n = n
		c.check(t, api.ErrArg, allFunctions()...)
		c.springs, c.flow, c.forces = nil, nil, nil
		c.check(t, api.ErrArg, allFunctions()...)
	}
	for _, ends := range [][2]int{{0, 0}, {2, 2}, {0, 3}, {3, 0}, {-1, 0}, {0, -1}, {3, 4}, {3, 3}, {least, most}, {most, 1}, {1, least}} {
		for i := range 3 {
			c := good()
			c.springs[i].A, c.springs[i].B = ends[0], ends[1]
			c.check(t, api.ErrArg, allFunctions()...)
			c.springs[i].K = "0"
			c.check(t, api.ErrArg, allFunctions()...)
		}
	}
	for _, k := range []api.Num{"0", "-1", "-1/2", "-2/3", "100000000000000000000", "1/100000000000000000000", "123456789012345678901/2",
		"99999999999999999999/100000000000000000000", api.Num(strings.Repeat("9", 4000)), api.Num("1/" + strings.Repeat("9", 4000)), "-100000000000000000000"} {
		for i := range 3 {
			c := good()
			c.springs[i].K = k
			c.check(t, api.ErrArg, allFunctions()...)
		}
	}
	c := good()
	c.springs = append(slices.Repeat(springsOf("0-1:1"), 40), springsOf("1-2:1")...)
	c.flow = slices.Repeat([]api.Num{"0"}, 41)
	c.check(t, api.ErrArg, allFunctions()...)
}

func TestErrArgOfOtherArguments(t *testing.T) {
	for _, ends := range [][2]int{{0, 0}, {2, 2}, {0, 3}, {3, 0}, {-1, 0}, {0, -1}, {3, 3}, {-1, -1}, {least, 0}, {0, most}} {
		c := good()
		c.a, c.b = ends[0], ends[1]
		c.check(t, api.ErrArg, "Between", "Flow", "Carries")
		c.springs = c.springs[:1]
		c.flow = c.flow[:1]
		c.check(t, api.ErrArg, "Between", "Flow", "Carries")
	}
	for _, nums := range [][]api.Num{nil, {}, {"0"}, {"0", "0"}, {"0", "0", "0", "0"}, {"1", "2", "3", "4", "5", "6"}} {
		c := good()
		c.forces, c.flow = nums, nums
		c.check(t, api.ErrArg, "Move", "Carries", "Energy")
		c.springs = springsOf("0-1:1 0-1:1 1-0:1") // not connected
		c.check(t, api.ErrArg, "Move", "Carries", "Energy")
	}
	for _, node := range []int{least, -1, 3, 4, most} {
		c := good()
		c.node = node
		c.check(t, api.ErrArg, "Drop")
	}
	for node := range 2 {
		c := call{n: 2, springs: springsOf("0-1:1"), node: node}
		c.check(t, api.ErrArg, "Drop")
	}
}

func TestErrNone(t *testing.T) {
	for _, w := range looseNetworks() {
		c := call{n: w.n, springs: w.springs, a: 0, b: 1, flow: slices.Repeat([]api.Num{"0"}, len(w.springs))}
		c.forces = slices.Repeat([]api.Num{"0"}, w.n)
		c.check(t, api.ErrNone, "Move", "Between", "Flow")
		c.check(t, api.OK, "Trees", "Carries", "Energy")
		c.forces = w.load(0, 1) // also where a path leads from 0 to 1
		c.check(t, api.ErrNone, "Move")
	}
	for _, forces := range [][]api.Num{{"1", "0", "1"}, {"0", "0", "1"}, {"1", "0", "0"}, {"-1", "1/2", "1/3"}, {"1/2", "1/3", "1/6"}, {"-1", "-1", "-1"},
		{"1", "0", api.Num("-1/1" + strings.Repeat("0", 3999))}} {
		c := good()
		c.forces = forces
		c.check(t, api.ErrNone, "Move")
	}
}
