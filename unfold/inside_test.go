package unfold

import (
	"testing"

	"gamp/api"
)

// Only two of the frames can be that of face 0, but all are used for places; so up must be a quarter turn anticlockwise from right for each of them, seen from outside.
func TestFrames(t *testing.T) {
	for normal := range directions {
		n, right, up := point{}.to(normal), point{}.to(frames[normal][0]), point{}.to(frames[normal][1])
		var cross point
		for i := range cross {
			j, k := (i+1)%3, (i+2)%3
			cross[i] = right[j]*up[k] - right[k]*up[j]
		}
		if cross != n {
			t.Errorf("frame of %d: %v, %v", normal, right, up)
		}
	}
}

func TestOpposite(t *testing.T) {
	for d := range directions {
		if p := (point{3, 3, 3}).to(d); p.to(d.opposite()) != (point{3, 3, 3}) || p == (point{3, 3, 3}) {
			t.Errorf("the opposite of %d is %d", d, d.opposite())
		}
	}
}

func TestMotions(t *testing.T) {
	for turn := range 4 {
		p := place{api.Spot{X: 5, Y: -2}, turn}
		if p.moved(p.inverse()) != (place{}) || p.inverse().moved(p) != (place{}) {
			t.Errorf("the inverse of %v is %v", p, p.inverse())
		}
		for side := range 4 {
			if there, back := across(turn, side), across(side, turn); there.inverse() != back {
				t.Errorf("across %d and %d: %v, and back %v", turn, side, there, back)
			}
		}
	}
}

// Each solid within the limits has a spanning tree without an overlap, so that only some of the joints are open here: those of one tree that overlaps, then none, and at last all.
func TestNoTree(t *testing.T) {
	s, valid := surfaceOf([]api.Cell{{}, {X: 1}, {X: 1, Z: 1}})
	var joints []joint
	for _, j := range s.joints {
		switch j.Pair {
		case api.Pair{A: 0, B: 3}, api.Pair{A: 3, B: 10}, api.Pair{A: 10, B: 13}, api.Pair{A: 9, B: 13}, api.Pair{A: 5, B: 9}, api.Pair{A: 5, B: 8}, api.Pair{A: 4, B: 8},
			api.Pair{A: 1, B: 3}, api.Pair{A: 6, B: 11}, api.Pair{A: 0, B: 2}, api.Pair{A: 2, B: 7}, api.Pair{A: 10, B: 11}, api.Pair{A: 10, B: 12}:
			joints = append(joints, j)
		}
	}
	if !valid || len(joints) != len(s.faces)-1 {
		t.Fatal("no such tree")
	}
	if tree, found := (search{sheet: cutUp(len(s.faces)), open: joints}).least(); found || len(tree) != 0 {
		t.Errorf("found %v", tree)
	}
	if tree, found := (search{sheet: cutUp(len(s.faces))}).least(); found || len(tree) != 0 {
		t.Errorf("found %v without joints", tree)
	}
	if tree, found := (search{sheet: cutUp(len(s.faces)), open: s.joints}).least(); !found || len(tree) != len(s.faces)-1 {
		t.Errorf("found %v", tree)
	}
}

func TestDeterminant(t *testing.T) {
	rows := [][]uint64{{4, prime - 1, 0}, {prime - 1, 4, prime - 2}, {0, prime - 1, 3}}
	if d := determinant(rows); d != 37 {
		t.Errorf("determinant %d", d)
	}
	if power(3, prime-1) != 1 || power(5, 3) != 125 || power(7, 0) != 1 {
		t.Error("powers")
	}
}
