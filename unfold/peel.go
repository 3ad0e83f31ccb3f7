package unfold

import (
	"cmp"
	"slices"
)

// search looks for the least tree that contains the chosen joints, along which the sheet is joined, and otherwise only open ones. The open joints are in order.
type search struct {
	sheet
	chosen, open []joint
}

// least returns the joints of that tree in order, if there is one without an overlap. Of the trees that are possible those with the first open joint come first, because they differ from the others in no joint before it.
func (s search) least() ([]joint, bool) {
	s.open = s.usable()
	if !s.connects(s.open) {
		return nil, false
	}
	if len(s.open) == 0 {
		return slices.SortedFunc(slices.Values(s.chosen), compareJoints), true
	}
	next, needed := s.next()
	tree, found := s.with(next).least()
	if found || needed {
		return tree, found
	}
	s.open = s.open[1:]
	return s.least()
}

func compareJoints(j, k joint) int {
	return cmp.Or(cmp.Compare(j.A, k.A), cmp.Compare(j.B, k.B))
}

// usable returns the open joints that join two patches without an overlap. Whatever else is joined later, the others never do.
func (s search) usable() []joint {
	var usable []joint
	for _, j := range s.open {
		if s.apart(j) && s.joined(j).isFlat() {
			usable = append(usable, j)
		}
	}
	return usable
}

// connects reports whether joints connect all patches.
func (s sheet) connects(joints []joint) bool {
	patches := slices.Clone(s.patches)
	for _, j := range joints {
		from, to := patches[j.A], patches[j.B]
		for i, patch := range patches {
			if patch == from {
				patches[i] = to
			}
		}
	}
	return !slices.ContainsFunc(patches, func(patch int) bool { return patch != patches[0] })
}

// next returns the index of the open joint to choose next: one that is needed to connect all patches, so that no tree is possible without it, or else the first one. Without those that are needed the search finds out very late that it has gone astray.
func (s search) next() (int, bool) {
	for i := range s.open {
		if !s.connects(slices.Concat(s.open[:i], s.open[i+1:])) {
			return i, true
		}
	}
	return 0, false
}

// with returns the search with an open joint chosen.
func (s search) with(i int) search {
	j := s.open[i]
	return search{s.joined(j), append(slices.Clone(s.chosen), j), slices.Concat(s.open[:i], s.open[i+1:])}
}
