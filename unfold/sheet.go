package unfold

import (
	"slices"

	"gamp/api"
)

// place says on which spot a face lies, and by how many quarter turns anticlockwise it lies turned: side i then is in the direction i + turn of the plane, where 0 to 3 are right, up, left and down. It also is the motion that takes a face there from where it lies on (0, 0), not turned.
type place struct {
	spot api.Spot
	turn int
}

// moved returns the place after a motion.
func (p place) moved(motion place) place {
	spot := turned(p.spot, motion.turn)
	return place{api.Spot{X: spot.X + motion.spot.X, Y: spot.Y + motion.spot.Y}, (p.turn + motion.turn) % 4}
}

func (p place) inverse() place {
	back := (4 - p.turn) % 4
	return place{turned(api.Spot{X: -p.spot.X, Y: -p.spot.Y}, back), back}
}

// turned turns a spot around (0, 0) by quarter turns anticlockwise.
func turned(spot api.Spot, quarters int) api.Spot {
	for range quarters {
		spot = api.Spot{X: -spot.Y, Y: spot.X}
	}
	return spot
}

// across returns the place of a face whose side is joined to a side of the face on (0, 0). The two sides then are in opposite directions, for all faces are seen from outside.
func across(side, sideThere int) place {
	return place{turned(api.Spot{X: 1}, side), (side + 2 + 4 - sideThere) % 4}
}

// sheet is a surface that is cut into patches, each of them laid flat with its least face on (0, 0), not turned.
type sheet struct {
	patches []int // of each face the least face of its patch
	places  []place
}

// cutUp returns a sheet of which each face is a patch.
func cutUp(faces int) sheet {
	s := sheet{places: make([]place, faces)}
	for i := range faces {
		s.patches = append(s.patches, i)
	}
	return s
}

// apart reports whether the faces of a joint are in different patches.
func (s sheet) apart(j joint) bool {
	return s.patches[j.A] != s.patches[j.B]
}

// joined returns the sheet with two patches joined at a joint.
func (s sheet) joined(j joint) sheet {
	stays, moves := s.patches[j.A], s.patches[j.B]
	motion := s.places[j.B].inverse().moved(across(j.sideA, j.sideB)).moved(s.places[j.A])
	if stays > moves {
		stays, moves = moves, stays
		motion = motion.inverse()
	}
	next := sheet{slices.Clone(s.patches), slices.Clone(s.places)}
	for i, patch := range s.patches {
		if patch == moves {
			next.patches[i] = stays
			next.places[i] = s.places[i].moved(motion)
		}
	}
	return next
}

// overlap returns the first two faces of one patch that overlap, if there are any.
func (s sheet) overlap() (int, int, bool) {
	for i, p := range s.places {
		for j := i + 1; j < len(s.places); j++ {
			if s.patches[i] == s.patches[j] && p.spot == s.places[j].spot {
				return i, j, true
			}
		}
	}
	return 0, 0, false
}

func (s sheet) isFlat() bool {
	_, _, found := s.overlap()
	return !found
}
