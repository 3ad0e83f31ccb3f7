package fold

import (
	"iter"
	"slices"
)

// crease joins two segments at a position.
type crease struct {
	first, second int
	at            int
}

// cloth is what strips and vertices that close have in common once they are folded: each segment reaches from one position to another one, and creases join segments.
type cloth struct {
	low, high []int
	creases   []crease
}

// unplaced is the layer of a segment that has none yet: lower than all layers.
const unplaced = -1

func clothOfStrip(lengths []int) cloth {
	c, _ := lay(lengths)
	return c
}

// clothOfVertex also reports whether the vertex closes; only then the cloth means something.
func clothOfVertex(angles []int) (cloth, bool) {
	c, end := lay(angles)
	if len(angles)%2 != 0 || end != 0 {
		return cloth{}, false
	}
	c.creases = slices.Insert(c.creases, 0, crease{len(angles) - 1, 0, 0})
	return c, true
}

// lay lays the segments to and fro from the position 0 on, and returns the position where they end, too.
func lay(lengths []int) (cloth, int) {
	var c cloth
	at := 0
	for i, length := range lengths {
		from := at
		if i%2 == 0 {
			at += length
		} else {
			at -= length
		}
		c.low = append(c.low, min(from, at))
		c.high = append(c.high, max(from, at))
		if i > 0 {
			c.creases = append(c.creases, crease{i - 1, i, from})
		}
	}
	return c, at
}

// beside reports whether the segments of two creases extend from the same position to the same side: an even segment begins at its lower end, an odd one at its upper end.
func (f crease) beside(g crease) bool {
	return f.at == g.at && f.second%2 == g.second%2
}

// fits reports whether a segment can be the next layer above those that are placed, which do not cross each other. All that are not placed will lie above it.
func (c cloth) fits(layer []int, segment int) bool {
	for _, f := range c.creases {
		open := (layer[f.first] == unplaced) != (layer[f.second] == unplaced)
		if !open {
			continue
		}
		if c.low[segment] < f.at && f.at < c.high[segment] {
			return false
		}
		if (segment == f.first || segment == f.second) && c.crossed(layer, f) {
			return false
		}
	}
	return true
}

// crossed reports whether a crease of which one segment is placed would cross another crease if its other segment came next: one that began above the first segment and is still open.
func (c cloth) crossed(layer []int, f crease) bool {
	bottom := max(layer[f.first], layer[f.second])
	for _, g := range c.creases {
		if g.beside(f) && (layer[g.first] > bottom) != (layer[g.second] > bottom) {
			return true
		}
	}
	return false
}

// foldedBy reports whether an order, which is a permutation of the segments, folds the cloth.
func (c cloth) foldedBy(order []int) bool {
	layer := c.noLayers()
	for i, segment := range order {
		if !c.fits(layer, segment) {
			return false
		}
		layer[segment] = i
	}
	return true
}

func (c cloth) noLayers() []int {
	return slices.Repeat([]int{unplaced}, len(c.low))
}

// orders yields all orders that fold the cloth, from the least one on, each in memory of its own.
func (c cloth) orders() iter.Seq[[]int] {
	return func(yield func([]int) bool) {
		layer := c.noLayers()
		var order []int
		var place func() bool
		place = func() bool {
			if len(order) == len(layer) {
				return yield(slices.Clone(order))
			}
			for segment := range layer {
				if layer[segment] != unplaced || !c.fits(layer, segment) {
					continue
				}
				layer[segment] = len(order)
				order = append(order, segment)
				wanted := place()
				order = order[:len(order)-1]
				layer[segment] = unplaced
				if !wanted {
					return false
				}
			}
			return true
		}
		place()
	}
}

// letters returns the creases of an order that folds the cloth. Odd segments lie with the wrong side of the cloth upwards, which exchanges above and below.
func (c cloth) letters(order []int) string {
	layer := c.noLayers()
	for i, segment := range order {
		layer[segment] = i
	}
	letters := make([]byte, 0, len(c.creases))
	for _, f := range c.creases {
		even, above := f.first%2 == 0, layer[f.second] > layer[f.first]
		if even == above {
			letters = append(letters, 'V')
		} else {
			letters = append(letters, 'M')
		}
	}
	return string(letters)
}
