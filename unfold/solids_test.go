package unfold_test

import (
	"cmp"
	"fmt"
	"slices"
	"sync"

	"gamp/api"
)

func compareCells(c, d api.Cell) int {
	return cmp.Or(cmp.Compare(c.X, d.X), cmp.Compare(c.Y, d.Y), cmp.Compare(c.Z, d.Z))
}

// cornered moves cells so that the least coordinates are 0, and sorts them.
func cornered(cells []api.Cell) []api.Cell {
	least := cells[0]
	for _, c := range cells {
		least = api.Cell{X: min(least.X, c.X), Y: min(least.Y, c.Y), Z: min(least.Z, c.Z)}
	}
	var result []api.Cell
	for _, c := range cells {
		result = append(result, api.Cell{X: c.X - least.X, Y: c.Y - least.Y, Z: c.Z - least.Z})
	}
	slices.SortFunc(result, compareCells)
	return result
}

// shapes returns all sets of n cells that are connected, each at the corner of the grid, also those that are not solids and those that do not fit into the grid.
func shapes(n int) [][]api.Cell {
	all := [][]api.Cell{{{}}}
	for range n - 1 {
		seen := map[string]bool{}
		var next [][]api.Cell
		for _, cells := range all {
			for _, c := range cells {
				for _, v := range vectors() {
					if slices.Contains(cells, moved(c, v)) {
						continue
					}
					more := cornered(append(slices.Clone(cells), moved(c, v)))
					if key := fmt.Sprint(more); !seen[key] {
						seen[key] = true
						next = append(next, more)
					}
				}
			}
		}
		all = next
	}
	return all
}

func fits(cells []api.Cell) bool {
	for _, c := range cells {
		if c.X >= api.MaxGrid || c.Y >= api.MaxGrid || c.Z >= api.MaxGrid {
			return false
		}
	}
	return true
}

// allSolids is computed once, because it takes a while.
var allSolids = sync.OnceValue(func() [api.MaxCells + 1][]reference {
	var all [api.MaxCells + 1][]reference
	for n := range all[1:] {
		for _, cells := range shapes(n + 1) {
			if !fits(cells) {
				continue
			}
			if r := referenceOf(cells); r.isClean() {
				all[n+1] = append(all[n+1], r)
			}
		}
	}
	return all
})

// solids returns all solids of n cells, at the corner of the grid.
func solids(n int) []reference {
	return slices.Clone(allSolids()[n])
}

// someSolids returns all solids of at most 4 cells, and each so many-th one of 5 and 6.
func someSolids(step int) []reference {
	var some []reference
	for n := range api.MaxCells {
		for i, r := range solids(n + 1) {
			if n < 4 || i%step == 0 {
				some = append(some, r)
			}
		}
	}
	return append(some, referenceOf(ring()))
}

// ring returns six of the eight cells around a point: what surrounds the other two has no edge in common there, but the point.
func ring() []api.Cell {
	return []api.Cell{{X: 1}, {X: 1, Y: 1}, {Y: 1}, {Y: 1, Z: 1}, {Z: 1}, {X: 1, Z: 1}}
}

// row returns n cells in a row, in the direction of an axis.
func row(n, axis int) []api.Cell {
	var cells []api.Cell
	for i := range n {
		v := vector{}
		v[axis] = i
		cells = append(cells, moved(api.Cell{}, v))
	}
	return cells
}

// shifted returns the cells moved.
func shifted(cells []api.Cell, v vector) []api.Cell {
	var result []api.Cell
	for _, c := range cells {
		result = append(result, moved(c, v))
	}
	return result
}

// turns returns a solid in all 48 positions into which it can be turned and mirrored.
func turns(cells []api.Cell) [][]api.Cell {
	var all [][]api.Cell
	for _, axes := range [][3]int{{0, 1, 2}, {0, 2, 1}, {1, 0, 2}, {1, 2, 0}, {2, 0, 1}, {2, 1, 0}} {
		for signs := range 8 {
			var turned []api.Cell
			for _, c := range cells {
				from, to := vector{c.X, c.Y, c.Z}, vector{}
				for i, axis := range axes {
					to[i] = from[axis] * (1 - signs>>i&1*2)
				}
				turned = append(turned, moved(api.Cell{}, to))
			}
			all = append(all, cornered(turned))
		}
	}
	return all
}
