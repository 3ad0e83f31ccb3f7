package maker

import (
	"gamp/api"
	"gamp/unfold"
)

func (m *Maker) addCube(in input) (string, api.Errno) {
	c := api.Cell{X: in.numbers[0], Y: in.numbers[1], Z: in.numbers[2]}
	return "", add(&m.solid, c, api.MaxCells)
}

func (m *Maker) peel(input) (string, api.Errno) {
	tree, e := unfold.Peel(m.solid)
	if e != api.OK {
		return "", e
	}
	spots, e := unfold.Lay(m.solid, tree)
	var joints [][]int
	for _, j := range tree {
		joints = append(joints, []int{j.A, j.B})
	}
	var places []int
	for _, s := range spots {
		places = append(places, s.X, s.Y)
	}
	return rows("joint", joints) + numbers("spots", places...), e
}
