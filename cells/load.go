package cells

import (
	"cells/api"
	"cells/grid"
	"cells/text"
)

// load reads a world from a text that is not too long.
func load(from string) (*World, int, api.Errno) {
	parts, place, ok := text.Read(from)
	if !ok {
		return nil, place, api.ErrText
	}
	if parts.Shape.Endless() && parts.Rule.Births[0] {
		return nil, 0, api.ErrBirth
	}
	w := &World{rule: parts.Rule, shape: parts.Shape, age: parts.Age}
	w.grid = grid.New(parts.Shape.Width, parts.Shape.Height)
	if !w.lay(parts) {
		return nil, 0, api.ErrRoom
	}
	return w, 0, api.OK
}

// lay puts a body into a world without live cells; false, if it finds no room.
func (w *World) lay(parts text.Parts) bool {
	x := parts.Column
	y := parts.Row
	for i := 0; i < len(parts.Runs); i++ {
		run := parts.Runs[i]
		if run.Down {
			x = parts.Column
			y += run.Count
			continue
		}
		if !w.layRun(x, y, run) {
			return false
		}
		x += run.Count
	}
	return true
}

// layRun puts a run's cells, from (x, y) to the right. Live cells that have room one by one have it all together: each is asked for with those before it.
func (w *World) layRun(x int, y int, run text.Run) bool {
	if run.State == 0 {
		return true
	}
	for i := 0; i < run.Count; i++ {
		if !w.shape.Has(x+i, y) {
			continue
		}
		if !w.settle(&w.grid, x+i, y, run.State) {
			return false
		}
	}
	return true
}

// settle puts a live cell into a grid of the world's shape; false, if it finds no room there.
func (w *World) settle(g *grid.Grid, x int, y int, state int) bool {
	if !w.shape.Near(x, y) {
		return false
	}
	return g.Put(x, y, state)
}
