// Package cells: cellular automata on bounded worlds: see DOC.md.
package cells

import (
	"cells/api"
	"cells/grid"
	"cells/rule"
	"cells/shape"
	"cells/text"
)

// World is a grid with its rule, its shape and its age.
type World struct {
	rule  rule.Rule
	shape shape.Shape
	age   int
	grid  grid.Grid
}

// Load reads a world; where there is none, the place tells how far the text is right (P3, P4).
func Load(text string) (*World, int, api.Errno) {
	if len(text) > api.MaxText {
		return nil, 0, api.ErrLong
	}
	return load(text)
}

// Save writes the world (P5).
func (w *World) Save() string {
	return text.Write(w.rule, w.shape, w.age, &w.grid)
}

// Get tells a cell's state (P6).
func (w *World) Get(x int, y int) int {
	column, row, found := w.shape.Find(x, y)
	if !found {
		return 0
	}
	return w.grid.Get(column, row)
}

// Put changes a cell's state (P7).
func (w *World) Put(x int, y int, state int) api.Errno {
	if !w.shape.Has(x, y) || !w.shape.Near(x, y) {
		return api.ErrCell
	}
	if !w.rule.Has(state) {
		return api.ErrState
	}
	if !w.grid.Put(x, y, state) {
		return api.ErrRoom
	}
	return api.OK
}

// Count tells how many cells are live (P8).
func (w *World) Count() int { return w.grid.Count() }

// Step lets n generations pass (P9 to P13).
func (w *World) Step(n int) api.Errno {
	// n is tested first: the sum could pass the bounds of int.
	if n < 0 || n > api.MaxSteps || w.age+n > api.MaxAge {
		return api.ErrSteps
	}
	first := w.grid
	for i := 0; i < n; i++ {
		after, room := w.next()
		if !room {
			w.grid = first
			return api.ErrRoom
		}
		w.grid = after
	}
	w.age += n
	return api.OK
}
