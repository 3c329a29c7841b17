package cells

import "cells/grid"

// next gives the cells of the next generation; false, if they find no room. They go into a grid of their own, as all change at once.
func (w *World) next() (grid.Grid, bool) {
	after := grid.New(w.shape.Width, w.shape.Height)
	area := w.area()
	for y := area.Top; y <= area.Bottom; y++ {
		for x := area.Left; x <= area.Right; x++ {
			ones := w.onesAround(x, y)
			before := w.grid.Get(x, y)
			state := w.rule.Next(before, ones)
			// A dead cell needs no room, and a new grid has it already.
			if state == 0 {
				continue
			}
			if !w.settle(&after, x, y, state) {
				return after, false
			}
		}
	}
	return after, true
}

// area gives the cells that may be live in the next generation: the whole of a side, but of an endless one just the part from a cell before the first live one to a cell behind the last. Farther out nothing is born: where a side is endless, 0 is no birth. So, too, the area has no cell there while nothing lives.
func (w *World) area() grid.Box {
	area := grid.Box{Right: w.shape.Width - 1, Bottom: w.shape.Height - 1}
	live := w.grid.Live()
	if live.Empty {
		return area
	}
	if w.shape.Width == 0 {
		area.Left = live.Left - 1
		area.Right = live.Right + 1
	}
	if w.shape.Height == 0 {
		area.Top = live.Top - 1
		area.Bottom = live.Bottom + 1
	}
	return area
}

// onesAround tells how many neighbours of the cell (x, y) have the state 1.
func (w *World) onesAround(x int, y int) int {
	ones := 0
	for dy := -1; dy <= 1; dy++ {
		for dx := -1; dx <= 1; dx++ {
			if !w.rule.Near(dx, dy) {
				continue
			}
			if w.isOne(x+dx, y+dy) {
				ones++
			}
		}
	}
	return ones
}

// isOne tells whether the neighbour at (x, y) is a cell of state 1.
func (w *World) isOne(x int, y int) bool {
	column, row, found := w.shape.Neighbour(x, y)
	return found && w.grid.Get(column, row) == 1
}
