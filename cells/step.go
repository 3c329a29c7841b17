package cells

import "cells/grid"

// next gives the cells of the next generation. They go into a grid of their own, as all change at once.
func (w *World) next() grid.Grid {
	after := grid.New(w.shape.Width, w.shape.Height)
	for y := 0; y < w.shape.Height; y++ {
		for x := 0; x < w.shape.Width; x++ {
			ones := w.onesAround(x, y)
			before := w.grid.Get(x, y)
			state := w.rule.Next(before, ones)
			after.Put(x, y, state)
		}
	}
	return after
}

// onesAround tells how many neighbours of the cell (x, y) have the state 1.
func (w *World) onesAround(x int, y int) int {
	ones := 0
	for dy := -1; dy <= 1; dy++ {
		for dx := -1; dx <= 1; dx++ {
			if !w.rule.Near(dx, dy) {
				continue
			}
			state := w.Get(x+dx, y+dy)
			if state == 1 {
				ones++
			}
		}
	}
	return ones
}
