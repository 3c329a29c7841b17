// Package grid: the states of a world's cells.
package grid

import (
	"cells/api"
	"cells/floor"
)

// Grid knows the states of the cells in a window; all cells outside it are dead. Along a bounded side the window is the side itself. Along an endless one it is MaxRoom long and moves to where the live cells are.
//
// A cell's slot follows from its column and row modulo the window's sides alone. So a window that moves takes the cells with it that stay inside, and the slots of those that come in are dead if those that go out are.
type Grid struct {
	width  int
	height int
	left   int
	top    int
	states [api.MaxRoom * api.MaxSide]int
}

// Box is the least rectangle with all live cells in it; where it is empty its edges mean nothing.
type Box struct {
	Empty  bool
	Left   int
	Top    int
	Right  int
	Bottom int
}

// New gives a grid of dead cells for a shape with these sides (0: endless).
func New(width int, height int) Grid {
	return Grid{width: width, height: height}
}

func span(side int) int {
	if side == 0 {
		return api.MaxRoom
	}
	return side
}

// slot tells where the state of (x, y) is kept; -1 outside the window.
func (g *Grid) slot(x int, y int) int {
	columns := span(g.width)
	rows := span(g.height)
	// Compared without taking left or top away: x and y may be any numbers.
	if x < g.left || x >= g.left+columns || y < g.top || y >= g.top+rows {
		return -1
	}
	at := floor.Mod(y, rows)*columns + floor.Mod(x, columns)
	if at >= len(g.states) {
		return -1
	}
	return at
}

// Get tells the state of the cell (x, y).
func (g *Grid) Get(x int, y int) int {
	at := g.slot(x, y)
	if at < 0 {
		return 0
	}
	return g.states[at]
}

// Put gives the cell (x, y) its state, unless there would be no room for the live cells: then it tells false and changes nothing.
func (g *Grid) Put(x int, y int, state int) bool {
	at := g.slot(x, y)
	if at < 0 && state == 0 {
		return true
	}
	if at < 0 {
		g.reach(x, y)
		at = g.slot(x, y)
	}
	if at < 0 {
		return false
	}
	g.states[at] = state
	return true
}

// reach moves the window along its endless side so that it begins with the first of the live cells and (x, y), if it can hold them all.
func (g *Grid) reach(x int, y int) {
	box := g.Live()
	box.add(x, y)
	if g.width == 0 && box.Right-box.Left < api.MaxRoom {
		g.left = box.Left
	}
	if g.height == 0 && box.Bottom-box.Top < api.MaxRoom {
		g.top = box.Top
	}
}

// Live gives the box of the live cells.
func (g *Grid) Live() Box {
	box := Box{Empty: true}
	for y := g.top; y < g.top+span(g.height); y++ {
		for x := g.left; x < g.left+span(g.width); x++ {
			state := g.Get(x, y)
			if state != 0 {
				box.add(x, y)
			}
		}
	}
	return box
}

// add makes the box great enough for (x, y).
func (b *Box) add(x int, y int) {
	if b.Empty {
		b.Empty = false
		b.Left = x
		b.Right = x
		b.Top = y
		b.Bottom = y
	}
	if x < b.Left {
		b.Left = x
	}
	if x > b.Right {
		b.Right = x
	}
	if y < b.Top {
		b.Top = y
	}
	if y > b.Bottom {
		b.Bottom = y
	}
}

// Count tells how many cells are live.
func (g *Grid) Count() int {
	count := 0
	for i := 0; i < len(g.states); i++ {
		if g.states[i] != 0 {
			count++
		}
	}
	return count
}
