// Package shape: which cells a world has, and what lies beyond its edges.
package shape

import (
	"cells/api"
	"cells/floor"
)

// The kinds, by their letters in a text.
const (
	Plane  = 'P'
	Torus  = 'T'
	Klein  = 'K'
	Cross  = 'C'
	Sphere = 'S'
)

// Shape is a kind with its sides (0: endless) and what stands behind them in a text: a torus's shift (0: none) or a Klein bottle's star.
type Shape struct {
	Kind        byte
	Width       int
	Height      int
	WidthShift  int
	HeightShift int
	WidthStar   bool
	HeightStar  bool
}

// Endless tells whether one of the sides is endless.
func (s Shape) Endless() bool {
	return s.Width == 0 || s.Height == 0
}

// Has tells whether (x, y) itself is a cell; nothing folds here.
func (s Shape) Has(x int, y int) bool {
	return onSide(x, s.Width) && onSide(y, s.Height)
}

func onSide(at int, side int) bool {
	return side == 0 || (at >= 0 && at < side)
}

// Near tells whether (x, y) is no farther out along an endless side than a live cell may be.
func (s Shape) Near(x int, y int) bool {
	return nearOn(x, s.Width) && nearOn(y, s.Height)
}

func nearOn(at int, side int) bool {
	return side != 0 || (at >= -api.MaxAt && at <= api.MaxAt)
}

// Find gives the cell that is asked for by (x, y), and whether there is one.
func (s Shape) Find(x int, y int) (int, int, bool) {
	if s.folds() {
		column, row := s.fold(x, y)
		return column, row, true
	}
	return x, y, s.Has(x, y)
}

// Neighbour gives the cell that (x, y) is for a cell beside it, and whether there is one. On a sphere there are more of them than Find knows, as only neighbours look around its edges.
func (s Shape) Neighbour(x int, y int) (int, int, bool) {
	if s.Kind == Sphere && !s.Has(x, y) {
		return s.aroundEdge(x, y)
	}
	return s.Find(x, y)
}

// aroundEdge gives the cell of a sphere that is named for (x, y) beyond its edge. Column meets row there: with the two changed for one another, what is beyond the edge lies one step out from the cell that is named.
func (s Shape) aroundEdge(x int, y int) (int, int, bool) {
	if x < -1 || x > s.Width || y < -1 || y > s.Height {
		return 0, 0, false
	}
	column := ontoSide(y, s.Width)
	row := ontoSide(x, s.Height)
	return column, row, true
}

// ontoSide brings what is beyond an end of a side back to that end.
func ontoSide(at int, side int) int {
	if at < 0 {
		return 0
	}
	if at >= side {
		return side - 1
	}
	return at
}

func (s Shape) folds() bool {
	return s.Kind == Torus || s.Kind == Klein || s.Kind == Cross
}

// fold gives the cell to which (x, y) folds. Shifts and turns do not meet: a torus has no turns, the other kinds have no shift.
func (s Shape) fold(x int, y int) (int, int) {
	a, column := split(x, s.Width)
	b, row := split(y, s.Height)
	turnsColumn := s.WidthStar || s.Kind == Cross
	turnsRow := s.HeightStar || s.Kind == Cross
	if turnsColumn && b%2 != 0 {
		column = s.Width - 1 - column
	}
	if turnsRow && a%2 != 0 {
		row = s.Height - 1 - row
	}
	column = shifted(column, b, s.WidthShift, s.Width)
	row = shifted(row, a, s.HeightShift, s.Height)
	return column, row
}

// split gives how many whole sides lie before at, and how far at is into its own.
func split(at int, side int) (int, int) {
	if side == 0 {
		return 0, at
	}
	return floor.Div(at, side), floor.Mod(at, side)
}

// shifted moves at back by the shift, once for each of the laps.
func shifted(at int, laps int, shift int, side int) int {
	if shift == 0 {
		return at
	}
	// laps times shift could pass the bounds of int; the rest of laps moves at as far.
	back := floor.Mod(laps, side) * shift
	return floor.Mod(at-back, side)
}
