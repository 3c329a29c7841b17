package text

import (
	"cells/api"
	"cells/shape"
)

func (r *reader) shape() (shape.Shape, bool) {
	var s shape.Shape
	kind, ok := r.letter("PTKCS")
	if !ok {
		return s, false
	}
	s.Kind = kind
	ok = r.width(&s)
	if !ok || !r.take(',') {
		return s, false
	}
	ok = r.height(&s)
	return s, ok
}

// width reads the columns and what stands behind them.
func (r *reader) width(s *shape.Shape) bool {
	columns, ok := r.number(leastSide(s.Kind), api.MaxSide)
	if !ok {
		return false
	}
	s.Width = columns
	if s.Kind == shape.Klein {
		s.WidthStar = r.take('*')
		return true
	}
	if s.Kind != shape.Torus {
		return true
	}
	shift, ok := r.shift(columns)
	s.WidthShift = shift
	return ok
}

// height reads the rows and what stands behind them, as far as the columns leave it a choice.
func (r *reader) height(s *shape.Shape) bool {
	low, high := rowBounds(*s)
	rows, ok := r.number(low, high)
	if !ok {
		return false
	}
	s.Height = rows
	if s.Kind == shape.Klein && !s.WidthStar {
		s.HeightStar = r.take('*')
		return s.HeightStar
	}
	if s.Kind != shape.Torus || s.Width == 0 || s.WidthShift != 0 {
		return true
	}
	shift, ok := r.shift(rows)
	s.HeightShift = shift
	return ok
}

// leastSide is 0 for the kinds that may be endless.
func leastSide(kind byte) int {
	if kind == shape.Plane || kind == shape.Torus {
		return 0
	}
	return 1
}

// rowBounds gives the least and the greatest number of rows beside columns that are known.
func rowBounds(s shape.Shape) (int, int) {
	if s.Kind == shape.Sphere {
		return s.Width, s.Width
	}
	if s.Width == 0 || s.WidthShift != 0 {
		return 1, api.MaxSide
	}
	return leastSide(s.Kind), api.MaxSide
}

// shift reads the shift behind a side of a torus, if there is one. A side of 1 or an endless one has none to choose from.
func (r *reader) shift(side int) (int, bool) {
	if side < 2 || !r.take('+') {
		return 0, true
	}
	return r.number(1, side-1)
}
