package grid

import (
	"math"
	"testing"

	"cells/api"
)

func TestBounded(t *testing.T) {
	g := New(3, 2)
	if !g.Live().Empty || g.Count() != 0 {
		t.Fatal("a new grid has live cells")
	}
	if !g.Put(2, 1, 4) || g.Get(2, 1) != 4 || g.Count() != 1 {
		t.Error("a cell does not keep its state")
	}
	for _, at := range [][2]int{{-1, 0}, {3, 0}, {0, -1}, {0, 2}, {math.MinInt, 0}, {0, math.MaxInt}} {
		if g.Get(at[0], at[1]) != 0 {
			t.Errorf("%v: not dead", at)
		}
		if g.Put(at[0], at[1], 1) {
			t.Errorf("%v: is given a state", at)
		}
	}
	if box := g.Live(); box != (Box{Left: 2, Top: 1, Right: 2, Bottom: 1}) {
		t.Errorf("box: %v", box)
	}
}

// The window wanders over the whole of an endless side, there and back, and takes what is live with it.
func TestWindow(t *testing.T) {
	for _, sides := range [][2]int{{0, 3}, {3, 0}} {
		g := New(sides[0], sides[1])
		put := func(at int, state int) bool {
			if sides[0] == 0 {
				return g.Put(at, 2, state)
			}
			return g.Put(2, at, state)
		}
		get := func(at int) int {
			if sides[0] == 0 {
				return g.Get(at, 2)
			}
			return g.Get(2, at)
		}
		for _, way := range []int{1, -1} {
			for at := -api.MaxAt * way; at != (api.MaxAt-api.MaxRoom)*way; at += way {
				far := at + (api.MaxRoom-1)*way
				if !put(at, 1) || !put(far, 2) || put(far+way, 1) {
					t.Fatalf("%v, way %d, at %d: no room where there is, or room where there is none", sides, way, at)
				}
				if get(at) != 1 || get(far) != 2 || get(far+way) != 0 || g.Count() != 2 {
					t.Fatalf("%v, way %d, at %d: a state is lost", sides, way, at)
				}
				if !put(at, 0) || !put(at-way, 0) || !put(far, 0) || g.Count() != 0 {
					t.Fatalf("%v, way %d, at %d: a cell does not die", sides, way, at)
				}
			}
		}
	}
}
