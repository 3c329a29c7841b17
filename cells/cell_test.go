package cells_test

import (
	"math"
	"math/rand"
	"testing"

	"cells/api"
	"cells/cells"
)

// farNumbers are those at which a sum or a product may pass the bounds of int.
var farNumbers = []int{
	math.MinInt, math.MinInt + 1, math.MinInt + 2, math.MinInt + 12, math.MinInt / 2, math.MinInt32, -1 << 30,
	-10001, -10000, -9999, 9999, 10000, 10001,
	1 << 30, math.MaxInt32, math.MaxInt / 11, math.MaxInt / 2, math.MaxInt - 12, math.MaxInt - 1, math.MaxInt,
}

// fill gives a world with a state in every cell (of an endless side, in some), all different from their neighbours.
func fill(t *testing.T, f form) (*cells.World, *model) {
	t.Helper()
	w, m := fresh(t, f, 9)
	for y := -3; y <= 12; y++ {
		for x := -3; x <= 12; x++ {
			state := (x*2+y*3+300)%8 + 1
			if got, want := w.Put(x, y, state), m.put(x, y, state); got != want {
				t.Fatalf("%v: Put(%d, %d, %d): %d, want %d", f, x, y, state, got, want)
			}
		}
	}
	return w, m
}

func TestP6AllShapes(t *testing.T) {
	for _, f := range allForms() {
		w, m := fill(t, f)
		check := func(x int, y int) {
			if got, want := w.Get(x, y), m.get(x, y); got != want {
				t.Fatalf("%v: Get(%d, %d): %d, want %d", f, x, y, got, want)
			}
		}
		for y := -2*f.h - 3; y <= 3*f.h+3; y += 1 + f.h/5 {
			for x := -2*f.w - 3; x <= 3*f.w+3; x += 1 + f.w/5 {
				check(x, y)
			}
		}
		for _, far := range farNumbers {
			for near := -1; near <= 1; near++ {
				check(far, near)
				check(near, far)
			}
			check(far, far)
			check(far, math.MinInt)
			check(math.MaxInt, far)
		}
	}
}

func TestP6Get(t *testing.T) {
	for _, c := range []struct {
		form string
		want [][3]int
	}{
		{"T3+1,2", [][3]int{{0, 2, 3}, {1, 2, 1}, {2, 2, 2}, {0, -1, 5}}},
		{"T3,2+1", [][3]int{{3, 0, 4}, {3, 1, 1}, {-1, 0, 6}, {6, 0, 1}}},
		{"K3*,2", [][3]int{{0, 2, 3}, {1, 2, 2}, {2, 3, 4}, {0, -1, 6}}},
		{"K3,2*", [][3]int{{3, 0, 4}, {-1, 0, 6}, {6, 0, 1}, {0, 2, 1}}},
		{"C3,2", [][3]int{{3, 0, 4}, {0, 2, 3}, {3, 2, 6}, {-1, -1, 1}}},
		{"T3,2", [][3]int{{3, 0, 1}, {-4, -1, 6}, {7, 5, 5}}},
		{"P3,2", [][3]int{{0, 0, 1}, {2, 1, 6}, {3, 0, 0}, {0, 2, 0}, {-1, 0, 0}, {0, -1, 0}}},
		{"P0,2", [][3]int{{2, 1, 6}, {3, 0, 0}, {0, 2, 0}, {-1, 0, 0}, {0, -1, 0}}},
		{"T0,2", [][3]int{{2, 1, 6}, {2, 3, 6}, {2, -1, 6}, {3, 0, 0}, {-1, 0, 0}}},
		{"T3,0", [][3]int{{2, 1, 6}, {5, 1, 6}, {-1, 1, 6}, {0, 2, 0}, {0, -1, 0}}},
	} {
		w := mustLoad(t, "MB/S/9 "+c.form+" 0 0,0 ABC$DEF!")
		for _, g := range c.want {
			if got := w.Get(g[0], g[1]); got != g[2] {
				t.Errorf("%s: Get(%d, %d): %d, want %d", c.form, g[0], g[1], got, g[2])
			}
		}
	}
	w := mustLoad(t, "MB/S/9 S2,2 0 0,0 AB$DE!")
	for _, at := range [][2]int{{-1, 0}, {0, -1}, {2, 0}, {0, 2}, {-1, -1}, {2, 2}} {
		if got := w.Get(at[0], at[1]); got != 0 {
			t.Errorf("sphere: Get(%d, %d): %d, want 0", at[0], at[1], got)
		}
	}
}

func TestP7Put(t *testing.T) {
	for _, c := range []struct {
		form  string
		calls [][4]int // column, row, state, answer
		save  string
	}{
		{"T3,2", [][4]int{{0, 0, 1, 0}, {2, 1, 3, 0}, {2, 1, 4, 6}, {2, 1, -1, 6}, {3, 0, 1, 5}, {3, 0, 4, 5}, {-1, 0, 0, 5}, {0, 2, 1, 5}, {0, -1, 1, 5}}, "0,0 A$2.C!"},
		{"S2,2", [][4]int{{-1, 0, 1, 5}, {0, 2, 1, 5}, {1, 1, 2, 0}}, "1,1 B!"},
		{"P2,0", [][4]int{{0, 9999, 1, 0}, {0, 10000, 0, 5}, {0, -10000, 1, 5}, {1, 9936, 2, 0}, {1, 9935, 1, 4}, {1, 9935, 9, 6}, {1, 9935, 0, 0}, {2, 9935, 1, 5}}, "0,9936 .B63$A!"},
		{"T0,2", [][4]int{{-9999, 0, 1, 0}, {-10000, 0, 1, 5}, {-9936, 1, 1, 0}, {-9935, 1, 1, 4}, {9999, 1, 1, 4}, {9999, 1, 0, 0}, {0, 2, 1, 5}, {-9999, 0, 0, 0}, {-9935, 1, 1, 0}}, "-9936,1 2A!"},
		// A live cell that dies makes room on either side.
		{"P0,1", [][4]int{{0, 0, 1, 0}, {63, 0, 1, 0}, {64, 0, 1, 4}, {-1, 0, 1, 4}, {63, 0, 0, 0}, {-63, 0, 1, 0}, {1, 0, 1, 4}, {0, 0, 3, 0}}, "-63,0 A62.C!"},
	} {
		w := mustLoad(t, "MB/S/4 "+c.form+" 8 0,0 !")
		for _, p := range c.calls {
			before := w.Save()
			if got := w.Put(p[0], p[1], p[2]); int(got) != p[3] {
				t.Fatalf("%s: Put(%d, %d, %d): %d, want %d", c.form, p[0], p[1], p[2], got, p[3])
			}
			if p[3] != 0 {
				wantSave(t, w, before)
			} else if got := w.Get(p[0], p[1]); got != p[2] {
				t.Fatalf("%s: Get(%d, %d): %d, want %d", c.form, p[0], p[1], got, p[2])
			}
		}
		wantSave(t, w, "MB/S/4 "+c.form+" 8 "+c.save)
	}
}

func TestP7States(t *testing.T) {
	for states := 2; states <= api.MaxStates; states++ {
		w, m := fresh(t, form{kind: "C", w: 2, h: 2}, states)
		for _, state := range append([]int{-1, 0, 1, 2, 3, 4, 5, 6, 7, 8, 9, 10, 256, 257}, farNumbers...) {
			if got, want := w.Put(1, 0, state), m.put(1, 0, state); got != want {
				t.Fatalf("%d states: Put(1, 0, %d): %d, want %d", states, state, got, want)
			}
			wantSave(t, w, m.save())
		}
	}
}

// Every shape with many calls, near its edges and near the bounds of an endless side.
func TestP7P8AllShapes(t *testing.T) {
	dice := rand.New(rand.NewSource(7))
	for _, f := range allForms() {
		w, m := fresh(t, f, 4)
		middle := []int{0, 0, -9960, 9960}[dice.Intn(4)]
		at := func(side int) int {
			if side == 0 {
				return middle + dice.Intn(90) - 45
			}
			return dice.Intn(side+2) - 1
		}
		for i := 0; i < 60; i++ {
			x, y, state := at(f.w), at(f.h), dice.Intn(5)-dice.Intn(2)
			if got, want := w.Put(x, y, state), m.put(x, y, state); got != want {
				t.Fatalf("%v: Put(%d, %d, %d): %d, want %d", f, x, y, state, got, want)
			}
			if w.Count() != len(m.live) {
				t.Fatalf("%v: Count: %d, want %d", f, w.Count(), len(m.live))
			}
			if got, want := w.Get(x, y), m.get(x, y); got != want {
				t.Fatalf("%v: Get(%d, %d): %d, want %d", f, x, y, got, want)
			}
		}
		wantSave(t, w, m.save())
	}
}

func TestP8Count(t *testing.T) {
	for _, c := range []struct {
		text string
		want int
	}{
		{"MB/S P5,4 0 1,1 !", 0},
		{"MB/S P5,4 0 1,1 9.$9.!", 0},
		{"MB3/S23 P5,4 0 1,1 .A$..A$3A!", 5},
		{"MB/S/9 P3,1 0 0,0 AHC!", 3},
		{"MB/S C12,1 0 0,0 2A3.2A3.2A$A!", 6},
		{"MB/S T12,12 0 0,0 12A$12A$12A$12A$12A$12A$12A$12A$12A$12A$12A$12A!", 144},
		{"MB/S T0,3 0 -40,0 64A$A$99.!", 65},
		{"MB/S P3,3 0 -1,-1 99A!", 0},
	} {
		w := mustLoad(t, c.text)
		if got := w.Count(); got != c.want {
			t.Errorf("%s: Count: %d, want %d", c.text, got, c.want)
		}
	}
	w := mustLoad(t, "MB/S/3 P5,4 0 1,1 3A!")
	for _, p := range [][4]int{{1, 1, 2, 3}, {0, 0, 1, 4}, {0, 0, 0, 3}, {0, 0, 0, 3}, {9, 9, 1, 3}, {1, 1, 5, 3}} {
		w.Put(p[0], p[1], p[2])
		if got := w.Count(); got != p[3] {
			t.Errorf("behind Put(%d, %d, %d): Count: %d, want %d", p[0], p[1], p[2], got, p[3])
		}
	}
}
