package shape

import (
	"math"
	"testing"

	"cells/api"
)

// Beyond the edges of a sphere there are the cells that the document names, and no others; for Find there are none at all.
func TestSphereNeighbour(t *testing.T) {
	for n := 1; n <= api.MaxSide; n++ {
		s := Shape{Kind: Sphere, Width: n, Height: n}
		want := func(x int, y int, column int, row int) {
			t.Helper()
			gotColumn, gotRow, found := s.Neighbour(x, y)
			if !found || gotColumn != column || gotRow != row {
				t.Errorf("side %d: (%d, %d): %d, %d, %v, want %d, %d", n, x, y, gotColumn, gotRow, found, column, row)
			}
			_, _, found = s.Find(x, y)
			if found != s.Has(x, y) {
				t.Errorf("side %d: (%d, %d): found: %v", n, x, y, found)
			}
		}
		for i := 0; i < n; i++ {
			want(i, -1, 0, i)
			want(-1, i, i, 0)
			want(i, n, n-1, i)
			want(n, i, i, n-1)
			for j := 0; j < n; j++ {
				want(i, j, i, j)
			}
		}
		want(-1, -1, 0, 0)
		want(n, -1, 0, n-1)
		want(-1, n, n-1, 0)
		want(n, n, n-1, n-1)
		for _, far := range []int{math.MinInt, -n - 1, -2, n + 1, 2*n + 1, math.MaxInt} {
			for near := -2; near <= n+1; near++ {
				_, _, found := s.Neighbour(far, near)
				_, _, turned := s.Neighbour(near, far)
				if found || turned {
					t.Errorf("side %d: %d and %d: a cell so far away", n, far, near)
				}
			}
		}
	}
}

// On all other shapes a neighbour is what Find finds.
func TestOtherNeighbour(t *testing.T) {
	for _, s := range []Shape{
		{Kind: Plane, Width: 3, Height: 3},
		{Kind: Plane, Width: 0, Height: 3},
		{Kind: Torus, Width: 3, Height: 3},
		{Kind: Torus, Width: 3, Height: 0},
		{Kind: Torus, Width: 3, Height: 3, WidthShift: 2},
		{Kind: Klein, Width: 3, Height: 3, HeightStar: true},
		{Kind: Cross, Width: 3, Height: 3},
	} {
		for y := -7; y <= 7; y++ {
			for x := -7; x <= 7; x++ {
				column, row, found := s.Neighbour(x, y)
				wantColumn, wantRow, want := s.Find(x, y)
				if column != wantColumn || row != wantRow || found != want {
					t.Errorf("%v: (%d, %d): %d, %d, %v, want %d, %d, %v", s, x, y, column, row, found, wantColumn, wantRow, want)
				}
			}
		}
	}
}
