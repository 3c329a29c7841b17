package cells_test

import (
	"fmt"
	"math/rand"
	"testing"

	"cells/api"
)

// Spheres of all sides, with rules by chance of all neighbourhoods and numbers of states.
func TestP12AllSides(t *testing.T) {
	dice := rand.New(rand.NewSource(12))
	for n := 1; n <= api.MaxSide; n++ {
		for i := 0; i < 48; i++ {
			states := 2 + i%8
			rule := ruleText("MVH"[i%3], dice.Intn(512), dice.Intn(512), states)
			w, m := scatter(t, dice, form{kind: "S", w: n, h: n}, rule, states)
			for steps := 0; steps <= 3; steps++ {
				wantStep(t, w, steps, api.OK)
				m.steps(steps)
				wantCells(t, w, m)
			}
		}
	}
}

// Sides of 1, 2 and 3: every pattern of dead and ones, and every number as the only birth and survival.
func TestP12SmallSides(t *testing.T) {
	for n := 1; n <= 3; n++ {
		for pattern := 0; pattern < 1<<(n*n); pattern++ {
			live := map[[2]int]int{}
			for i := 0; i < n*n; i++ {
				if pattern&(1<<i) != 0 {
					live[[2]int{i % n, i / n}] = 1
				}
			}
			for _, letter := range []byte("MVH") {
				for k := 0; k <= len(around[letter]); k++ {
					m := &model{rule: ruleText(letter, 1<<k, 1<<k, 2), states: 2, form: form{kind: "S", w: n, h: n}, live: live}
					w := mustLoad(t, m.save())
					wantStep(t, w, 1, api.OK)
					m.step()
					wantCells(t, w, m)
				}
			}
		}
	}
}

// One live cell and where it is counted, told by hand from the words on the sphere.
func TestP12Edges(t *testing.T) {
	for _, c := range [][2]string{
		// Beside the edges: a cell of the first row is beside the first column, one of the last row beside the last column, and the other way round.
		{"VB1/S S5,5 0 2,0 A!", "VB1/S S5,5 1 0,0 .A.A$2.A$A!"},
		{"VB1/S S5,5 0 0,3 A!", "VB1/S S5,5 1 0,0 3.A2$A$.A$A!"},
		{"VB1/S S5,5 0 4,1 A!", "VB1/S S5,5 1 1,0 3.A$2.A$3.A2$A!"},
		{"VB1/S S5,5 0 3,4 A!", "VB1/S S5,5 1 2,3 .2A$A.A!"},
		{"MB1/S S5,5 0 2,0 A!", "MB1/S S5,5 1 0,0 .A.A$4A$A$A!"},
		{"HB1/S S5,5 0 2,0 A!", "HB1/S S5,5 1 0,0 .A.A$2.2A$A$A!"},
		// No edge, no difference.
		{"MB1/S S5,5 0 2,2 A!", "MB1/S S5,5 1 1,1 3A$A.A$3A!"},
		// The first and the last corner are beside themselves.
		{"VB1/S S5,5 0 0,0 A!", "VB1/S S5,5 1 0,0 .A$A!"},
		{"VB/S2 S5,5 0 0,0 A!", "VB/S2 S5,5 1 0,0 A!"},
		{"VB/S2 S5,5 0 4,4 A!", "VB/S2 S5,5 1 4,4 A!"},
		{"MB2/S3 S3,3 0 0,0 A!", "MB2/S3 S3,3 1 0,0 2A$A!"},
		{"MB2/S3 S12,12 0 11,11 A!", "MB2/S3 S12,12 1 10,10 .A$2A!"},
		{"HB/S3 S3,3 0 0,0 A!", "HB/S3 S3,3 1 0,0 A!"},
		// The two others are beside one another.
		{"VB1/S S5,5 0 4,0 A!", "VB1/S S5,5 1 3,0 A$.A!"},
		{"VB2/S S5,5 0 4,0 A!", "VB2/S S5,5 1 0,4 A!"},
		{"VB2/S S5,5 0 0,4 A!", "VB2/S S5,5 1 4,0 A!"},
		{"VB12/S S5,5 0 0,4 A!", "VB12/S S5,5 1 0,0 4.A3$A$.A!"},
		{"MB3/S S3,3 0 2,0 A!", "MB3/S S3,3 1 0,2 A!"},
		{"MB3/S S3,3 0 0,2 A!", "MB3/S S3,3 1 2,0 A!"},
		{"MB13/S S3,3 0 2,0 A!", "MB13/S S3,3 1 0,0 .A$3A$2A!"},
		{"HB2/S S12,12 0 11,0 A!", "HB2/S S12,12 1 0,11 A!"},
	} {
		w := mustLoad(t, c[0])
		wantStep(t, w, 1, api.OK)
		wantSave(t, w, c[1])
	}
}

// Sides of 1 and 2, where each neighbour counts for itself.
func TestP12EachForItself(t *testing.T) {
	for _, c := range [][2]string{
		{"MB/S8 S1,1 0 0,0 A!", "MB/S8 S1,1 1 0,0 A!"},
		{"MB/S01234567 S1,1 0 0,0 A!", "MB/S01234567 S1,1 1 0,0 !"},
		{"VB/S4 S1,1 0 0,0 A!", "VB/S4 S1,1 1 0,0 A!"},
		{"VB/S0123 S1,1 0 0,0 A!", "VB/S0123 S1,1 1 0,0 !"},
		{"HB/S6 S1,1 0 0,0 A!", "HB/S6 S1,1 1 0,0 A!"},
		{"HB/S012345 S1,1 0 0,0 A!", "HB/S012345 S1,1 1 0,0 !"},
		{"MB0/S S1,1 0 0,0 !", "MB0/S S1,1 1 0,0 A!"},
		{"MB1/S3 S2,2 0 0,0 A!", "MB1/S3 S2,2 1 0,0 A$.A!"},
		{"MB2/S S2,2 0 0,0 A!", "MB2/S S2,2 1 0,0 .A$A!"},
		{"MB4/S0 S2,2 0 1,0 A!", "MB4/S0 S2,2 1 0,0 .A$A!"},
		{"MB2/S S2,2 0 1,0 A!", "MB2/S S2,2 1 0,0 A$.A!"},
		{"MB/S8 S2,2 0 0,0 2A$2A!", "MB/S8 S2,2 1 0,0 2A$2A!"},
	} {
		w := mustLoad(t, c[0])
		wantStep(t, w, 1, api.OK)
		wantSave(t, w, c[1])
	}
}

// Where all cells are ones, each has as many of them around it as there are neighbours: nothing on a sphere is dead for being beyond an edge.
func TestP12NoGaps(t *testing.T) {
	for n := 1; n <= api.MaxSide; n++ {
		for _, letter := range []byte("MVH") {
			most := len(around[letter])
			for _, kept := range []int{most, most - 1} {
				w := mustLoad(t, fmt.Sprintf("%cB/S%d S%d,%d 0 0,0 !", letter, kept, n, n))
				for i := 0; i < n*n; i++ {
					w.Put(i%n, i/n, 1)
				}
				wantStep(t, w, 1, api.OK)
				want := 0
				if kept == most {
					want = n * n
				}
				if got := w.Count(); got != want {
					t.Errorf("%c, side %d, survival %d: %d live, want %d", letter, n, kept, got, want)
				}
			}
		}
	}
}

// States above 1 count for nothing around an edge, what the text left out is nowhere, and Get tells nothing of what is beyond.
func TestP12CountsOnes(t *testing.T) {
	for _, c := range [][2]string{
		{"VB1/S/3 S4,4 0 1,0 B!", "VB1/S/3 S4,4 1 0,0 !"},
		{"MB1/S/4 S4,4 0 3,0 B!", "MB1/S/4 S4,4 1 3,0 C!"},
		{"MB12345678/S S3,3 0 -1,-1 5A$A3.A$A3.A$A3.A$5A!", "MB12345678/S S3,3 1 0,0 !"},
	} {
		w := mustLoad(t, c[0])
		wantStep(t, w, 1, api.OK)
		wantSave(t, w, c[1])
	}
	w := mustLoad(t, "MB/S012345678 S2,2 0 0,0 2A$2A!")
	wantStep(t, w, 1, api.OK)
	for i := -1; i <= 2; i++ {
		for _, at := range [][2]int{{i, -1}, {-1, i}, {i, 2}, {2, i}} {
			if got := w.Get(at[0], at[1]); got != 0 {
				t.Errorf("Get(%d, %d): %d, want 0", at[0], at[1], got)
			}
		}
	}
}

// n generations are as many as n times one; the age grows as elsewhere, and ends as there.
func TestP12Many(t *testing.T) {
	dice := rand.New(rand.NewSource(120))
	for n := 0; n <= api.MaxSteps; n++ {
		states := 2 + n%8
		side := 1 + dice.Intn(api.MaxSide)
		rule := ruleText("MVH"[n%3], dice.Intn(512), dice.Intn(512), states)
		w, m := scatter(t, dice, form{kind: "S", w: side, h: side}, rule, states)
		wantStep(t, w, n, api.OK)
		m.steps(n)
		wantCells(t, w, m)
	}
	w := mustLoad(t, "MB/S012345678 S5,5 999899 4,2 A!")
	wantStep(t, w, 101, api.ErrSteps)
	wantStep(t, w, -1, api.ErrSteps)
	wantStep(t, w, 100, api.OK)
	wantSave(t, w, "MB/S012345678 S5,5 999999 4,2 A!")
	wantStep(t, w, 1, api.ErrSteps)
	wantStep(t, w, 0, api.OK)
	wantSave(t, w, "MB/S012345678 S5,5 999999 4,2 A!")
}
