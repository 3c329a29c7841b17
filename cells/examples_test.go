package cells_test

import (
	"testing"

	"cells/api"
)

// The document's examples without Step.
func TestExamples(t *testing.T) {
	glider := mustLoad(t, "MB3/S23 P5,4 0 1,1 .A$..A$3A!")
	wantSave(t, glider, "MB3/S23 P5,4 0 1,1 .A$2.A$3A!")
	if glider.Count() != 5 {
		t.Errorf("Count: %d, want 5", glider.Count())
	}
	wantSave(t, mustLoad(t, "VB01234/S4/3 T3+2,2 5 -1,-1 3B$3A$BA!"), "VB01234/S4/3 T3+2,2 5 0,0 2A$A!")
	wantSave(t, mustLoad(t, "MB1/S P0,12 0 -40,0 A62.A!"), "MB1/S P0,12 0 -40,0 A62.A!")
	refuse(t, "MB33/S", 3, api.ErrText)
	refuse(t, "MB/S P13,", 7, api.ErrText)
	refuse(t, "MB/S S3,33", 9, api.ErrText)
	refuse(t, "MB/S P3,3 0 1,1 .A", 18, api.ErrText)
	refuse(t, "MB03/S P0,3 0 0,0 !", 0, api.ErrBirth)
	refuse(t, "MB/S P0,3 0 0,0 A63.A!", 0, api.ErrRoom)
	for _, c := range []struct {
		text string
		gets [][3]int // column, row, answer
	}{
		{"MB/S/9 T3+1,2 0 0,0 ABC$DEF!", [][3]int{{0, 2, 3}, {1, 2, 1}, {2, 2, 2}, {0, -1, 5}}},
		{"MB/S/9 K3*,2 0 0,0 ABC$DEF!", [][3]int{{0, 2, 3}, {1, 2, 2}, {2, 3, 4}, {0, -1, 6}}},
		{"MB/S/9 C3,2 0 0,0 ABC$DEF!", [][3]int{{3, 0, 4}, {0, 2, 3}, {3, 2, 6}}},
	} {
		w := mustLoad(t, c.text)
		for _, g := range c.gets {
			if got := w.Get(g[0], g[1]); got != g[2] {
				t.Errorf("%s: Get(%d, %d): %d, want %d", c.text, g[0], g[1], got, g[2])
			}
		}
	}
	w := mustLoad(t, "MB/S/4 T3,2 0 0,0 !")
	for _, p := range []struct {
		x, y, state int
		want        api.Errno
	}{{0, 0, 1, api.OK}, {2, 1, 3, api.OK}, {2, 1, 4, api.ErrState}, {3, 0, 1, api.ErrCell}} {
		if got := w.Put(p.x, p.y, p.state); got != p.want {
			t.Errorf("Put(%d, %d, %d): %d, want %d", p.x, p.y, p.state, got, p.want)
		}
	}
	wantSave(t, w, "MB/S/4 T3,2 0 0,0 A$2.C!")
	if w.Count() != 2 {
		t.Errorf("Count: %d, want 2", w.Count())
	}
}

// The document's examples of generations.
func TestExamplesStep(t *testing.T) {
	for _, c := range []struct {
		text  string
		saves []string // behind Step(1), one by one
	}{
		{"MB3/S23 P5,5 0 1,2 3A!", []string{"MB3/S23 P5,5 1 2,1 A$A$A!", "MB3/S23 P5,5 2 1,2 3A!"}},
		{"HB1/S P5,5 0 2,2 A!", []string{"HB1/S P5,5 1 1,1 2A$A.A$.2A!"}},
		{"MB/S/5 P4,1 0 0,0 ABCD!", []string{"MB/S/5 P4,1 1 0,0 BCD!", "MB/S/5 P4,1 2 0,0 CD!"}},
		{"VB1/S T5+2,3 0 1,0 A!", []string{"VB1/S T5+2,3 1 0,0 A.A$.A$3.A!"}},
		{"VB1/S K5*,3 0 1,0 A!", []string{"VB1/S K5*,3 1 0,0 A.A$.A$3.A!"}},
		{"MB1/S C4,4 0 0,0 A!", []string{"MB1/S C4,4 1 0,0 .A$2A$3.A$2.A!"}},
		{"MB1/S S4,4 0 3,0 A!", []string{"MB1/S S4,4 1 0,0 2.A$2.2A$A$.A!"}},
	} {
		w := mustLoad(t, c.text)
		for _, save := range c.saves {
			wantStep(t, w, 1, api.OK)
			wantSave(t, w, save)
		}
	}
	glider := mustLoad(t, "MB3/S23 T6,0 0 3,0 .A$2.A$3A!")
	wantStep(t, glider, 60, api.OK)
	wantSave(t, glider, "MB3/S23 T6,0 60 0,15 .A$2.A$3A!")
	far := mustLoad(t, "MB1/S012345678 P0,2 7 -9999,0 A!")
	wantStep(t, far, 1, api.ErrRoom)
	wantSave(t, far, "MB1/S012345678 P0,2 7 -9999,0 A!")
}
