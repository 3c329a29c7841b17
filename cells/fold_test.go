package cells_test

import (
	"math/rand"
	"testing"

	"cells/api"
)

// foldingForms are the tori, Klein bottles and cross-surfaces with two sides, every one.
func foldingForms() []form {
	var all []form
	for _, f := range allForms() {
		if f.w > 0 && f.h > 0 && f.kind != "P" && f.kind != "S" {
			all = append(all, f)
		}
	}
	return all
}

// Every shape that folds, with rules by chance of all neighbourhoods and numbers of states.
func TestP11AllShapes(t *testing.T) {
	dice := rand.New(rand.NewSource(11))
	for i, f := range foldingForms() {
		for j, letter := range []byte("MVH") {
			states := 2 + (i+j)%8
			rule := ruleText(letter, dice.Intn(512), dice.Intn(512), states)
			w, m := scatter(t, dice, f, rule, states)
			wantStep(t, w, 1, api.OK)
			m.step()
			wantCells(t, w, m)
			wantStep(t, w, 2, api.OK)
			m.step()
			m.step()
			wantCells(t, w, m)
		}
	}
}

// Sides of 1 and 2 with one another, and with 3: there a cell is its own neighbour, or the same one several times. Every pattern of dead and ones, and every number as the only birth or the only survival.
func TestP11SmallSides(t *testing.T) {
	for _, f := range foldingForms() {
		if f.w > 3 || f.h > 3 || f.w*f.h > 6 {
			continue
		}
		for pattern := 0; pattern < 1<<(f.w*f.h); pattern++ {
			live := map[[2]int]int{}
			for i := 0; i < f.w*f.h; i++ {
				if pattern&(1<<i) != 0 {
					live[[2]int{i % f.w, i / f.w}] = 1
				}
			}
			for _, letter := range []byte("MVH") {
				for k := 0; k <= len(around[letter]); k++ {
					m := &model{rule: ruleText(letter, 1<<k, 1<<k, 2), states: 2, form: f, live: live}
					w := mustLoad(t, m.save())
					wantStep(t, w, 1, api.OK)
					m.step()
					wantCells(t, w, m)
				}
			}
		}
	}
}

// One live cell and where it is counted, told by hand from the words on each shape.
func TestP11Edges(t *testing.T) {
	for _, c := range [][2]string{
		// A torus without a shift: the other side as it stands.
		{"MB1/S T5,4 0 0,0 A!", "MB1/S T5,4 1 0,0 .A2.A$2A2.A2$2A2.A!"},
		{"MB1/S T5,4 0 4,3 A!", "MB1/S T5,4 1 0,0 A2.2A2$A2.2A$A2.A!"},
		{"VB1/S T12,12 0 0,11 A!", "VB1/S T12,12 1 0,0 A10$A$.A9.A!"},
		{"HB1/S T4,4 0 0,0 A!", "HB1/S T4,4 1 0,0 .A.A$2A2$A2.A!"},
		{"HB1/S T4,4 0 3,0 A!", "HB1/S T4,4 1 0,0 A.A$A2.A2$2.2A!"},
		// A shift behind either side, over either edge.
		{"VB1/S T5+2,3 0 4,0 A!", "VB1/S T5+2,3 1 0,0 A2.A$4.A$.A!"},
		{"VB1/S T5+2,3 0 3,2 A!", "VB1/S T5+2,3 1 1,0 A$2.A$.A.A!"},
		{"VB1/S T3,5+2 0 0,1 A!", "VB1/S T3,5+2 1 0,0 A$.A$A$2.A!"},
		{"VB1/S T3,5+3 0 0,1 A!", "VB1/S T3,5+3 1 0,0 A$.A$A2$2.A!"},
		{"VB1/S T3,5+2 0 2,3 A!", "VB1/S T3,5+2 1 0,1 A$2.A$.A$2.A!"},
		{"MB1/S T5+2,4 0 0,0 A!", "MB1/S T5+2,4 1 0,0 .A2.A$2A2.A2$.3A!"},
		{"MB1/S T4,5+2 0 0,0 A!", "MB1/S T4,5+2 1 0,0 .A$2A.A$3.A$3.A$2A!"},
		// A star behind either side, over either edge.
		{"VB1/S K5*,3 0 3,0 A!", "VB1/S K5*,3 1 1,0 .A.A$2.A$A!"},
		{"VB1/S K5*,3 0 1,2 A!", "VB1/S K5*,3 1 0,0 3.A$.A$A.A!"},
		{"VB1/S K3,5* 0 0,1 A!", "VB1/S K3,5* 1 0,0 A$.A$A$2.A!"},
		{"VB1/S K3,5* 0 2,1 A!", "VB1/S K3,5* 1 0,0 2.A$.A$2.A$A!"},
		// What has no star is not turned: beyond it lies the other side.
		{"VB1/S K5*,3 0 0,0 A!", "VB1/S K5*,3 1 0,0 .A2.A$A$4.A!"},
		{"VB1/S K3,5* 0 0,0 A!", "VB1/S K3,5* 1 0,0 .A$A3$A.A!"},
		// A cross-surface turns both.
		{"VB1/S C5,4 0 1,0 A!", "VB1/S C5,4 1 0,0 A.A$.A2$3.A!"},
		{"VB1/S C5,4 0 4,3 A!", "VB1/S C5,4 1 3,2 .A$A!"},
		{"MB1/S C5,4 0 4,3 A!", "MB1/S C5,4 1 0,0 .A$A$3.2A$3.A!"},
		{"VB1/S C5,4 0 0,1 A!", "VB1/S C5,4 1 0,0 A$.A$A3.A!"},
	} {
		w := mustLoad(t, c[0])
		wantStep(t, w, 1, api.OK)
		wantSave(t, w, c[1])
	}
}

// Each neighbour counts for itself, where two are the same cell and where one is the cell itself.
func TestP11EachForItself(t *testing.T) {
	for _, c := range [][2]string{
		{"MB/S8 T1,1 0 0,0 A!", "MB/S8 T1,1 1 0,0 A!"},
		{"MB/S01234567 T1,1 0 0,0 A!", "MB/S01234567 T1,1 1 0,0 !"},
		{"VB/S4 K1*,1 0 0,0 A!", "VB/S4 K1*,1 1 0,0 A!"},
		{"HB/S6 K1,1* 0 0,0 A!", "HB/S6 K1,1* 1 0,0 A!"},
		{"MB/S8 C1,1 0 0,0 A!", "MB/S8 C1,1 1 0,0 A!"},
		{"MB0/S T1,1 0 0,0 !", "MB0/S T1,1 1 0,0 A!"},
		{"MB6/S2 T2,1 0 0,0 A!", "MB6/S2 T2,1 1 0,0 2A!"},
		{"VB2/S2 T2,1 0 0,0 A!", "VB2/S2 T2,1 1 0,0 2A!"},
		{"HB4/S2 T2,1 0 0,0 A!", "HB4/S2 T2,1 1 0,0 2A!"},
		{"MB6/S2 T1,2 0 0,0 A!", "MB6/S2 T1,2 1 0,0 A$A!"},
		{"MB4/S4 T2+1,1 0 0,0 A!", "MB4/S4 T2+1,1 1 0,0 2A!"},
		{"VB4/S0 T2+1,1 0 0,0 A!", "VB4/S0 T2+1,1 1 0,0 2A!"},
		{"HB4/S2 T2+1,1 0 0,0 A!", "HB4/S2 T2+1,1 1 0,0 2A!"},
		{"MB4/S4 T1,2+1 0 0,0 A!", "MB4/S4 T1,2+1 1 0,0 A$A!"},
		{"VB4/S0 T1,2+1 0 0,1 A!", "VB4/S0 T1,2+1 1 0,0 A$A!"},
		{"MB4/S4 K2*,1 0 0,0 A!", "MB4/S4 K2*,1 1 0,0 2A!"},
		{"VB4/S0 K2*,1 0 1,0 A!", "VB4/S0 K2*,1 1 0,0 2A!"},
		{"VB4/S0 K1,2* 0 0,0 A!", "VB4/S0 K1,2* 1 0,0 A$A!"},
		{"VB2/S2 K1*,2 0 0,0 A!", "VB2/S2 K1*,2 1 0,0 A$A!"},
		{"MB3/S1 C2,2 0 0,0 A!", "MB3/S1 C2,2 1 0,0 A$.A!"},
		{"MB2/S C2,2 0 0,0 A!", "MB2/S C2,2 1 0,0 .A$A!"},
	} {
		w := mustLoad(t, c[0])
		wantStep(t, w, 1, api.OK)
		wantSave(t, w, c[1])
	}
}

// What is counted beyond an edge is the cells alone: states above 1 count for nothing, and what the text left out is nowhere.
func TestP11CountsOnes(t *testing.T) {
	for _, c := range [][2]string{
		{"VB1/S/3 T5+2,3 0 1,0 B!", "VB1/S/3 T5+2,3 1 0,0 !"},
		{"VB1/S/4 K5*,3 0 1,0 B!", "VB1/S/4 K5*,3 1 1,0 C!"},
		{"MB12345678/S T3,3 0 -1,-1 5A$A3.A$A3.A$A3.A$5A!", "MB12345678/S T3,3 1 0,0 !"},
		{"MB12345678/S C3,3 0 -1,-1 5A$A3.A$A3.A$A3.A$5A!", "MB12345678/S C3,3 1 0,0 !"},
	} {
		w := mustLoad(t, c[0])
		wantStep(t, w, 1, api.OK)
		wantSave(t, w, c[1])
	}
}

// n generations are as many as n times one; the age grows as in planes, and ends as there.
func TestP11Many(t *testing.T) {
	dice := rand.New(rand.NewSource(110))
	forms := foldingForms()
	for n := 0; n <= api.MaxSteps; n++ {
		states := 2 + n%8
		rule := ruleText("MVH"[n%3], dice.Intn(512), dice.Intn(512), states)
		w, m := scatter(t, dice, forms[dice.Intn(len(forms))], rule, states)
		wantStep(t, w, n, api.OK)
		for i := 0; i < n; i++ {
			m.step()
		}
		wantCells(t, w, m)
	}
	for _, shape := range []string{"T5,3", "T5+4,3", "T5,3+1", "K5*,3", "K5,3*", "C5,3"} {
		w := mustLoad(t, "MB/S012345678 "+shape+" 999899 4,2 A!")
		wantStep(t, w, 101, api.ErrSteps)
		wantStep(t, w, 100, api.OK)
		wantSave(t, w, "MB/S012345678 "+shape+" 999999 4,2 A!")
		wantStep(t, w, 1, api.ErrSteps)
		wantStep(t, w, 0, api.OK)
		wantSave(t, w, "MB/S012345678 "+shape+" 999999 4,2 A!")
	}
}

// A glider that has gone round is where it was, as it was or turned.
func TestP11Glider(t *testing.T) {
	for _, c := range []struct {
		shape string
		laps  int // of 24 generations, in which it goes 6 columns and 6 rows
		save  string
	}{
		{"T12,12", 2, "T12,12 48 0,0 .A$2.A$3A!"},
		{"T12,6", 2, "T12,6 48 0,0 .A$2.A$3A!"},
		{"T12+6,6", 1, "T12+6,6 24 0,0 .A$2.A$3A!"},
		{"T6,12+6", 1, "T6,12+6 24 0,0 .A$2.A$3A!"},
		{"K12*,12", 2, "K12*,12 48 9,0 .A$A$3A!"},
		{"K12,12*", 2, "K12,12* 48 0,9 3A$2.A$.A!"},
	} {
		w := mustLoad(t, "MB3/S23 "+c.shape+" 0 0,0 .A$2.A$3A!")
		for lap := 0; lap < c.laps; lap++ {
			wantStep(t, w, 24, api.OK)
		}
		wantSave(t, w, "MB3/S23 "+c.save)
	}
}
