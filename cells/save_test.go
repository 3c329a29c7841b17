package cells_test

import (
	"math/rand"
	"testing"

	"cells/api"
)

func TestP5Save(t *testing.T) {
	for _, c := range []struct{ text, want string }{
		{"MB/S P12,12 0 5,5 !", "MB/S P12,12 0 0,0 !"},
		{"MB/S P12,12 0 5,5 .2$3.!", "MB/S P12,12 0 0,0 !"},
		{"MB/S T0,3 12 5,5 !", "MB/S T0,3 12 0,0 !"},
		{"MB/S P1,1 0 0,0 A!", "MB/S P1,1 0 0,0 A!"},
		{"MB/S P12,12 0 0,0 .....$....A!", "MB/S P12,12 0 4,1 A!"},
		// Runs that stand side by side in the text become one; a count of 1 is left out.
		{"MB/S/3 P12,12 0 0,0 A2AA.2.3BB$$2$AA!", "MB/S/3 P12,12 0 0,0 4A3.4B4$2A!"},
		{"MB/S/3 P12,12 0 0,0 AB$B.A$.$A2.$!", "MB/S/3 P12,12 0 0,0 AB$B.A2$A!"},
		// The least column need not be in the first row.
		{"MB/S P12,12 0 2,3 3.A$.A$5.A!", "MB/S P12,12 0 3,3 2.A$A$4.A!"},
		{"MB/S P0,2 0 -9999,1 .A.A!", "MB/S P0,2 0 -9998,1 A.A!"},
		{"MB/S P2,0 0 1,-9999 A63$A!", "MB/S P2,0 0 1,-9999 A63$A!"},
		{"MB/S T0,2 0 9936,0 64A$64A!", "MB/S T0,2 0 9936,0 64A$64A!"},
		{"MB/S T0,2 0 -1,0 .2A!", "MB/S T0,2 0 0,0 2A!"},
	} {
		w := mustLoad(t, c.text)
		wantSave(t, w, c.want)
		wantSave(t, w, c.want)
	}
}

// Rule, shape and age are written as they were read.
func TestP5Head(t *testing.T) {
	rules := []string{"MB/S", "VB/S", "HB/S", "MB012345678/S012345678/9", "VB01234/S01234/3", "HB0123456/S0123456/8"}
	for _, set := range subsets(8) {
		rules = append(rules, "MB"+set+"/S", "MB/S"+set+"/3")
	}
	for _, rule := range rules {
		text := rule + " C2,3 999999 0,0 A!"
		wantSave(t, mustLoad(t, text), text)
	}
	for _, f := range allForms() {
		text := "MB3/S23 " + f.String() + " 10 0,0 A!"
		wantSave(t, mustLoad(t, text), text)
	}
	for _, age := range []string{"0", "1", "9", "10", "99999", "100000", "999999"} {
		text := "MB3/S23 P2,2 " + age + " 0,0 !"
		wantSave(t, mustLoad(t, text), text)
	}
}

// What is written is a right text, and the shortest way back to the same world.
func TestP5AllShapes(t *testing.T) {
	dice := rand.New(rand.NewSource(5))
	for _, f := range allForms() {
		w, m := fresh(t, f, 3)
		for i := 0; i < 40; i++ {
			x, y, state := dice.Intn(14)-1, dice.Intn(14)-1, dice.Intn(3)
			if w.Put(x, y, state) != m.put(x, y, state) {
				t.Fatalf("%v: Put(%d, %d, %d) is not as the model's", f, x, y, state)
			}
		}
		wantSave(t, w, m.save())
		if len(m.save()) <= api.MaxText {
			wantSave(t, mustLoad(t, m.save()), m.save())
		}
	}
}

// A world may have a text that is longer than Load takes.
func TestP5LongText(t *testing.T) {
	for _, f := range []form{{kind: "P", w: 0, h: 12}, {kind: "T", w: 12, h: 0}} {
		w, m := fresh(t, f, 9)
		for i := 0; i < 64; i++ {
			for j := 0; j < 12; j++ {
				x, y := i-30, j
				if f.h == 0 {
					x, y = j, i-30
				}
				state := (i*5+j*3)%8 + 1
				if w.Put(x, y, state) != api.OK || m.put(x, y, state) != api.OK {
					t.Fatalf("%v: Put(%d, %d, %d) is refused", f, x, y, state)
				}
			}
		}
		if w.Count() != 64*12 {
			t.Errorf("%v: Count: %d", f, w.Count())
		}
		wantSave(t, w, m.save())
		refuse(t, w.Save(), 0, api.ErrLong)
	}
}
