package cells_test

import (
	"strings"
	"testing"

	"cells/api"
)

func TestP3Long(t *testing.T) {
	head := "MB/S P3,3 0 1,1 "
	fits := head + strings.Repeat("A", api.MaxText-len(head)-1) + "!"
	mustLoad(t, fits)
	refuse(t, fits[:len(fits)-1], len(fits)-1, api.ErrText)
	refuse(t, fits[:len(fits)-1]+"?", len(fits)-1, api.ErrText)
	refuse(t, fits+"!", 0, api.ErrLong)
	refuse(t, head+strings.Repeat("A", api.MaxText-len(head))+"!", 0, api.ErrLong)
	refuse(t, strings.Repeat("?", api.MaxText), 0, api.ErrText)
	refuse(t, strings.Repeat("?", api.MaxText+1), 0, api.ErrLong)
	// The errors behind ErrLong would apply too.
	refuse(t, "MB0/S P0,3 0 0,0 A99.A"+strings.Repeat("A", api.MaxText)+"!", 0, api.ErrLong)
}

func TestP3Birth(t *testing.T) {
	for _, rule := range []string{"MB0/S", "VB01/S1/3", "HB0123456/S0"} {
		for _, form := range []string{"P0,1", "P12,0", "T0,12", "T1,0"} {
			refuse(t, rule+" "+form+" 0 0,0 !", 0, api.ErrBirth)
			refuse(t, rule+" "+form+" 0 0,0 A99.A99$A!", 0, api.ErrBirth)
			unended := rule + " " + form + " 0 0,0 A99.A99$A"
			refuse(t, unended, len(unended), api.ErrText)
		}
		for _, form := range []string{"P1,1", "T12,12", "T3+1,2", "T3,2+1", "K1*,1", "C1,1", "S4,4"} {
			mustLoad(t, rule+" "+form+" 0 0,0 !")
		}
	}
	for _, form := range []string{"P0,1", "P12,0", "T0,12", "T1,0"} {
		mustLoad(t, "MB12345678/S0 "+form+" 0 0,0 !")
	}
}

func TestP3Room(t *testing.T) {
	for _, kind := range []string{"P", "T"} {
		columns := "MB/S/3 " + kind + "0,3 0 "
		rows := "MB/S/3 " + kind + "3,0 0 "
		for _, right := range []string{
			columns + "0,0 A62.A!",
			columns + "-20,2 64B!",
			columns + "0,0 A62.A99.!",
			columns + "0,0 62.A$A!",
			columns + "0,-1 99A$A!",
			columns + "0,2 A$99A!",
			columns + "9999,0 A99.!",
			columns + "-9999,0 A62.A!",
			columns + "9936,0 A62.A!",
			columns + "9950,0 A99.$A!",
			rows + "0,0 A63$A!",
			rows + "0,0 A99$.!",
			rows + "0,0 A99$3.A!",
			rows + "-1,0 A99$.A!",
			rows + "0,9999 A$.!",
			rows + "0,-9999 A63$B!",
			rows + "3,0 A99$A99$A!",
		} {
			mustLoad(t, right)
		}
		for _, wrong := range []string{
			columns + "0,0 A63.A!",
			columns + "-20,2 65B!",
			columns + "0,0 A$64.A!",
			columns + "0,0 64.A$A!",
			columns + "9999,0 AA!",
			columns + "9999,0 .B!",
			columns + "9950,0 99.A!",
			columns + "0,0 99.99.99.99.99.99.99.99.99.99.99.99.99.99.99.99.99.99.A$A!",
			columns + "9999," + "0 $$99.A!",
			rows + "0,0 A64$A!",
			rows + "2,0 B$64$B!",
			rows + "0,9999 $A!",
			rows + "0,9998 A$A$A!",
			rows + "0,-9999 A99$A!",
		} {
			refuse(t, wrong, 0, api.ErrRoom)
		}
	}
	// Sides that are not endless need no room.
	mustLoad(t, "MB/S P12,12 0 -9999,-9999 A99.A99$A!")
	mustLoad(t, "MB/S T12,12 0 9999,9999 A99.A99$A!")
}

func TestP4Body(t *testing.T) {
	for _, c := range []struct{ text, want string }{
		{"MB3/S23 P5,4 0 1,1 .A$..A$3A!", "MB3/S23 P5,4 0 1,1 .A$2.A$3A!"},
		{"VB01234/S4/3 T3+2,2 5 -1,-1 3B$3A$BA!", "VB01234/S4/3 T3+2,2 5 0,0 2A$A!"},
		{"MB/S P4,4 0 0,0 A$2$A!", "MB/S P4,4 0 0,0 A3$A!"},
		// Rows go back to the column at which the body begins.
		{"MB/S P4,4 0 2,0 A$A$2.A!", "MB/S P4,4 0 2,0 A$A!"},
		{"MB/S P4,4 0 -2,0 A$2.A$5.A!", "MB/S P4,4 0 0,1 A$3.A!"},
		{"MB/S P4,4 0 1,1 99$A!", "MB/S P4,4 0 0,0 !"},
		// What lies beyond an edge is left out, and does not fold.
		{"MB/S P2,2 0 -9,-9 99A!", "MB/S P2,2 0 0,0 !"},
		{"MB/S P2,2 0 -1,-1 4A$4A$4A$4A!", "MB/S P2,2 0 0,0 2A$2A!"},
		{"MB/S T2,2 0 2,2 A!", "MB/S T2,2 0 0,0 !"},
		{"MB/S K2*,2 0 0,2 2A!", "MB/S K2*,2 0 0,0 !"},
		{"MB/S K2,2* 0 -2,0 2A!", "MB/S K2,2* 0 0,0 !"},
		{"MB/S C2,2 0 1,1 2A$2A!", "MB/S C2,2 0 1,1 A!"},
		{"MB/S S2,2 0 -1,0 A$A!", "MB/S S2,2 0 0,0 !"},
		{"MB/S/9 S2,2 0 -1,-1 ABAB$CDEF$GHGH$A!", "MB/S/9 S2,2 0 0,0 DE$HG!"},
		{"MB/S T0,2 0 -9999,-1 3A$.A$2.A$3A!", "MB/S T0,2 0 -9998,0 A$.A!"},
		{"MB/S P2,0 0 -1,9998 4A$4A!", "MB/S P2,0 0 0,9998 2A$2A!"},
		// A run that passes the edge keeps its part before it.
		{"MB/S/9 P12,1 999999 0,0 4.3A2B3C9H!", "MB/S/9 P12,1 999999 4,0 3A2B3C!"},
	} {
		w := mustLoad(t, c.text)
		wantSave(t, w, c.want)
		again := mustLoad(t, c.want)
		wantSave(t, again, c.want)
	}
}

// Every shape keeps its cells, whatever stands round them in the body.
func TestP4AllShapes(t *testing.T) {
	for _, f := range allForms() {
		m := &model{rule: "HB2/S34/4", states: 4, form: f, age: 3, live: map[[2]int]int{}}
		body := ""
		for y := -1; y <= 12; y++ {
			for x := -1; x <= 12; x++ {
				state := (x*x + 3*y + 9) % 4
				body += ".ABC"[state:][:1]
				if f.has(x, y) {
					m.set(x, y, state)
				}
			}
			body += "$"
		}
		w := mustLoad(t, "HB2/S34/4 "+f.String()+" 3 -1,-1 "+squeeze(body)+"!")
		wantSave(t, w, m.save())
	}
}
