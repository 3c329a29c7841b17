package cells_test

import (
	"fmt"
	"math"
	"math/rand"
	"strings"
	"testing"

	"cells/api"
	"cells/cells"
)

// endlessForms are the planes and tori with an endless side, every one.
func endlessForms() []form {
	var all []form
	for _, f := range allForms() {
		if f.w == 0 || f.h == 0 {
			all = append(all, f)
		}
	}
	return all
}

// along gives the cell at a place along the endless side, and at another across it.
func (f form) along(at int, across int) (int, int) {
	if f.w == 0 {
		return at, across
	}
	return across, at
}

// strew gives a world with states by chance from one place along its endless side to another, and its model.
func strew(t *testing.T, dice *rand.Rand, f form, rule string, states int, from int, to int) (*cells.World, *model) {
	t.Helper()
	m := &model{rule: rule, states: states, form: f, age: dice.Intn(1000), live: map[[2]int]int{}}
	w := mustLoad(t, m.save())
	for at := from; at <= to; at++ {
		for across := 0; across < f.w+f.h; across++ {
			state := someState(dice, states)
			x, y := f.along(at, across)
			if w.Put(x, y, state) != api.OK {
				t.Fatalf("%v: Put(%d, %d, %d) is refused", f, x, y, state)
			}
			m.set(x, y, state)
		}
	}
	return w, m
}

// wantStrip holds the world against the model, with what is about the ends of its live cells.
func wantStrip(t *testing.T, w *cells.World, m *model) {
	t.Helper()
	wantSave(t, w, m.save())
	if w.Count() != len(m.live) {
		t.Fatalf("%s: Count: %d, want %d", m.save(), w.Count(), len(m.live))
	}
	left, top, right, bottom := m.edges()
	for _, x := range []int{left - 64, left - 1, left, right, right + 1, right + 64} {
		for _, y := range []int{top - 64, top - 1, top, bottom, bottom + 1, bottom + 64} {
			if got, want := w.Get(x, y), m.get(x, y); got != want {
				t.Fatalf("%s: Get(%d, %d): %d, want %d", m.save(), x, y, got, want)
			}
		}
	}
}

// Every shape with an endless side, with rules by chance, about 0 and at the ends of the numbers: as the model has it, with room and without.
func TestP13AllShapes(t *testing.T) {
	dice := rand.New(rand.NewSource(13))
	passed, refused := 0, 0
	for i, f := range endlessForms() {
		for j := 0; j < 36; j++ {
			states := 2 + (i+j)%8
			rule := ruleText("MVH"[j%3], dice.Intn(512)&^1, dice.Intn(512), states)
			length := 1 + dice.Intn(8)
			from := []int{-length / 2, -api.MaxAt + dice.Intn(3), api.MaxAt - length + 1 - dice.Intn(3)}[j/3%3]
			w, m := strew(t, dice, f, rule, states, from, from+length-1)
			for _, n := range []int{1, 0, 2, 5} {
				want := m.steps(n)
				wantStep(t, w, n, want)
				wantStrip(t, w, m)
				if want == api.OK {
					passed++
				} else {
					refused++
				}
			}
		}
	}
	if passed < 1000 || refused < 1000 {
		t.Errorf("%d passed, %d refused: too few to tell", passed, refused)
	}
}

// Worlds that have all the room, or nearly all.
func TestP13FullRoom(t *testing.T) {
	dice := rand.New(rand.NewSource(131))
	passed, refused := 0, 0
	for i, f := range endlessForms() {
		for j := 0; j < 12; j++ {
			states := 2 + (i+j)%8
			rule := ruleText("MVH"[j%3], dice.Intn(512)&^1, dice.Intn(512), states)
			from := dice.Intn(19000) - 9500
			w, m := strew(t, dice, f, rule, states, from, from+60+j/3)
			want := m.steps(1)
			wantStep(t, w, 1, want)
			wantStrip(t, w, m)
			if want == api.OK {
				passed++
			} else {
				refused++
			}
		}
	}
	if passed < 100 || refused < 100 {
		t.Errorf("%d passed, %d refused: too few to tell", passed, refused)
	}
}

// Each step told by hand: what lies across the endless side is as where both sides are bounded.
func TestP13Edges(t *testing.T) {
	for _, c := range [][2]string{
		{"VB1/S P0,3 0 5,0 A!", "VB1/S P0,3 1 4,0 A.A$.A!"},
		{"VB1/S P0,3 0 5,2 A!", "VB1/S P0,3 1 4,1 .A$A.A!"},
		{"VB1/S P3,0 0 0,-7 A!", "VB1/S P3,0 1 0,-8 A$.A$A!"},
		{"VB1/S P3,0 0 2,-7 A!", "VB1/S P3,0 1 1,-8 .A$A$.A!"},
		{"VB1/S T0,3 0 5,0 A!", "VB1/S T0,3 1 4,0 A.A$.A$.A!"},
		{"VB1/S T3,0 0 0,-7 A!", "VB1/S T3,0 1 0,-8 A$.2A$A!"},
		{"MB1/S P0,12 0 -1,0 A!", "MB1/S P0,12 1 -2,0 A.A$3A!"},
		{"MB1/S T0,12 0 -1,0 A!", "MB1/S T0,12 1 -2,0 A.A$3A10$3A!"},
		{"MB1/S T12,0 0 11,0 A!", "MB1/S T12,0 1 0,-1 A9.2A$A9.A$A9.2A!"},
		{"HB1/S P0,5 0 100,2 A!", "HB1/S P0,5 1 99,1 2A$A.A$.2A!"},
		{"HB1/S P5,0 0 2,-100 A!", "HB1/S P5,0 1 1,-101 2A$A.A$.2A!"},
		{"HB1/S T0,4 0 0,0 A!", "HB1/S T0,4 1 -1,0 A.A$.2A2$2A!"},
		// Sides of 1 and 2: each neighbour counts for itself.
		{"VB1/S2 T0,1 0 5,0 A!", "VB1/S2 T0,1 1 4,0 3A!"},
		{"VB1/S2 T1,0 0 0,5 A!", "VB1/S2 T1,0 1 0,4 A$A$A!"},
		{"MB3/S2 T0,1 0 5,0 A!", "MB3/S2 T0,1 1 4,0 3A!"},
		{"MB3/S2 T1,0 0 0,5 A!", "MB3/S2 T1,0 1 0,4 A$A$A!"},
		{"VB2/S T0,2 0 5,0 A!", "VB2/S T0,2 1 5,1 A!"},
		{"MB2/S T2,0 0 0,0 A!", "MB2/S T2,0 1 1,-1 A$A$A!"},
		{"VB1/S0 P0,1 0 5,0 A!", "VB1/S0 P0,1 1 4,0 3A!"},
		{"VB1/S0 P1,0 0 0,5 A!", "VB1/S0 P1,0 1 0,4 A$A$A!"},
		// States above 1 count for nothing, and cells that the text left out are nowhere.
		{"MB1/S/3 T0,3 0 0,0 B!", "MB1/S/3 T0,3 1 0,0 !"},
		{"MB12345678/S P0,2 0 0,-1 3A3$3A!", "MB12345678/S P0,2 1 0,0 !"},
		{"MB12345678/S T2,0 0 -1,0 A2.A!", "MB12345678/S T2,0 1 0,0 !"},
		// Two heaps that lie apart.
		{"MB3/S23 P0,4 0 -30,1 3A50.2A$53.2A!", "MB3/S23 P0,4 1 -29,0 A$A51.2A$A51.2A!"},
	} {
		w := mustLoad(t, c[0])
		wantStep(t, w, 1, api.OK)
		wantSave(t, w, c[1])
	}
}

// line writes a body of n ones, two or more, along the endless side.
func (f form) line(n int) string {
	if f.w == 0 {
		return fmt.Sprintf("%dA!", n)
	}
	return strings.Repeat("A$", n-1) + "A!"
}

// growing are rules by which a line of one cell's breadth grows by a cell at both ends.
func growing() map[form]string {
	return map[form]string{
		{kind: "P", w: 0, h: 1}: "MB1/S012345678",
		{kind: "P", w: 1, h: 0}: "VB1/S01234",
		{kind: "T", w: 0, h: 1}: "MB3/S012345678",
		{kind: "T", w: 1, h: 0}: "MB3/S012345678",
	}
}

// text writes a world with a line from one place on.
func (f form) text(rule string, age int, from int, length int) string {
	x, y := f.along(from, 0)
	return fmt.Sprintf("%s %v %d %d,%d %s", rule, f, age, x, y, f.line(length))
}

// What grows at both ends does so up to 64 columns or rows, and no farther.
func TestP13Grows(t *testing.T) {
	for f, rule := range growing() {
		for from := -70; from <= 70; from += 7 {
			for length := 2; length <= 5; length++ {
				w := mustLoad(t, f.text(rule, 3, from, length))
				most := (api.MaxRoom - length) / 2
				for _, n := range []int{most + 1, most + 2, 100} {
					wantStep(t, w, n, api.ErrRoom)
					wantSave(t, w, f.text(rule, 3, from, length))
				}
				wantStep(t, w, 1, api.OK)
				wantSave(t, w, f.text(rule, 4, from-1, length+2))
				wantStep(t, w, most-1, api.OK)
				wantSave(t, w, f.text(rule, 3+most, from-most, length+2*most))
				wantStep(t, w, 1, api.ErrRoom)
				wantStep(t, w, 0, api.OK)
				wantSave(t, w, f.text(rule, 3+most, from-most, length+2*most))
			}
		}
	}
}

// What grows to -9999 or 9999 may be there, and go no farther.
func TestP13Far(t *testing.T) {
	for f, rule := range growing() {
		for length := 2; length <= 4; length++ {
			for away := 0; away <= 3; away++ {
				for _, from := range []int{-api.MaxAt + away, api.MaxAt - length + 1 - away} {
					w := mustLoad(t, f.text(rule, 0, from, length))
					wantStep(t, w, away+1, api.ErrRoom)
					wantStep(t, w, 100, api.ErrRoom)
					wantSave(t, w, f.text(rule, 0, from, length))
					wantStep(t, w, away, api.OK)
					wantSave(t, w, f.text(rule, away, from-away, length+2*away))
					wantStep(t, w, 1, api.ErrRoom)
					wantSave(t, w, f.text(rule, away, from-away, length+2*away))
				}
			}
		}
	}
}

// At the ends of the numbers a world stands still, or turns inwards, as it does elsewhere.
func TestP13FarStill(t *testing.T) {
	for _, c := range []struct {
		text string
		n    int
		want string // none: no room
	}{
		{"MB/S0 P0,1 0 9999,0 A!", 100, "MB/S0 P0,1 100 9999,0 A!"},
		{"MB/S0 T1,0 0 0,-9999 A!", 100, "MB/S0 T1,0 100 0,0 !"},
		{"MB3/S23 P0,4 0 9998,1 2A$2A!", 100, "MB3/S23 P0,4 100 9998,1 2A$2A!"},
		{"MB3/S23 P4,0 0 1,-9999 2A$2A!", 100, "MB3/S23 P4,0 100 1,-9999 2A$2A!"},
		{"MB3/S23 P0,5 0 9998,1 A$A$A!", 1, "MB3/S23 P0,5 1 9997,2 3A!"},
		{"MB3/S23 P0,5 0 9998,1 A$A$A!", 100, "MB3/S23 P0,5 100 9998,1 A$A$A!"},
		{"MB3/S23 P0,5 0 9999,1 A$A$A!", 1, ""},
		{"MB3/S23 P0,5 0 9999,1 A$A$A!", 2, ""},
		{"MB3/S23 P0,5 0 -9998,1 A$A$A!", 99, "MB3/S23 P0,5 99 -9999,2 3A!"},
		{"MB3/S23 P0,5 0 -9999,1 A$A$A!", 1, ""},
		{"MB3/S23 T5,0 0 1,-9998 3A!", 1, "MB3/S23 T5,0 1 2,-9999 A$A$A!"},
		{"MB3/S23 T5,0 0 1,-9999 3A!", 1, ""},
		{"MB3/S23 T5,0 0 1,9998 3A!", 1, "MB3/S23 T5,0 1 2,9997 A$A$A!"},
		{"MB3/S23 T5,0 0 1,9999 3A!", 2, ""},
	} {
		w := mustLoad(t, c.text)
		if c.want == "" {
			wantStep(t, w, c.n, api.ErrRoom)
			wantSave(t, w, c.text)
			continue
		}
		wantStep(t, w, c.n, api.OK)
		wantSave(t, w, c.want)
	}
}

// These worlds are dead in the second generation: only the first may have no room, and it is enough.
func TestP13NoRoomAmid(t *testing.T) {
	for _, c := range []struct {
		rule, place string
		room        bool
	}{
		{"T3,0 5", "0,9998 A!", true}, {"T3,0 5", "0,9999 A!", false},
		{"T3,0 5", "0,-9998 A!", true}, {"T3,0 5", "0,-9999 A!", false},
		{"T0,3 5", "9998,0 A!", true}, {"T0,3 5", "9999,0 A!", false},
		{"T0,3 5", "-9998,0 A!", true}, {"T0,3 5", "-9999,0 A!", false},
		{"T3,0 5", "0,-20 A61$A!", true}, {"T3,0 5", "0,-20 A62$A!", false}, {"T3,0 5", "0,-20 A63$A!", false},
		{"T0,3 5", "-20,0 A60.A!", true}, {"T0,3 5", "-20,0 A61.A!", false}, {"T0,3 5", "-20,0 A62.A!", false},
	} {
		text := "MB1/S " + c.rule + " " + c.place
		for _, n := range []int{1, 2, 3, 100} {
			w := mustLoad(t, text)
			if !c.room {
				wantStep(t, w, n, api.ErrRoom)
				wantSave(t, w, text)
				continue
			}
			wantStep(t, w, n, api.OK)
			if n > 1 && w.Count() != 0 || n == 1 && w.Count() == 0 {
				t.Errorf("%s: %d live behind %d generations", text, w.Count(), n)
			}
		}
	}
}

// Two that part from one another: none of the generations passes if the last of them has no room; with one of the two gone the other goes on.
func TestP13Parting(t *testing.T) {
	for gap := 0; gap <= 9; gap++ {
		text := fmt.Sprintf("MB2/S/3 P0,2 10 0,0 AB%d.BA$AB%d.BA!", gap+2, gap+2)
		most := (api.MaxRoom - gap - 6) / 2
		for n := most + 1; n <= 100; n += 5 {
			w := mustLoad(t, text)
			wantStep(t, w, n, api.ErrRoom)
			wantSave(t, w, text)
		}
		w := mustLoad(t, text)
		wantStep(t, w, most, api.OK)
		far := gap + 2 + 2*most
		parted := fmt.Sprintf("MB2/S/3 P0,2 %d %d,0 AB%d.BA$AB%d.BA!", 10+most, -most, far, far)
		wantSave(t, w, parted)
		wantStep(t, w, 1, api.ErrRoom)
		wantSave(t, w, parted)
		for i := 0; i < 4; i++ {
			if w.Put(-most+i%2, i/2, 0) != api.OK {
				t.Fatal("a cell can't die")
			}
		}
		wantStep(t, w, 100, api.OK)
		wantSave(t, w, fmt.Sprintf("MB2/S/3 P0,2 %d %d,0 BA$BA!", 110+most, gap+4+most+100))
	}
}

// Live is every state but 0: what is above 1 needs room, too, until it is dead.
func TestP13RoomOfStates(t *testing.T) {
	for _, c := range []struct {
		text string
		n    int
		want api.Errno
	}{
		{"MB2/S/9 P0,2 0 0,0 B61.A$62.A!", 1, api.OK},
		{"MB2/S/9 P0,2 0 0,0 B61.A$62.A!", 2, api.ErrRoom},
		{"MB2/S/4 P0,2 0 0,0 B61.A$62.A!", 2, api.OK},
		{"MB2/S/3 P0,2 0 0,0 B61.A$62.A!", 2, api.OK},
		{"MB2/S/9 P2,0 0 0,0 B62$2A!", 1, api.OK},
		{"MB2/S/9 P2,0 0 0,0 B62$2A!", 2, api.ErrRoom},
		{"MB2/S/4 P2,0 0 0,0 B62$2A!", 2, api.OK},
		{"MB/S/9 P0,1 0 -9999,0 H!", 1, api.OK},
		{"MB/S/9 P1,0 0 0,9999 A!", 100, api.OK},
	} {
		w := mustLoad(t, c.text)
		wantStep(t, w, c.n, c.want)
		if c.want != api.OK {
			wantSave(t, w, c.text)
		}
	}
}

// From one end of the numbers to the other, a cell in each generation.
func TestP13Wanders(t *testing.T) {
	for _, c := range []struct {
		shape      string
		right      bool
		start, end string
	}{
		{"P0,4", true, "-9999,1 BA$BA!", "9998,1 BA$BA!"},
		{"T0,6", false, "9998,1 AB$AB!", "-9999,1 AB$AB!"},
		{"P4,0", true, "1,-9999 2B$2A!", "1,9998 2B$2A!"},
		{"T6,0", false, "1,9998 2A$2B!", "1,-9999 2A$2B!"},
	} {
		head := "MB2/S/3 " + c.shape
		w := mustLoad(t, head+" 0 "+c.start)
		for i := 0; i < 199; i++ {
			wantStep(t, w, 100, api.OK)
		}
		wantStep(t, w, 98, api.ErrRoom)
		wantStep(t, w, 97, api.OK)
		wantSave(t, w, head+" 19997 "+c.end)
		wantStep(t, w, 1, api.ErrRoom)
		wantSave(t, w, head+" 19997 "+c.end)
	}
}

// Where nothing lives nothing comes, however old the world.
func TestP13Empty(t *testing.T) {
	for _, f := range endlessForms() {
		head := "MB12345678/S012345678 " + f.String()
		w := mustLoad(t, head+" 999800 77,77 !")
		wantStep(t, w, 100, api.OK)
		wantSave(t, w, head+" 999900 0,0 !")
		wantStep(t, w, 99, api.OK)
		wantStep(t, w, 1, api.ErrSteps)
		wantStep(t, w, 0, api.OK)
		wantSave(t, w, head+" 999999 0,0 !")
	}
}

// ErrSteps is told before ErrRoom, and neither changes anything.
func TestP13StepsFirst(t *testing.T) {
	for _, c := range []struct {
		age, n int
		want   api.Errno
	}{
		{0, 1, api.ErrRoom}, {0, 100, api.ErrRoom}, {0, 101, api.ErrSteps}, {0, -1, api.ErrSteps}, {0, 0, api.OK},
		{0, math.MinInt, api.ErrSteps}, {0, math.MaxInt, api.ErrSteps},
		{999998, 1, api.ErrRoom}, {999998, 2, api.ErrSteps},
		{999999, 0, api.OK}, {999999, 1, api.ErrSteps}, {999999, math.MaxInt, api.ErrSteps},
	} {
		for _, world := range []string{"P0,2 %d 9999,0 A!", "T2,0 %d 0,-9999 A!", "P0,1 %d 0,0 A62.A!", "P1,0 %d 0,0 A63$A!"} {
			text := "MB12/S " + fmt.Sprintf(world, c.age)
			w := mustLoad(t, text)
			wantStep(t, w, c.n, c.want)
			wantSave(t, w, text)
		}
	}
}

// n generations are as many as n times one; what was read again goes on as what went on; and worlds step alone.
func TestP13Many(t *testing.T) {
	dice := rand.New(rand.NewSource(130))
	forms := endlessForms()
	for i := 0; i < 150; i++ {
		states := 2 + i%8
		rule := ruleText("MVH"[i%3], dice.Intn(512)&^3, dice.Intn(512), states)
		w, m := strew(t, dice, forms[dice.Intn(len(forms))], rule, states, 0, 2)
		text := m.save()
		single := mustLoad(t, text)
		n := 0
		for n < api.MaxSteps && single.Step(1) == api.OK {
			n++
		}
		wantSave(t, w, text)
		again := mustLoad(t, text)
		wantStep(t, again, n/2, api.OK)
		if len(again.Save()) <= api.MaxText {
			again = mustLoad(t, again.Save())
		}
		wantStep(t, again, n-n/2, api.OK)
		if n < api.MaxSteps {
			wantStep(t, w, n+1, api.ErrRoom)
			wantSave(t, w, text)
		}
		wantStep(t, w, n, api.OK)
		wantSave(t, w, single.Save())
		wantSave(t, again, single.Save())
	}
}

// Room is asked of Put as of Step, wherever the generations have led.
func TestP13Put(t *testing.T) {
	w := mustLoad(t, "MB2/S/3 P0,4 0 0,1 BA$BA!")
	wantStep(t, w, 100, api.OK)
	for _, p := range []struct {
		x, state int
		want     api.Errno
	}{
		{38, 1, api.OK}, {38, 0, api.OK}, {37, 1, api.ErrRoom}, {0, 1, api.ErrRoom}, {0, 0, api.OK},
		{163, 2, api.OK}, {164, 2, api.ErrRoom}, {163, 0, api.OK}, {-10000, 0, api.ErrCell},
	} {
		if got := w.Put(p.x, 0, p.state); got != p.want {
			t.Errorf("Put(%d, 0, %d): %d, want %d", p.x, p.state, got, p.want)
		}
	}
	wantSave(t, w, "MB2/S/3 P0,4 100 100,1 BA$BA!")
	wantStep(t, w, 1, api.OK)
	wantSave(t, w, "MB2/S/3 P0,4 101 101,1 BA$BA!")
}
