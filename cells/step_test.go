package cells_test

import (
	"fmt"
	"math"
	"math/rand"
	"strconv"
	"testing"

	"cells/api"
	"cells/cells"
)

// digitsOf writes the numbers of a set of bits.
func digitsOf(set int) string {
	digits := ""
	for k := 0; k <= 8; k++ {
		if set&(1<<k) != 0 {
			digits += strconv.Itoa(k)
		}
	}
	return digits
}

func ruleText(letter byte, births int, survivals int, states int) string {
	all := 1<<(len(around[letter])+1) - 1
	text := string(rune(letter)) + "B" + digitsOf(births&all) + "/S" + digitsOf(survivals&all)
	if states > 2 {
		text += "/" + strconv.Itoa(states)
	}
	return text
}

// someState gives a state by chance. Ones are what is counted: there are many of them, whatever the number of states.
func someState(dice *rand.Rand, states int) int {
	if dice.Intn(3) == 0 {
		return dice.Intn(states)
	}
	return dice.Intn(2)
}

// scatter gives a world of that rule and shape with states by chance, and its model.
func scatter(t *testing.T, dice *rand.Rand, f form, rule string, states int) (*cells.World, *model) {
	t.Helper()
	m := &model{rule: rule, states: states, form: f, age: dice.Intn(1000), live: map[[2]int]int{}}
	w := mustLoad(t, m.save())
	for y := 0; y < f.h; y++ {
		for x := 0; x < f.w; x++ {
			state := someState(dice, states)
			if w.Put(x, y, state) != api.OK {
				t.Fatalf("%v: Put(%d, %d, %d) is refused", f, x, y, state)
			}
			m.set(x, y, state)
		}
	}
	return w, m
}

// wantCells holds every cell of the world, and those just beyond its edges, against the model.
func wantCells(t *testing.T, w *cells.World, m *model) {
	t.Helper()
	wantSave(t, w, m.save())
	if w.Count() != len(m.live) {
		t.Fatalf("%s: Count: %d, want %d", m.save(), w.Count(), len(m.live))
	}
	for y := -1; y <= m.form.h; y++ {
		for x := -1; x <= m.form.w; x++ {
			if got, want := w.Get(x, y), m.get(x, y); got != want {
				t.Fatalf("%s: Get(%d, %d): %d, want %d", m.save(), x, y, got, want)
			}
		}
	}
}

// Planes of all sides, with rules by chance of all neighbourhoods and numbers of states.
func TestP9P10Planes(t *testing.T) {
	dice := rand.New(rand.NewSource(9))
	for w := 1; w <= api.MaxSide; w++ {
		for h := 1; h <= api.MaxSide; h++ {
			for i := 0; i < 24; i++ {
				states := 2 + i%8
				rule := ruleText("MVH"[i%3], dice.Intn(512), dice.Intn(512), states)
				world, m := scatter(t, dice, form{kind: "P", w: w, h: h}, rule, states)
				for n := 0; n <= 3; n++ {
					wantStep(t, world, n, api.OK)
					for j := 0; j < n; j++ {
						m.step()
					}
					wantCells(t, world, m)
				}
			}
		}
	}
}

// Every pattern of the states 0, 1 and 2 in three rows of three, each with a number that is the only birth and no survival, or the only survival and no birth.
func TestP9Patterns(t *testing.T) {
	f := form{kind: "P", w: 3, h: 3}
	for _, letter := range []byte("MVH") {
		for pattern := 0; pattern < 19683; pattern++ {
			live := map[[2]int]int{}
			for i, rest := 0, pattern; i < 9; i++ {
				if rest%3 != 0 {
					live[[2]int{i % 3, i / 3}] = rest % 3
				}
				rest /= 3
			}
			k := pattern % (len(around[letter]) + 1)
			for _, rule := range []string{ruleText(letter, 1<<k, ^(1 << k), 3), ruleText(letter, ^(1 << k), 1<<k, 3)} {
				m := &model{rule: rule, states: 3, form: f, live: live}
				w := mustLoad(t, m.save())
				wantStep(t, w, 1, api.OK)
				m.step()
				wantSave(t, w, m.save())
			}
		}
	}
}

// A cell in the middle with k ones around it: at the births and survivals, and at those beside them.
func TestP9Numbers(t *testing.T) {
	for _, letter := range []byte("MVH") {
		ways := around[letter]
		for k := 0; k <= len(ways); k++ {
			for number := 0; number <= len(ways); number++ {
				for state := 0; state < 2; state++ {
					w := mustLoad(t, fmt.Sprintf("%cB%d/S%d P3,3 0 0,0 !", letter, number, number))
					for _, way := range ways[:k] {
						w.Put(1+way[0], 1+way[1], 1)
					}
					w.Put(1, 1, state)
					wantStep(t, w, 1, api.OK)
					want := 0
					if k == number {
						want = 1
					}
					if got := w.Get(1, 1); got != want {
						t.Errorf("%c, %d ones around %d, number %d: %d, want %d", letter, k, state, number, got, want)
					}
				}
			}
		}
	}
}

// A live cell without survival passes through all states, and then is dead; those above 1 count for nothing.
func TestP9States(t *testing.T) {
	for states := 2; states <= api.MaxStates; states++ {
		head := "MB12345678/S"
		if states > 2 {
			head += "/" + strconv.Itoa(states)
		}
		w := mustLoad(t, head+" P1,1 0 0,0 A!")
		for state := 2; state <= states+2; state++ {
			wantStep(t, w, 1, api.OK)
			want := state
			if state >= states {
				want = 0
			}
			if got := w.Get(0, 0); got != want {
				t.Errorf("%d states, generation %d: %d, want %d", states, state-1, got, want)
			}
		}
		if states > 2 {
			w = mustLoad(t, head+" P2,2 0 0,0 B!")
			wantStep(t, w, 1, api.OK)
			if w.Get(1, 0) != 0 || w.Get(0, 1) != 0 || w.Get(1, 1) != 0 {
				t.Errorf("%d states: state 2 bears a cell", states)
			}
		}
	}
}

// n generations are as many as n times one, and as any two parts of n.
func TestP9Many(t *testing.T) {
	dice := rand.New(rand.NewSource(90))
	for n := 0; n <= api.MaxSteps; n++ {
		states := 2 + n%8
		rule := ruleText("MVH"[n%3], dice.Intn(512), dice.Intn(512), states)
		f := form{kind: "P", w: 5 + n%8, h: 12 - n%7}
		whole, m := scatter(t, dice, f, rule, states)
		text := m.save()
		single := mustLoad(t, text)
		halves := mustLoad(t, text)
		wantStep(t, whole, n, api.OK)
		for i := 0; i < n; i++ {
			wantStep(t, single, 1, api.OK)
			m.step()
		}
		part := dice.Intn(n + 1)
		wantStep(t, halves, part, api.OK)
		wantStep(t, halves, n-part, api.OK)
		wantCells(t, whole, m)
		wantCells(t, single, m)
		wantCells(t, halves, m)
	}
}

// What ErrSteps refuses leaves the world as it is; the age may come to MaxAge and no farther.
func TestP9Refused(t *testing.T) {
	for _, c := range []struct {
		age  int
		n    int
		want api.Errno
	}{
		{0, -1, api.ErrSteps}, {0, 101, api.ErrSteps}, {0, 0, api.OK}, {0, 1, api.OK}, {0, 100, api.OK},
		{0, 1000, api.ErrSteps}, {0, math.MinInt, api.ErrSteps}, {0, math.MaxInt, api.ErrSteps},
		{5, -5, api.ErrSteps}, {5, -6, api.ErrSteps}, {999998, -1, api.ErrSteps},
		{999899, 100, api.OK}, {999900, 100, api.ErrSteps}, {999900, 99, api.OK}, {999899, 101, api.ErrSteps},
		{999998, 1, api.OK}, {999998, 2, api.ErrSteps},
		{999999, 0, api.OK}, {999999, 1, api.ErrSteps}, {999999, 100, api.ErrSteps}, {999999, -1, api.ErrSteps},
		{999999, math.MaxInt, api.ErrSteps}, {999999, math.MinInt, api.ErrSteps}, {999999, math.MaxInt - 999998, api.ErrSteps},
		{1, 1 << 32, api.ErrSteps}, {1, 1<<32 + 1, api.ErrSteps}, {1, -1<<32 + 1, api.ErrSteps},
	} {
		head := "MB3/S23 P5,5 "
		w := mustLoad(t, head+strconv.Itoa(c.age)+" 1,2 3A!")
		wantStep(t, w, c.n, c.want)
		passed := 0
		if c.want == api.OK {
			passed = c.n
		}
		body := []string{" 1,2 3A!", " 2,1 A$A$A!"}[passed%2]
		wantSave(t, w, head+strconv.Itoa(c.age+passed)+body)
	}
}

// In every shape ErrSteps comes for the same numbers, and nothing is changed.
func TestP9RefusedAllShapes(t *testing.T) {
	for _, f := range allForms() {
		w, _ := fill(t, f)
		text := w.Save()
		for _, n := range append([]int{-101, -100, -1, 101, 102}, farNumbers...) {
			wantStep(t, w, n, api.ErrSteps)
		}
		wantSave(t, w, text)
		wantStep(t, w, 0, api.OK)
		wantSave(t, w, text)
		old := mustLoad(t, "MB3/S23 "+f.String()+" 999950 0,0 A!")
		wantStep(t, old, 50, api.ErrSteps)
		wantSave(t, old, "MB3/S23 "+f.String()+" 999950 0,0 A!")
	}
}

// In these worlds a cell that changes before its neighbour is counted would change that one too, from whichever end the cells are gone through.
func TestP9AtOnce(t *testing.T) {
	for _, c := range [][2]string{
		{"MB1/S P8,1 0 0,0 A!", "MB1/S P8,1 1 1,0 A!"},
		{"MB1/S P8,1 0 7,0 A!", "MB1/S P8,1 1 6,0 A!"},
		{"VB1/S P1,8 0 0,0 A!", "VB1/S P1,8 1 0,1 A!"},
		{"VB1/S P1,8 0 0,7 A!", "VB1/S P1,8 1 0,6 A!"},
		{"MB/S2 P5,1 0 0,0 5A!", "MB/S2 P5,1 1 1,0 3A!"},
		{"MB/S2 P1,5 0 0,0 A$A$A$A$A!", "MB/S2 P1,5 1 0,1 A$A$A!"},
	} {
		w := mustLoad(t, c[0])
		wantStep(t, w, 1, api.OK)
		wantSave(t, w, c[1])
	}
}

// Step and Put go together, and a world steps alone.
func TestP9Put(t *testing.T) {
	w := mustLoad(t, "MB3/S23 P5,5 0 1,2 3A!")
	twin := mustLoad(t, "MB3/S23 P5,5 0 1,2 3A!")
	wantStep(t, w, 1, api.OK)
	wantSave(t, twin, "MB3/S23 P5,5 0 1,2 3A!")
	for _, p := range [][3]int{{2, 1, 0}, {3, 2, 1}, {3, 3, 1}} {
		if w.Put(p[0], p[1], p[2]) != api.OK {
			t.Fatalf("Put(%v) is refused", p)
		}
	}
	wantStep(t, w, 100, api.OK)
	wantSave(t, w, "MB3/S23 P5,5 101 2,2 2A$2A!")
	wantSave(t, mustLoad(t, w.Save()), w.Save())
	wantStep(t, twin, 1, api.OK)
	wantSave(t, twin, "MB3/S23 P5,5 1 2,1 A$A$A!")
}

// At each edge and corner nothing is counted from beyond, not even from the other side or from cells that the text left out.
func TestP10Edges(t *testing.T) {
	for _, c := range [][2]string{
		{"MB1/S P1,1 0 0,0 A!", "MB1/S P1,1 1 0,0 !"},
		{"MB12345678/S12345678 P1,1 0 -1,-1 3A$3A$3A!", "MB12345678/S12345678 P1,1 1 0,0 !"},
		{"MB12345678/S12345678 P12,12 0 -1,-1 14A$A12.A$A12.A$A12.A!", "MB12345678/S12345678 P12,12 1 0,0 !"},
		{"MB1/S0 P12,12 0 0,0 A!", "MB1/S0 P12,12 1 0,0 2A$2A!"},
		{"MB1/S0 P12,12 0 11,0 A!", "MB1/S0 P12,12 1 10,0 2A$2A!"},
		{"MB1/S0 P12,12 0 0,11 A!", "MB1/S0 P12,12 1 0,10 2A$2A!"},
		{"MB1/S0 P12,12 0 11,11 A!", "MB1/S0 P12,12 1 10,10 2A$2A!"},
		{"VB1/S0 P12,3 0 0,1 A!", "VB1/S0 P12,3 1 0,0 A$2A$A!"},
		{"VB1/S0 P3,12 0 1,11 A!", "VB1/S0 P3,12 1 0,10 .A$3A!"},
		{"HB1/S0 P12,12 0 0,0 A!", "HB1/S0 P12,12 1 0,0 2A$2A!"},
		{"HB1/S0 P12,12 0 11,0 A!", "HB1/S0 P12,12 1 10,0 2A$.A!"},
		{"HB1/S0 P12,12 0 0,11 A!", "HB1/S0 P12,12 1 0,10 A$2A!"},
		{"HB1/S0 P12,12 0 11,11 A!", "HB1/S0 P12,12 1 10,10 2A$2A!"},
		{"MB0/S P3,2 0 0,0 !", "MB0/S P3,2 1 0,0 3A$3A!"},
		{"MB/S8 P3,3 0 0,0 3A$3A$3A!", "MB/S8 P3,3 1 1,1 A!"},
		{"MB/S3 P3,3 0 0,0 3A$3A$3A!", "MB/S3 P3,3 1 0,0 A.A2$A.A!"},
		{"MB/S5 P3,3 0 0,0 3A$3A$3A!", "MB/S5 P3,3 1 0,0 .A$A.A$.A!"},
		{"MB/S1 P12,1 0 0,0 12A!", "MB/S1 P12,1 1 0,0 A10.A!"},
	} {
		w := mustLoad(t, c[0])
		wantStep(t, w, 1, api.OK)
		wantSave(t, w, c[1])
	}
}
