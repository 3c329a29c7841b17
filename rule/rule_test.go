package rule

import (
	"math"
	"testing"
)

func TestNeighbours(t *testing.T) {
	for letter := 0; letter < 256; letter++ {
		want := 0
		switch letter {
		case 'M':
			want = 8
		case 'V':
			want = 4
		case 'H':
			want = 6
		}
		if got := Neighbours(byte(letter)); got != want {
			t.Errorf("%q: %d, want %d", string(rune(letter)), got, want)
		}
	}
}

func TestHas(t *testing.T) {
	r := Rule{Around: Moore, States: 3}
	for _, state := range []int{0, 1, 2} {
		if !r.Has(state) {
			t.Errorf("%d is a state", state)
		}
	}
	for _, state := range []int{math.MinInt, -1, 3, math.MaxInt} {
		if r.Has(state) {
			t.Errorf("%d is no state", state)
		}
	}
}

func TestNear(t *testing.T) {
	for _, c := range []struct {
		around byte
		near   string // by rows, from -1, -1 to 1, 1
	}{
		{Moore, "###" + "#.#" + "###"},
		{Neumann, ".#." + "#.#" + ".#."},
		{Hexagon, "##." + "#.#" + ".##"},
		{'?', "........."},
	} {
		r := Rule{Around: c.around}
		count := 0
		for i := range c.near {
			dx, dy := i%3-1, i/3-1
			got := r.Near(dx, dy)
			if got != (c.near[i] == '#') {
				t.Errorf("%q: %d, %d: %v", string(rune(c.around)), dx, dy, got)
			}
			if got {
				count++
			}
		}
		if count != Neighbours(c.around) {
			t.Errorf("%q: %d neighbours, want %d", string(rune(c.around)), count, Neighbours(c.around))
		}
	}
}

// Each number of neighbours is a birth alone, or a survival alone, once.
func TestNext(t *testing.T) {
	for states := 2; states <= 9; states++ {
		for number := 0; number <= MaxNeighbours; number++ {
			births := Rule{Around: Moore, States: states}
			births.Births[number] = true
			survivals := Rule{Around: Moore, States: states}
			survivals.Survivals[number] = true
			for ones := 0; ones <= MaxNeighbours; ones++ {
				for state := 0; state < states; state++ {
					aged := (state + 1) % states
					if state == 0 {
						aged = 0
					}
					born, kept := aged, aged
					if state == 0 && ones == number {
						born = 1
					}
					if state == 1 && ones == number {
						kept = 1
					}
					if got := births.Next(state, ones); got != born {
						t.Errorf("birth %d of %d states: %d with %d: %d, want %d", number, states, state, ones, got, born)
					}
					if got := survivals.Next(state, ones); got != kept {
						t.Errorf("survival %d of %d states: %d with %d: %d, want %d", number, states, state, ones, got, kept)
					}
				}
			}
		}
	}
}

func TestNextOutside(t *testing.T) {
	r := Rule{Around: Moore, States: 2, Births: Set{true, true, true, true, true, true, true, true, true}}
	for _, ones := range []int{math.MinInt, -1, 9, math.MaxInt} {
		if got := r.Next(0, ones); got != 0 {
			t.Errorf("0 with %d: %d, want 0", ones, got)
		}
	}
}
