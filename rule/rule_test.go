package rule

import (
	"math"
	"testing"
)

func TestNeighbours(t *testing.T) {
	for letter := 0; letter < 256; letter++ {
		want := 0
		switch letter {
		case 'M':
			want = 8
		case 'V':
			want = 4
		case 'H':
			want = 6
		}
		if got := Neighbours(byte(letter)); got != want {
			t.Errorf("%q: %d, want %d", string(rune(letter)), got, want)
		}
	}
}

func TestHas(t *testing.T) {
	r := Rule{Around: Moore, States: 3}
	for _, state := range []int{0, 1, 2} {
		if !r.Has(state) {
			t.Errorf("%d is a state", state)
		}
	}
	for _, state := range []int{math.MinInt, -1, 3, math.MaxInt} {
		if r.Has(state) {
			t.Errorf("%d is no state", state)
		}
	}
}
