package floor

import (
	"math"
	"math/big"
	"testing"
)

func TestDivAndMod(t *testing.T) {
	numbers := []int{math.MinInt, math.MinInt + 1, math.MinInt + 11, math.MaxInt - 11, math.MaxInt - 1, math.MaxInt}
	for a := -200; a <= 200; a++ {
		numbers = append(numbers, a)
	}
	for _, a := range numbers {
		for n := 1; n <= 64; n++ {
			// Euclid's division is floor's where n is above 0.
			div, mod := new(big.Int).DivMod(big.NewInt(int64(a)), big.NewInt(int64(n)), new(big.Int))
			if Div(a, n) != int(div.Int64()) || Mod(a, n) != int(mod.Int64()) {
				t.Fatalf("%d by %d: %d, %d, want %d, %d", a, n, Div(a, n), Mod(a, n), div, mod)
			}
		}
	}
}

func TestNoDivisor(t *testing.T) {
	for _, a := range []int{math.MinInt, -1, 0, 1, math.MaxInt} {
		for _, n := range []int{math.MinInt, -1, 0} {
			if Div(a, n) != 0 || Mod(a, n) != 0 {
				t.Errorf("%d by %d: %d, %d, want 0, 0", a, n, Div(a, n), Mod(a, n))
			}
		}
	}
}
