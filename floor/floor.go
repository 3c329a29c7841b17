// Package floor divides whole numbers so that the rest is never below 0.
package floor

// Mod is the rest, 0 to n - 1, of a divided by n; it is 0 where n is not above 0.
func Mod(a int, n int) int {
	if n <= 0 {
		return 0
	}
	rest := a % n
	if rest < 0 {
		return rest + n
	}
	return rest
}

// Div is the number d with a = d * n + Mod(a, n); it is 0 where n is not above 0.
func Div(a int, n int) int {
	if n <= 0 {
		return 0
	}
	// Taking the rest from a before dividing could pass the least int.
	if a%n < 0 {
		return a/n - 1
	}
	return a / n
}
