// Package rule: by which neighbours a world's cells live.
package rule

// MaxNeighbours is how many neighbours a cell has at the most.
const MaxNeighbours = 8

// Set tells of each number of neighbours whether it belongs to the set.
type Set [MaxNeighbours + 1]bool

// The neighbourhoods, by their letters in a text.
const (
	Moore   = 'M'
	Neumann = 'V'
	Hexagon = 'H'
)

// Rule is a neighbourhood, its births and survivals, and its number of states.
type Rule struct {
	Around    byte
	Births    Set
	Survivals Set
	States    int
}

// Neighbours tells how many neighbours a cell has in the neighbourhood; 0 where there is no such neighbourhood.
func Neighbours(around byte) int {
	switch around {
	case Moore:
		return 8
	case Neumann:
		return 4
	case Hexagon:
		return 6
	}
	return 0
}

// Has tells whether the rule has that state.
func (r Rule) Has(state int) bool {
	return state >= 0 && state < r.States
}

// Near tells whether (x + dx, y + dy) is a neighbour of (x, y); dx and dy are -1, 0 or 1.
func (r Rule) Near(dx int, dy int) bool {
	switch r.Around {
	case Moore:
		return dx != 0 || dy != 0
	case Neumann:
		return (dx == 0) != (dy == 0)
	case Hexagon:
		return dx != -dy
	}
	return false
}

// Next gives the state that follows on a state, where so many neighbours have the state 1.
func (r Rule) Next(state int, ones int) int {
	if state == 0 && r.Births.has(ones) {
		return 1
	}
	if state == 0 {
		return 0
	}
	if state == 1 && r.Survivals.has(ones) {
		return 1
	}
	if state+1 >= r.States {
		return 0
	}
	return state + 1
}

func (s Set) has(number int) bool {
	return number >= 0 && number < len(s) && s[number]
}
