// Package rule: by which neighbours a world's cells live.
package rule

// MaxNeighbours is how many neighbours a cell has at the most.
const MaxNeighbours = 8

// Set tells of each number of neighbours whether it belongs to the set.
type Set [MaxNeighbours + 1]bool

// The neighbourhoods, by their letters in a text.
const (
	Moore   = 'M'
	Neumann = 'V'
	Hexagon = 'H'
)

// Rule is a neighbourhood, its births and survivals, and its number of states.
type Rule struct {
	Around    byte
	Births    Set
	Survivals Set
	States    int
}

// Neighbours tells how many neighbours a cell has in the neighbourhood; 0 where there is no such neighbourhood.
func Neighbours(around byte) int {
	switch around {
	case Moore:
		return 8
	case Neumann:
		return 4
	case Hexagon:
		return 6
	}
	return 0
}

// Has tells whether the rule has that state.
func (r Rule) Has(state int) bool {
	return state >= 0 && state < r.States
}
