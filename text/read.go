// Package text reads and writes the texts of worlds.
package text

import (
	"cells/api"
	"cells/rule"
	"cells/shape"
)

// Parts is what a text says.
type Parts struct {
	Rule   rule.Rule
	Shape  shape.Shape
	Age    int
	Column int
	Row    int
	Runs   []Run
}

// Run is a part of a body: Count cells of one state, or (with Down) so many rows on.
type Run struct {
	Count int
	State int
	Down  bool
}

// Read gives the parts of a text. Where it is none, it tells false and the place: how many bytes of it are the beginning of a right text.
func Read(text string) (Parts, int, bool) {
	r := reader{text: text}
	var parts Parts
	ok := r.head(&parts)
	if ok {
		ok = r.place(&parts)
	}
	if ok {
		ok = r.body(&parts)
	}
	return parts, r.at, ok
}

// head reads rule, shape and age, and the blanks behind them.
func (r *reader) head(parts *Parts) bool {
	rules, ok := r.rule()
	if !ok || !r.take(' ') {
		return false
	}
	form, ok := r.shape()
	if !ok || !r.take(' ') {
		return false
	}
	age, ok := r.number(0, api.MaxAge)
	if !ok {
		return false
	}
	parts.Rule = rules
	parts.Shape = form
	parts.Age = age
	return r.take(' ')
}

// place reads where the body begins, and the blank behind it.
func (r *reader) place(parts *Parts) bool {
	column, ok := r.signed(api.MaxAt)
	if !ok || !r.take(',') {
		return false
	}
	row, ok := r.signed(api.MaxAt)
	if !ok {
		return false
	}
	parts.Column = column
	parts.Row = row
	return r.take(' ')
}

func (r *reader) rule() (rule.Rule, bool) {
	around, ok := r.letter("MVH")
	if !ok || !r.take('B') {
		return rule.Rule{}, false
	}
	most := rule.Neighbours(around)
	births := r.set(most)
	if !r.take('/') {
		return rule.Rule{}, false
	}
	if !r.take('S') {
		return rule.Rule{}, false
	}
	survivals := r.set(most)
	states, ok := r.states()
	return rule.Rule{Around: around, Births: births, Survivals: survivals, States: states}, ok
}

// set reads rising digits up to most.
func (r *reader) set(most int) rule.Set {
	var set rule.Set
	least := 0
	for r.at < len(r.text) {
		digit := r.digit()
		if digit < least || digit > most || digit >= len(set) {
			break
		}
		set[digit] = true
		least = digit + 1
		r.at++
	}
	return set
}

// states reads the number of states; where none is written, there are two.
func (r *reader) states() (int, bool) {
	if !r.take('/') {
		return 2, true
	}
	return r.number(3, api.MaxStates)
}

// body reads the runs and the end of the text.
func (r *reader) body(parts *Parts) bool {
	for r.at < len(r.text) {
		if r.take('!') {
			return r.at == len(r.text)
		}
		run, ok := r.run(parts.Rule.States)
		if !ok {
			return false
		}
		parts.Runs = append(parts.Runs, run)
	}
	return false
}

func (r *reader) run(states int) (Run, bool) {
	count := 1
	if r.digit() >= 0 {
		written, ok := r.number(2, api.MaxRun)
		if !ok {
			return Run{}, false
		}
		count = written
	}
	if r.take('$') {
		return Run{Count: count, Down: true}, true
	}
	state, ok := r.state(states)
	return Run{Count: count, State: state}, ok
}

// state reads the letter of one of so many states.
func (r *reader) state(states int) (int, bool) {
	for state := 0; state < states; state++ {
		letter := stateLetter(state)
		if r.take(letter) {
			return state, true
		}
	}
	return 0, false
}

// stateLetter gives the byte that stands for a state in a body.
func stateLetter(state int) byte {
	if state <= 0 || state >= api.MaxStates {
		return '.'
	}
	return 'A' + byte(state-1)
}
