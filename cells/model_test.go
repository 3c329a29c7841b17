package cells_test

import (
	"fmt"
	"math/big"
	"strconv"
	"strings"
	"testing"

	"cells/api"
	"cells/cells"
)

// model is a world told plainly: its live cells one by one. The tests hold the program against it.
type model struct {
	rule   string
	states int
	form   form
	age    int
	live   map[[2]int]int
}

// form is a shape with the way to write it.
type form struct {
	kind           string
	w, h           int
	wShift, hShift int
	wStar, hStar   bool
}

func (f form) String() string {
	return f.kind + sideText(f.w, f.wShift, f.wStar) + "," + sideText(f.h, f.hShift, f.hStar)
}

func sideText(side int, shift int, star bool) string {
	text := strconv.Itoa(side)
	if shift > 0 {
		text += "+" + strconv.Itoa(shift)
	}
	if star {
		text += "*"
	}
	return text
}

// allForms are the shapes that the document names, every one.
func allForms() []form {
	var all []form
	for w := 0; w <= api.MaxSide; w++ {
		for h := 0; h <= api.MaxSide; h++ {
			all = append(all, formsOf(w, h)...)
		}
	}
	return all
}

func formsOf(w int, h int) []form {
	var all []form
	if w == 0 && h == 0 {
		return nil
	}
	all = append(all, form{kind: "P", w: w, h: h}, form{kind: "T", w: w, h: h})
	if w == 0 || h == 0 {
		return all
	}
	for s := 1; s < w; s++ {
		all = append(all, form{kind: "T", w: w, h: h, wShift: s})
	}
	for s := 1; s < h; s++ {
		all = append(all, form{kind: "T", w: w, h: h, hShift: s})
	}
	all = append(all, form{kind: "K", w: w, h: h, wStar: true}, form{kind: "K", w: w, h: h, hStar: true})
	all = append(all, form{kind: "C", w: w, h: h})
	if w == h {
		all = append(all, form{kind: "S", w: w, h: h})
	}
	return all
}

func (f form) has(x int, y int) bool {
	return (f.w == 0 || x >= 0 && x < f.w) && (f.h == 0 || y >= 0 && y < f.h)
}

// split is at = laps * side + rest, at numbers of any size.
func split(at int, side int) (*big.Int, *big.Int) {
	if side == 0 {
		return big.NewInt(0), big.NewInt(int64(at))
	}
	return new(big.Int).DivMod(big.NewInt(int64(at)), big.NewInt(int64(side)), new(big.Int))
}

func shift(at *big.Int, laps *big.Int, by int, side int) *big.Int {
	if by == 0 {
		return at
	}
	moved := new(big.Int).Sub(at, new(big.Int).Mul(laps, big.NewInt(int64(by))))
	return moved.Mod(moved, big.NewInt(int64(side)))
}

func turn(at *big.Int, laps *big.Int, side int) *big.Int {
	if laps.Bit(0) == 0 {
		return at
	}
	return new(big.Int).Sub(big.NewInt(int64(side-1)), at)
}

func (f form) fold(x int, y int) [2]int {
	a, x0 := split(x, f.w)
	b, y0 := split(y, f.h)
	switch {
	case f.kind == "T":
		x0, y0 = shift(x0, b, f.wShift, f.w), shift(y0, a, f.hShift, f.h)
	case f.kind == "C":
		x0, y0 = turn(x0, b, f.w), turn(y0, a, f.h)
	case f.kind == "K" && f.wStar:
		x0 = turn(x0, b, f.w)
	case f.kind == "K" && f.hStar:
		y0 = turn(y0, a, f.h)
	}
	return [2]int{int(x0.Int64()), int(y0.Int64())}
}

func (m *model) get(x int, y int) int {
	if m.form.kind == "P" || m.form.kind == "S" {
		if !m.form.has(x, y) {
			return 0
		}
		return m.live[[2]int{x, y}]
	}
	return m.live[m.form.fold(x, y)]
}

// beyond are the cells that the document names beside the edges and at the corners of a sphere, line for line.
func (f form) beyond() map[[2]int][2]int {
	n := f.w
	named := map[[2]int][2]int{{-1, -1}: {0, 0}, {n, -1}: {0, n - 1}, {-1, n}: {n - 1, 0}, {n, n}: {n - 1, n - 1}}
	for i := 0; i < n; i++ {
		named[[2]int{i, -1}] = [2]int{0, i}
		named[[2]int{-1, i}] = [2]int{i, 0}
		named[[2]int{i, n}] = [2]int{n - 1, i}
		named[[2]int{n, i}] = [2]int{i, n - 1}
	}
	return named
}

// neighbour is the state that counts at (x, y): as Get tells it, but beyond the edge of a sphere.
func (m *model) neighbour(x int, y int) int {
	if m.form.kind == "S" && !m.form.has(x, y) {
		at, named := m.form.beyond()[[2]int{x, y}]
		if !named {
			return 0
		}
		return m.live[at]
	}
	return m.get(x, y)
}

// edges are the least and greatest column and row of the live cells.
func (m *model) edges() (int, int, int, int) {
	first := true
	var left, top, right, bottom int
	for at := range m.live {
		if first {
			left, top, right, bottom = at[0], at[1], at[0], at[1]
			first = false
		}
		left, right = min(left, at[0]), max(right, at[0])
		top, bottom = min(top, at[1]), max(bottom, at[1])
	}
	return left, top, right, bottom
}

func (m *model) roomy() bool {
	if len(m.live) == 0 {
		return true
	}
	left, top, right, bottom := m.edges()
	if m.form.w == 0 && (left < -9999 || right > 9999 || right-left+1 > 64) {
		return false
	}
	return m.form.h != 0 || top >= -9999 && bottom <= 9999 && bottom-top+1 <= 64
}

func (m *model) set(x int, y int, state int) {
	if state == 0 {
		delete(m.live, [2]int{x, y})
	} else {
		m.live[[2]int{x, y}] = state
	}
}

func (m *model) put(x int, y int, state int) api.Errno {
	f := m.form
	if !f.has(x, y) || f.w == 0 && (x < -9999 || x > 9999) || f.h == 0 && (y < -9999 || y > 9999) {
		return api.ErrCell
	}
	if state < 0 || state >= m.states {
		return api.ErrState
	}
	before := m.live[[2]int{x, y}]
	m.set(x, y, state)
	if !m.roomy() {
		m.set(x, y, before)
		return api.ErrRoom
	}
	return api.OK
}

// around are the neighbours' ways from a cell, one by one.
var around = map[byte][][2]int{
	'M': {{-1, -1}, {0, -1}, {1, -1}, {-1, 0}, {1, 0}, {-1, 1}, {0, 1}, {1, 1}},
	'V': {{0, -1}, {-1, 0}, {1, 0}, {0, 1}},
	'H': {{-1, -1}, {0, -1}, {-1, 0}, {1, 0}, {0, 1}, {1, 1}},
}

// next is the state of a cell in the next generation, by the words of the document.
func (m *model) next(x int, y int) int {
	sets := strings.Split(m.rule[1:], "/")
	k := 0
	for _, way := range around[m.rule[0]] {
		if m.neighbour(x+way[0], y+way[1]) == 1 {
			k++
		}
	}
	state := m.get(x, y)
	switch {
	case state == 0 && strings.Contains(sets[0], strconv.Itoa(k)):
		return 1
	case state == 0:
		return 0
	case state == 1 && strings.Contains(sets[1], strconv.Itoa(k)):
		return 1
	}
	return (state + 1) % m.states
}

// step lets a generation pass, whether or not there is room for it.
func (m *model) step() {
	// One cell beyond the live ones would do along an endless side; with two the model does not hang on that.
	left, top, right, bottom := m.edges()
	left, top, right, bottom = left-2, top-2, right+2, bottom+2
	if m.form.w > 0 {
		left, right = 0, m.form.w-1
	}
	if m.form.h > 0 {
		top, bottom = 0, m.form.h-1
	}
	live := map[[2]int]int{}
	for y := top; y <= bottom; y++ {
		for x := left; x <= right; x++ {
			if state := m.next(x, y); state != 0 {
				live[[2]int{x, y}] = state
			}
		}
	}
	m.live = live
	m.age++
}

// steps lets n generations pass, or none if there is no room in one of them.
func (m *model) steps(n int) api.Errno {
	live, age := m.live, m.age
	for i := 0; i < n; i++ {
		m.step()
		if !m.roomy() {
			m.live, m.age = live, age
			return api.ErrRoom
		}
	}
	return api.OK
}

// save writes each row cell by cell, and then counts what stands side by side.
func (m *model) save() string {
	head := fmt.Sprintf("%s %s %d ", m.rule, m.form, m.age)
	if len(m.live) == 0 {
		return head + "0,0 !"
	}
	left, top, right, bottom := m.edges()
	var rows []string
	for y := top; y <= bottom; y++ {
		row := ""
		for x := left; x <= right; x++ {
			row += ".ABCDEFGH"[m.live[[2]int{x, y}]:][:1]
		}
		rows = append(rows, strings.TrimRight(row, "."))
	}
	return head + fmt.Sprintf("%d,%d ", left, top) + squeeze(strings.Join(rows, "$")) + "!"
}

func squeeze(body string) string {
	out := ""
	for len(body) > 0 {
		n := len(body) - len(strings.TrimLeft(body, body[:1]))
		if n > 1 {
			out += strconv.Itoa(n)
		}
		out += body[:1]
		body = body[n:]
	}
	return out
}

// fresh gives a world without live cells, and its model.
func fresh(t *testing.T, f form, states int) (*cells.World, *model) {
	t.Helper()
	m := &model{rule: "MB3/S23", states: states, form: f, age: 7, live: map[[2]int]int{}}
	if states > 2 {
		m.rule += "/" + strconv.Itoa(states)
	}
	return mustLoad(t, m.save()), m
}

func mustLoad(t *testing.T, text string) *cells.World {
	t.Helper()
	w, place, e := cells.Load(text)
	if w == nil || place != 0 || e != api.OK {
		t.Fatalf("Load(%.80q): %v, %d, %d, want a world", text, w != nil, place, e)
	}
	return w
}

// refuse asks that Load gives this error and this place, and no world.
func refuse(t *testing.T, text string, place int, e api.Errno) {
	t.Helper()
	w, gotPlace, gotE := cells.Load(text)
	if w != nil || gotPlace != place || gotE != e {
		t.Fatalf("Load(%.80q): %v, %d, %d, want no world, %d, %d", text, w != nil, gotPlace, gotE, place, e)
	}
}

func wantSave(t *testing.T, w *cells.World, want string) {
	t.Helper()
	if got := w.Save(); got != want {
		t.Fatalf("Save: %q, want %q", got, want)
	}
}

func wantStep(t *testing.T, w *cells.World, n int, want api.Errno) {
	t.Helper()
	if got := w.Step(n); got != want {
		t.Fatalf("Step(%d): %d, want %d", n, got, want)
	}
}
