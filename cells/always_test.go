package cells_test

import (
	"math"
	"math/rand"
	"strings"
	"testing"

	"cells/api"
	"cells/cells"
)

func TestP1AnyText(t *testing.T) {
	for _, n := range []int{api.MaxText + 1, 1000, 65536, 1 << 24} {
		for _, mark := range []string{"A", "9", "\x00", "\xff", "$"} {
			refuse(t, strings.Repeat(mark, n), 0, api.ErrLong)
			refuse(t, "MB/S P3,3 0 0,0 "+strings.Repeat(mark, n), 0, api.ErrLong)
		}
	}
	// Texts with a byte changed, left out or put in: either a world or an error comes, and as the world says it is read again.
	dice := rand.New(rand.NewSource(1))
	right := []string{
		"MB3/S23 P5,4 0 1,1 .A$..A$3A!",
		"VB01234/S4/3 T3+2,2 5 -1,-1 3B$3A$BA!",
		"HB2/S34/5 K12,10* 123 6,1 99A$5D!",
		"MB/S S12,12 0 3,3 A2$2A3$A!",
		"MB1/S T0,12 0 -40,0 A62.A!",
		"MB1/S P12,0 999 -4,-9999 12A12$99$6.A!",
	}
	marks := "MVHBSPTKC0123456789/,+*- .A$!\x00\x80"
	for i := 0; i < 200000; i++ {
		text := right[dice.Intn(len(right))]
		for n := dice.Intn(3); n >= 0; n-- {
			at := dice.Intn(len(text))
			behind := at + dice.Intn(2)
			mark := marks[dice.Intn(len(marks)):][:dice.Intn(2)]
			text = text[:at] + mark + text[behind:]
		}
		checkLoad(t, text)
	}
}

func checkLoad(t *testing.T, text string) {
	t.Helper()
	w, place, e := cells.Load(text)
	if (w == nil) != (e != api.OK) {
		t.Fatalf("Load(%q): error %d, world %v", text, e, w != nil)
	}
	if place < 0 || place > len(text) || place != 0 && e != api.ErrText {
		t.Fatalf("Load(%q): place %d with error %d", text, place, e)
	}
	if e == api.OK {
		wantSave(t, mustLoad(t, w.Save()), w.Save())
	}
	ended := strings.HasSuffix(text[:place], "!")
	if e == api.ErrText && ended {
		mustLoadOrRoom(t, text[:place])
	}
	if e == api.ErrText && !ended {
		// The place hangs on the bytes up to it, and the one behind them, alone.
		refuse(t, text[:place], place, api.ErrText)
		refuse(t, text[:min(place+1, len(text))], place, api.ErrText)
	}
}

// mustLoadOrRoom asks that the text is right, whether or not its cells may be so.
func mustLoadOrRoom(t *testing.T, text string) {
	t.Helper()
	_, place, e := cells.Load(text)
	if place != 0 || e != api.OK && e != api.ErrBirth && e != api.ErrRoom {
		t.Fatalf("Load(%q): %d, %d, want a right text", text, place, e)
	}
}

// No numbers make a call panic, or change a world where an error is told.
func TestP1AnyNumbers(t *testing.T) {
	numbers := append([]int{-65, -64, -63, -13, -12, -1, 0, 1, 11, 12, 13, 63, 64, 65}, farNumbers...)
	for _, f := range allForms() {
		if f.w != 12 && f.h != 12 && f.w != 1 && f.h != 1 {
			continue
		}
		w, m := fresh(t, f, 3)
		for _, x := range numbers {
			for _, y := range numbers {
				for _, state := range []int{2, math.MinInt, math.MaxInt} {
					if got, want := w.Put(x, y, state), m.put(x, y, state); got != want {
						t.Fatalf("%v: Put(%d, %d, %d): %d, want %d", f, x, y, state, got, want)
					}
				}
				if got, want := w.Get(x, y), m.get(x, y); got != want {
					t.Fatalf("%v: Get(%d, %d): %d, want %d", f, x, y, got, want)
				}
			}
		}
		wantSave(t, w, m.save())
	}
}

// Of several errors the one that is named first is told.
func TestP1FirstError(t *testing.T) {
	refuse(t, strings.Repeat("?", 500), 0, api.ErrLong)
	refuse(t, "MB0/S P0,3 0 0,0 A63.A?", 22, api.ErrText)
	refuse(t, "MB0/S P0,3 0 0,0 A63.A!", 0, api.ErrBirth)
	refuse(t, "MB1/S P0,3 0 0,0 A63.A!", 0, api.ErrRoom)
	w := mustLoad(t, "MB/S P0,3 0 0,0 A!")
	for _, p := range [][4]int{{99, 3, 2, 5}, {99999, 0, 2, 5}, {99, 2, 2, 6}, {99, 2, 1, 4}} {
		if got := w.Put(p[0], p[1], p[2]); int(got) != p[3] {
			t.Errorf("Put(%d, %d, %d): %d, want %d", p[0], p[1], p[2], got, p[3])
		}
	}
	wantSave(t, w, "MB/S P0,3 0 0,0 A!")
}

// Worlds of one text go their own ways, and a world's answers are the same whatever other worlds do between them.
func TestP2Worlds(t *testing.T) {
	for _, f := range allForms() {
		alone, m := fill(t, f)
		other, _ := fresh(t, f, 9)
		text := alone.Save()
		wantSave(t, other, "MB3/S23/9 "+f.String()+" 7 0,0 !")
		if len(text) <= api.MaxText {
			twin := mustLoad(t, text)
			third := mustLoad(t, text)
			twin.Put(0, 0, 0)
			refuse(t, "MB", 2, api.ErrText)
			wantSave(t, third, text)
			if twin.Get(0, 0) != 0 || third.Get(0, 0) != m.get(0, 0) {
				t.Fatalf("%v: a world knows of its twin", f)
			}
		}
		other.Put(0, 0, 1)
		wantSave(t, alone, text)
		if alone.Count() != len(m.live) || other.Count() != 1 {
			t.Fatalf("%v: Count: %d and %d, want %d and 1", f, alone.Count(), other.Count(), len(m.live))
		}
	}
}

// One state of a world tells nothing of the way that led to it.
func TestP2Ways(t *testing.T) {
	straight := mustLoad(t, "MB/S P0,2 0 0,0 A!")
	roundabout := mustLoad(t, "MB/S P0,2 0 -63,0 A!")
	for at := -62; at <= 0; at++ {
		if roundabout.Put(at, 0, 1) != api.OK || roundabout.Put(at-1, 0, 0) != api.OK {
			t.Fatal("a step to the right is refused")
		}
	}
	for _, at := range []int{-63, 63, 1, -1} {
		for _, state := range []int{1, 0} {
			got, want := roundabout.Put(at, 1, state), straight.Put(at, 1, state)
			if got != api.OK || want != api.OK {
				t.Fatalf("Put(%d, 1, %d): %d and %d, want OK", at, state, got, want)
			}
			wantSave(t, roundabout, straight.Save())
		}
	}
	for _, at := range []int{-64, 64} {
		if straight.Put(at, 1, 1) != api.ErrRoom || roundabout.Put(at, 1, 1) != api.ErrRoom {
			t.Fatalf("Put(%d, 1, 1): want ErrRoom", at)
		}
	}
}
