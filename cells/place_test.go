package cells_test

import (
	"fmt"
	"strconv"
	"strings"
	"testing"

	"cells/api"
)

// beginnings are those of all the texts, each once.
func beginnings(texts []string) map[string]bool {
	all := map[string]bool{"": true}
	for _, text := range texts {
		for i := range text {
			all[text[:i+1]] = true
		}
	}
	return all
}

// checkPlaces lays every byte behind every beginning of a right part: it is right just if that is a beginning too.
func checkPlaces(t *testing.T, ahead string, parts []string) {
	t.Helper()
	right := beginnings(parts)
	for part := range right {
		if strings.HasSuffix(part, " ") {
			continue // What comes here is of the next part.
		}
		begun := ahead + part
		refuse(t, begun, len(begun), api.ErrText)
		for c := 0; c < 256; c++ {
			next := part + string([]byte{byte(c)})
			place := len(begun)
			if right[next] {
				place++
			}
			// What follows the byte does not save the text.
			refuse(t, ahead+next, place, api.ErrText)
			if !right[next] {
				refuse(t, ahead+next+" P3,3 0 0,0 !", place, api.ErrText)
			}
		}
	}
}

// subsets are the rising digits from 0 to most, in every choice.
func subsets(most int) []string {
	all := []string{""}
	for digit := 0; digit <= most; digit++ {
		for _, set := range all {
			all = append(all, set+strconv.Itoa(digit))
		}
	}
	return all
}

func TestP3PlacesInRules(t *testing.T) {
	var rules []string
	for _, r := range []struct {
		letter string
		most   int
	}{{"M", 8}, {"V", 4}, {"H", 6}} {
		for _, set := range subsets(r.most) {
			for _, other := range []string{"", "0", "13", fmt.Sprint(r.most)} {
				rules = append(rules, r.letter+"B"+set+"/S"+other+" ", r.letter+"B"+other+"/S"+set+" ")
				for c := 3; c <= 9; c++ {
					rules = append(rules, fmt.Sprintf("%sB%s/S%s/%d ", r.letter, other, set, c))
				}
			}
		}
	}
	right := beginnings(rules)
	for rule := range right {
		refuse(t, rule, len(rule), api.ErrText)
	}
	// The survivals above stand behind a few births only; so what goes on is told by the rules of digits.
	for rule := range right {
		if strings.HasSuffix(rule, " ") {
			continue
		}
		for _, c := range []byte("0123456789/BSMVH PTmbs-+.\x00\xff") {
			place := len(rule)
			if ruleGoesOn(rule, c) {
				place++
			}
			refuse(t, rule+string([]byte{c}), place, api.ErrText)
		}
	}
}

// ruleGoesOn tells whether c may stand behind the beginning of a rule.
func ruleGoesOn(rule string, c byte) bool {
	if rule == "" {
		return c == 'M' || c == 'V' || c == 'H'
	}
	if len(rule) == 1 {
		return c == 'B'
	}
	most := map[byte]byte{'M': '8', 'V': '4', 'H': '6'}[rule[0]]
	last := rule[len(rule)-1]
	digit := c >= '0' && c <= most && (last < '0' || last > '9' || c > last)
	switch strings.Count(rule, "/") {
	case 0:
		return digit || c == '/'
	case 1:
		if last == '/' {
			return c == 'S'
		}
		return digit || c == '/' || c == ' '
	}
	if last == '/' {
		return c >= '3' && c <= '9'
	}
	return c == ' '
}

func TestP3PlacesInShapes(t *testing.T) {
	var shapes []string
	for _, f := range allForms() {
		shapes = append(shapes, f.String()+" ")
	}
	checkPlaces(t, "MB/S ", shapes)
	checkPlaces(t, "HB0/S6/9 ", shapes)
}

func TestP3PlacesInAges(t *testing.T) {
	var ages []string
	for age := 0; age <= api.MaxAge; age += 1 + age/50 {
		ages = append(ages, strconv.Itoa(age))
	}
	ages = append(ages, "100000", "99999", "999999", "123456")
	for part := range beginnings(ages) {
		for _, c := range []byte("0123456789 -+,.!\x00\xff") {
			text := "MB/S P3,3 " + part
			place := len(text)
			digit := c >= '0' && c <= '9' && part != "0" && len(part) < 6
			if digit || c == ' ' && part != "" {
				place++
			}
			refuse(t, text+string([]byte{c}), place, api.ErrText)
		}
	}
}

func TestP3PlacesInPlaces(t *testing.T) {
	var columns, rows []string
	for n := -api.MaxAt; n <= api.MaxAt; n += 7 {
		columns = append(columns, strconv.Itoa(n))
	}
	for n := -120; n <= 120; n++ {
		columns = append(columns, strconv.Itoa(n))
	}
	columns = append(columns, "9999", "-9999", "1000", "-1000")
	for _, n := range columns {
		rows = append(rows, "-3,"+n, n+",0")
	}
	for part := range beginnings(rows) {
		for _, c := range []byte("0123456789 -+,.!A\x00\xff") {
			text := "MB/S P3,3 0 " + part
			place := len(text)
			if placeGoesOn(part, c) {
				place++
			}
			refuse(t, text+string([]byte{c}), place, api.ErrText)
		}
	}
}

// placeGoesOn tells whether c may stand behind the beginning of a place.
func placeGoesOn(part string, c byte) bool {
	number, end := part, byte(',')
	if i := strings.Index(part, ","); i >= 0 {
		number, end = part[i+1:], ' '
	}
	digits := strings.TrimPrefix(number, "-")
	switch {
	case c == '-':
		return number == ""
	case c == end:
		return digits != ""
	case c == '0' && digits == "":
		return number == ""
	case c >= '0' && c <= '9':
		return digits != "0" && len(digits) < 4
	}
	return false
}

func TestP3PlacesInBodies(t *testing.T) {
	for states := 2; states <= api.MaxStates; states++ {
		rule := "MB/S"
		if states > 2 {
			rule += "/" + strconv.Itoa(states)
		}
		marks := ".$ABCDEFGH"[:states+1]
		for _, ahead := range []string{"", "A", "3.", "99$", "$$", "2A10."} {
			text := rule + " P3,3 0 -1,2 " + ahead
			checkRun(t, text, marks)
		}
	}
}

// checkRun lays every byte behind every beginning of a run.
func checkRun(t *testing.T, text string, marks string) {
	t.Helper()
	counts := []string{""}
	for n := 1; n <= api.MaxRun; n++ {
		counts = append(counts, strconv.Itoa(n))
	}
	for _, count := range counts {
		for c := 0; c < 256; c++ {
			place := len(text) + len(count)
			digit := c >= '0' && c <= '9' && len(count) < 2 && (count != "" || c != '0')
			mark := strings.IndexByte(marks, byte(c)) >= 0 && count != "1"
			if digit || mark {
				place++
			}
			if c == '!' && count == "" {
				mustLoad(t, text+"!")
				continue
			}
			refuse(t, text+count+string([]byte{byte(c)}), place, api.ErrText)
		}
	}
}

func TestP3NothingBehindTheEnd(t *testing.T) {
	text := "MB/S P3,3 0 1,1 A!"
	mustLoad(t, text)
	for c := 0; c < 256; c++ {
		refuse(t, text+string([]byte{byte(c)}), len(text), api.ErrText)
	}
}

// A beginning of a right text is right up to its own end.
func TestP3Beginnings(t *testing.T) {
	for _, text := range []string{
		"MB012345678/S012345678/9 P12,12 999999 -9999,-9999 ABCDEFGH$2H99.99$99H!",
		"VB01234/S4/3 T3+2,2 5 -1,-1 3B$3A$BA!",
		"HB2/S34 T3,12+11 0 1,3 A2.A!",
		"HB06/S K7*,2 10 0,0 2.$2.!",
		"MB3/S23 K12,10* 0 6,1 99A!",
		"MB/S0 C12,1 0 0,0 2A3.2A3.2A$A!",
		"MB/S S12,12 0 3,3 A2$2A3$A!",
		"MB1/S P0,12 0 -40,0 A62.A!",
		"MB1/S T12,0 0 -40,0 A62.A!",
	} {
		mustLoad(t, text)
		for i := range text {
			refuse(t, text[:i], i, api.ErrText)
		}
	}
}
