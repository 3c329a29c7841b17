package text

// reader walks over a text. It steps over a byte only where some right text goes on so; hence at is, when reading fails, the length of the longest beginning that is right.
type reader struct {
	text string
	at   int
}

// sees tells whether mark is the next byte.
func (r *reader) sees(mark byte) bool {
	return r.at < len(r.text) && r.text[r.at] == mark
}

// take steps over mark, if it is the next byte.
func (r *reader) take(mark byte) bool {
	if !r.sees(mark) {
		return false
	}
	r.at++
	return true
}

// letter steps over one of the letters and gives it.
func (r *reader) letter(letters string) (byte, bool) {
	for i := 0; i < len(letters); i++ {
		if r.take(letters[i]) {
			return letters[i], true
		}
	}
	return 0, false
}

// digit tells the value of the next byte, and does not step over it; -1 where it is no digit.
func (r *reader) digit() int {
	if r.at >= len(r.text) {
		return -1
	}
	mark := r.text[r.at]
	if mark < '0' || mark > '9' {
		return -1
	}
	return int(mark - '0')
}

// number reads a number from low to high; neither is below 0.
func (r *reader) number(low int, high int) (int, bool) {
	start := r.at
	value := 0
	for r.at < len(r.text) {
		digit := r.digit()
		noughtAhead := value == 0 && r.at > start
		if digit < 0 || noughtAhead || !begins(value*10+digit, low, high) {
			break
		}
		value = value*10 + digit
		r.at++
	}
	return value, r.at > start && value >= low && value <= high
}

// begins tells whether the digits of value are the first ones of a number from low to high.
func begins(value int, low int, high int) bool {
	if value == 0 {
		return low == 0
	}
	// All numbers with these digits and so many more lie from first to last.
	last := value
	for first := value; first <= high; first = first * 10 {
		if last >= low {
			return true
		}
		last = last*10 + 9
	}
	return false
}

// signed reads a number from -most to most.
func (r *reader) signed(most int) (int, bool) {
	if !r.take('-') {
		return r.number(0, most)
	}
	value, ok := r.number(1, most)
	return -value, ok
}
