package check

import (
	"strings"

	"quartermaster/chars"
)

const (
	mostDigits = 18
	half       = mostDigits / 2
)

// integer is an integer of up to 18 digits as two numbers of up to 9 digits
// with its sign, which binary64 holds exactly. That of -0 is a negative zero,
// which equals zero.
type integer struct{ high, low float64 }

// read returns the integer that s represents, and whether it represents one.
func read(s string) (integer, bool) {
	digits, negative := strings.CutPrefix(s, "-")
	if !chars.Number(digits, 1, mostDigits) {
		return integer{}, false
	}
	at := max(len(digits)-half, 0)
	x := integer{value(digits[:at]), value(digits[at:])}
	if negative {
		x = integer{-x.high, -x.low}
	}
	return x, true
}

func value(digits string) float64 {
	n := 0.0
	for i := range len(digits) {
		n = n*10 + float64(digits[i]-'0')
	}
	return n
}

// holds reports whether a comparison holds.
func (x integer) holds(op string, y integer) bool {
	less := x.high < y.high || x.high == y.high && x.low < y.low
	same := x.high == y.high && x.low == y.low
	switch op {
	case "-eq":
		return same
	case "-ne":
		return !same
	case "-lt":
		return less
	case "-le":
		return less || same
	case "-gt":
		return !less && !same
	}
	return !less
}
