// Package chars tells kinds of bytes apart, for the layers.
package chars

// Digit reports whether b is a decimal digit.
func Digit(b byte) bool {
	return '0' <= b && b <= '9'
}

// Letter reports whether b is a letter A to Z or a to z.
func Letter(b byte) bool {
	return 'a' <= b|0x20 && b|0x20 <= 'z'
}

// Blank reports whether b separates the words of a line.
func Blank(b byte) bool {
	return b == ' ' || b == '\t'
}

// Space reports whether b separates words, or is the end of a line.
func Space(b byte) bool {
	return Blank(b) || b == '\n'
}

// Digits returns how many digits s begins with.
func Digits(s string) int {
	n := 0
	for n < len(s) && Digit(s[n]) {
		n++
	}
	return n
}

// Number reports whether s consists of least to most digits.
func Number(s string, least, most int) bool {
	return least <= len(s) && len(s) <= most && Digits(s) == len(s)
}

// Name returns how many bytes of s, from its beginning on, are a name: a
// letter or _, and letters, digits and _ behind it.
func Name(s string) int {
	n := 0
	for n < len(s) && (Letter(s[n]) || s[n] == '_' || n > 0 && Digit(s[n])) {
		n++
	}
	return n
}
