package glob

import "slices"

// Heads returns the lengths of the prefixes of s that match the pattern p, in
// ascending order.
func Heads(p, s string) []int {
	return lengths(pieces(p), len(s), func(i int) byte { return s[i] })
}

// Tails returns the lengths of the suffixes of s that match the pattern p, in
// ascending order.
func Tails(p, s string) []int {
	l := pieces(p)
	slices.Reverse(l)
	return lengths(l, len(s), func(i int) byte { return s[len(s)-1-i] })
}

// lengths reads n bytes and returns after how many of them all pieces can be
// behind. It follows all ways through the pieces at once: behind[i] tells
// whether the first i of them can be.
func lengths(l []piece, n int, at func(int) byte) []int {
	behind := make([]bool, len(l)+1)
	behind[0] = true
	pass(l, behind)
	var ends []int
	if behind[len(l)] {
		ends = append(ends, 0)
	}
read:
	for i := range n {
		if !step(l, behind, at(i)) {
			break read
		}
		if behind[len(l)] {
			ends = append(ends, i+1)
		}
	}
	return ends
}

// pass goes on past the stars, which need no byte.
func pass(l []piece, behind []bool) {
	for i := range l {
		if behind[i] && l[i].kind == star {
			behind[i+1] = true
		}
	}
}

// step goes on by a byte, and reports whether there is a way left.
func step(l []piece, behind []bool, b byte) bool {
	for i := len(l); i >= 0; i-- {
		stays := i < len(l) && behind[i] && l[i].kind == star
		comes := i > 0 && behind[i-1] && l[i-1].kind != star && l[i-1].takes(b)
		behind[i] = stays || comes
	}
	pass(l, behind)
	return slices.Contains(behind, true)
}
