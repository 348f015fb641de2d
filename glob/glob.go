// Package glob matches strings against the patterns of a shell.
package glob

import (
	"slices"
	"strings"
)

// Match reports whether the whole of s matches the pattern p.
func Match(p, s string) bool {
	return match(pieces(p), s)
}

// Names returns the elements of l that match p, in ascending order and each
// once; one that begins with a dot only where p begins with one.
func Names(p string, l []string) []string {
	want := pieces(p)
	dots := strings.HasPrefix(p, ".") || strings.HasPrefix(p, `\.`)
	var names []string
	for _, s := range l {
		if (dots || !strings.HasPrefix(s, ".")) && match(want, s) {
			names = append(names, s)
		}
	}
	slices.Sort(names)
	return slices.Compact(names)
}

// Plain returns the only string that p matches, if p has neither a wildcard
// nor a set.
func Plain(p string) (string, bool) {
	var b strings.Builder
	for _, x := range pieces(p) {
		if x.kind != literal {
			return "", false
		}
		b.WriteByte(x.char)
	}
	return b.String(), true
}

// Quote returns the pattern that matches s alone.
func Quote(s string) string {
	var b strings.Builder
	for i := range len(s) {
		switch s[i] {
		case '*', '?', '[', '\\':
			b.WriteByte('\\')
		}
		b.WriteByte(s[i])
	}
	return b.String()
}

// match looks for the runs of pieces between the stars one after another,
// each as far to the left as it can be; that suffices, since a star gives
// back what a later place would give.
func match(l []piece, s string) bool {
	runs := split(l)
	head, tail := runs[0], runs[len(runs)-1]
	if len(runs) == 1 {
		return len(head) == len(s) && fits(head, s)
	}
	end := len(s) - len(tail)
	if len(head) > end || !fits(head, s) || !fits(tail, s[end:]) {
		return false
	}
	at := len(head)
runs:
	for _, run := range runs[1 : len(runs)-1] {
		for ; at+len(run) <= end; at++ {
			if fits(run, s[at:]) {
				at += len(run)
				continue runs
			}
		}
		return false
	}
	return true
}

// split returns the runs of pieces before, between and after the stars.
func split(l []piece) [][]piece {
	var runs [][]piece
	from := 0
	for i, x := range l {
		if x.kind == star {
			runs = append(runs, l[from:i])
			from = i + 1
		}
	}
	return append(runs, l[from:])
}

// fits reports whether s, which is long enough, begins with what the pieces
// of a run match.
func fits(run []piece, s string) bool {
	for i := range run {
		if !run[i].takes(s[i]) {
			return false
		}
	}
	return true
}
