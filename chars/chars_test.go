package chars

import (
	"strings"
	"testing"
)

func TestKinds(t *testing.T) {
	for i := range 256 {
		b := byte(i)
		in := func(s string) bool { return strings.IndexByte(s, b) >= 0 }
		if Digit(b) != in("0123456789") || Letter(b) != in("ABCDEFGHIJKLMNOPQRSTUVWXYZabcdefghijklmnopqrstuvwxyz") || Blank(b) != in(" \t") || Space(b) != in(" \t\n") {
			t.Errorf("byte %d", i)
		}
	}
}

func TestLengths(t *testing.T) {
	for s, want := range map[string][2]int{"": {0, 0}, "12a": {2, 0}, "a1_B-": {0, 4}, "_": {0, 1}, "9": {1, 0}, "\xff": {0, 0}, "x": {0, 1}} {
		if got := [2]int{Digits(s), Name(s)}; got != want {
			t.Errorf("%q: %v", s, got)
		}
	}
	if Number("", 1, 3) || !Number("", 0, 3) || !Number("123", 1, 3) || Number("1234", 1, 3) || Number("1a", 1, 3) || Number("-1", 1, 3) {
		t.Error("Number")
	}
}
