package strip

import (
	"math/rand"
	"strings"
	"testing"

	"quartermaster/glob"
)

func TestStrip(t *testing.T) {
	for _, x := range []struct{ s, p, front, frontMost, back, backMost string }{
		{"a.b.c", "*.", "b.c", "c", "a.b.c", "a.b.c"}, {"a.b.c", ".*", "a.b.c", "a.b.c", "a.b", "a"},
		{"abc", "*", "abc", "", "abc", ""}, {"abc", "", "abc", "abc", "abc", "abc"}, {"", "*", "", "", "", ""}, {"", "a", "", "", "", ""},
		{"abc", "?", "bc", "bc", "ab", "ab"}, {"abc", "abc", "", "", "", ""}, {"abc", "abcd", "abc", "abc", "abc", "abc"},
		{"aaa", "a*a", "a", "", "a", ""}, {"/a/b/", "*/", "a/b/", "", "/a/b", ""}, {"abab", "[a-b]", "bab", "bab", "aba", "aba"},
		{"a*b", `*\*`, "b", "b", "a*b", "a*b"}, {"a*b", `\**`, "a*b", "a*b", "a", "a"}, {"[x", "[", "x", "x", "[x", "[x"},
		{"x\xff", "?", "\xff", "\xff", "x", "x"}, {"ab", "?*", "b", "", "a", ""}, {"abc", "b", "abc", "abc", "abc", "abc"},
		{"aab", "*a", "ab", "b", "aab", "aab"}, {"baa", "a*", "baa", "baa", "ba", "b"},
	} {
		if got := [4]string{Front(x.s, x.p, false), Front(x.s, x.p, true), Back(x.s, x.p, false), Back(x.s, x.p, true)}; got != [4]string{x.front,
			x.frontMost, x.back, x.backMost} {
			t.Errorf("P1101: %q, %q: %q", x.s, x.p, got)
		}
	}
}

func TestDrawn(t *testing.T) {
	r := rand.New(rand.NewSource(11))
	draw := func(letters string, most int) string {
		b := make([]byte, r.Intn(most+1))
		for i := range b {
			b[i] = letters[r.Intn(len(letters))]
		}
		return string(b)
	}
	for range 100000 {
		s, p := draw("ab-]", 7), draw(`ab-]![**?\`, 7)
		front, frontMost, back, backMost := s, s, s, s
		for i := len(s); i >= 0; i-- {
			if glob.Match(p, s[:i]) {
				front = s[i:]
			}
			if glob.Match(p, s[i:]) {
				backMost = s[:i]
			}
			if j := len(s) - i; glob.Match(p, s[:j]) {
				frontMost = s[j:]
			}
			if j := len(s) - i; glob.Match(p, s[j:]) {
				back = s[:j]
			}
		}
		if got := [4]string{Front(s, p, false), Front(s, p, true), Back(s, p, false), Back(s, p, true)}; got != [4]string{front, frontMost, back,
			backMost} {
			t.Fatalf("P1101: %q, %q: %q", s, p, got)
		}
	}
}

func TestMany(t *testing.T) {
	s := strings.Repeat("a", 4096)
	p := strings.Repeat("*a", 1000)
	for range 2 {
		if Front(s, p+"b", true) != s || Back(s, "b"+p, true) != s || Front(s, p, false) != s[1000:] || Back(s, p, true) != "" {
			t.Error("P1101, P1102: many stars")
		}
	}
}
