package glob

import (
	"math/rand"
	"slices"
	"strings"
	"testing"
)

func TestMatch(t *testing.T) {
	for _, x := range []struct {
		p, s string
		want bool
	}{
		{"", "", true}, {"", "a", false}, {"abc", "abc", true}, {"abc", "ab", false}, {"ab", "abc", false},
		{"*", "", true}, {"*", "a/b", true}, {"*a", "ba", true}, {"a*", "ba", false}, {"a*a", "a", false},
		{"a*b*c", "a1b2c", true}, {"a*b*c", "acb", false}, {"**x**", "x", true},
		{"?", "a", true}, {"?", "", false}, {"?", "ab", false}, {"?", "/", true}, {"?", "\xc3", true},
		{`\*`, "*", true}, {`\*`, "x", false}, {`\\`, `\`, true}, {`\`, `\`, true}, {`a\`, `a\`, true}, {`\a`, "a", true},
		{"[a-c]*", "bx", true}, {"[a-c]*", "dx", false}, {"[abc]", "", false},
		{"[!a-c]", "d", true}, {"[!a-c]", "a", false}, {"[!a]", "", false}, {"[!!]", "!", false}, {"[a!]", "!", true}, {"[^a]", "^", true},
		{"[]]", "]", true}, {"[]a]", "a", true}, {"[!]]", "]", false}, {"[!]]", "a", true}, {"[]-_]", "^", true},
		{"[a-]", "-", true}, {"[a-]", "b", false}, {"[-a]", "-", true}, {"[--0]", ".", true}, {"[+--]", ",", true}, {"[a--]", "-", false},
		{"[c-a]", "b", false}, {"[c-a]", "c", false}, {"[!c-a]", "b", true},
		{`[\]]`, "]", true}, {`[a\-c]`, "b", false}, {`[a\-c]`, "-", true}, {`[\a-\c]`, "b", true}, {`[\!a]`, "!", true}, {`[\\]`, `\`, true},
		{"[a", "[a", true}, {"[a", "a", false}, {"[", "[", true}, {"[]", "[]", true}, {"[!]", "[!]", true}, {`[a\]`, "[a]", true}, {`[\`, `[\`, true},
		{"[a*", "[abc", true}, {"[a?", "[ab", true}, {"[[a]", "[", true}, {"[][a]", "]", true}, {"[a-", "[a-", true},
		{"[*?]", "*", true}, {"[*?]", "a", false}, {"a]b", "a]b", true}, {"a-b", "a-b", true},
	} {
		if got := Match(x.p, x.s); got != x.want {
			t.Errorf("P101: Match(%q, %q) = %v", x.p, x.s, got)
		}
	}
	if Match(strings.Repeat("*a", 2000)+"b", strings.Repeat("a", 8000)) {
		t.Error("P101: many stars")
	}
	if !Match(strings.Repeat("[", 200000), strings.Repeat("[", 200000)) {
		t.Error("P101: many open sets")
	}
}

// slow follows the words of the document, byte by byte.
func slow(p, s string) bool {
	if p == "" {
		return s == ""
	}
	if p[0] == '*' {
		return slow(p[1:], s) || s != "" && slow(p, s[1:])
	}
	if p[0] == '[' {
		if ok, rest, closed := slowSet(p[1:], s); closed {
			return ok && slow(rest, s[1:])
		}
	}
	if s == "" {
		return false
	}
	if p[0] == '?' {
		return slow(p[1:], s[1:])
	}
	if p[0] == '\\' && len(p) > 1 {
		p = p[1:]
	}
	return p[0] == s[0] && slow(p[1:], s[1:])
}

func slowSet(p, s string) (ok bool, rest string, closed bool) {
	not := strings.HasPrefix(p, "!")
	if not {
		p = p[1:]
	}
	take := func() byte {
		if p[0] == '\\' && len(p) > 1 {
			p = p[1:]
		}
		c := p[0]
		p = p[1:]
		return c
	}
	in := false
	for first := true; p != ""; first = false {
		if p[0] == ']' && !first {
			return s != "" && in != not, p[1:], true
		}
		a := take()
		b := a
		if len(p) > 1 && p[0] == '-' && p[1] != ']' {
			p = p[1:]
			b = take()
		}
		in = in || s != "" && a <= s[0] && s[0] <= b
	}
	return false, "", false
}

func draw(r *rand.Rand, letters string, most int) string {
	b := make([]byte, r.Intn(most+1))
	for i := range b {
		b[i] = letters[r.Intn(len(letters))]
	}
	return string(b)
}

func TestMatchDrawn(t *testing.T) {
	r := rand.New(rand.NewSource(1))
	for range 200000 {
		p, s := draw(r, `ab-]![*?\`, 9), draw(r, `ab-]![*\`, 5)
		if Match(p, s) != slow(p, s) {
			t.Fatalf("P101: Match(%q, %q) = %v", p, s, Match(p, s))
		}
	}
}

func TestNames(t *testing.T) {
	l := []string{"b", ".x", "a", "b", ".", "ab", "*", ""}
	before := slices.Clone(l)
	for _, x := range []struct {
		p    string
		want []string
	}{
		{"*", []string{"", "*", "a", "ab", "b"}}, {".*", []string{".", ".x"}}, {`\.*`, []string{".", ".x"}}, {"?x", nil}, {"[.]x", nil},
		{`\*`, []string{"*"}}, {"", []string{""}}, {"a?", []string{"ab"}}, {"z", nil}, {"b", []string{"b"}},
	} {
		if got := Names(x.p, l); !slices.Equal(got, x.want) {
			t.Errorf("P101: Names(%q) = %q", x.p, got)
		}
	}
	if !slices.Equal(l, before) {
		t.Error("P102: Names changed its list")
	}
}

func TestNamesIsNew(t *testing.T) {
	l := []string{"a", "b"}
	got := Names("*", l)
	got[0] = "x"
	if l[0] != "a" {
		t.Error("P102: the result shares its argument's memory")
	}
}

func TestPlain(t *testing.T) {
	for p, want := range map[string]string{"": "", "abc": "abc", `\*a`: "*a", "[a": "[a", `a\`: `a\`, "[]": "[]", "[!]": "[!]", `\[a]`: "[a]",
		`[a\]`: "[a]", `\\`: `\`} {
		if got, ok := Plain(p); !ok || got != want {
			t.Errorf("P101: Plain(%q) = %q, %v", p, got, ok)
		}
	}
	for _, p := range []string{"*", "a?", "[a]", "[!a]", "[*", `\\*`, "x[]]", "[b-a]"} {
		if got, ok := Plain(p); ok || got != "" {
			t.Errorf("P101: Plain(%q) = %q, %v", p, got, ok)
		}
	}
}

func TestQuote(t *testing.T) {
	if got := Quote(`a*b?c[d]\e`); got != `a\*b\?c\[d]\\e` {
		t.Errorf("P101: Quote: %q", got)
	}
	r := rand.New(rand.NewSource(2))
	for range 2000 {
		s := draw(r, "ab-]![*?\\/\x00", 9)
		if got, ok := Plain(Quote(s)); !ok || got != s || !Match(Quote(s), s) {
			t.Fatalf("P101: Plain of Quote of %q: %q, %v", s, got, ok)
		}
	}
}

func TestEnds(t *testing.T) {
	r := rand.New(rand.NewSource(3))
	for range 50000 {
		p, s := draw(r, `ab-]![**?\`, 7), draw(r, `ab-]![\`, 6)
		var heads, tails []int
		for n := range len(s) + 1 {
			if Match(p, s[:n]) {
				heads = append(heads, n)
			}
			if Match(p, s[len(s)-n:]) {
				tails = append(tails, n)
			}
		}
		if !slices.Equal(Heads(p, s), heads) || !slices.Equal(Tails(p, s), tails) {
			t.Fatalf("P101: %q, %q: %v, %v", p, s, Heads(p, s), Tails(p, s))
		}
	}
}
