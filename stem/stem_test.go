package stem

import (
	"slices"
	"testing"
)

func TestMatch(t *testing.T) {
	for _, x := range []struct {
		p, s, stem string
		ok         bool
	}{
		{"%.o", "a.o", "a", true}, {"%.o", ".o", "", false}, {"%.o", "a.c", "", false}, {"a%", "a", "", false}, {"a%", "ab", "b", true},
		{"%", "x/y", "x/y", true}, {"%", "", "", false}, {"a%a", "aa", "", false}, {"a%a", "a", "", false}, {"a%a", "aba", "b", true},
		{"ab%ba", "aba", "", false},
		{"%%", "a%", "a", true}, {"%%", "ab", "", false}, {"a%b%", "axb%", "x", true},
		{"a.o", "a.o", "", true}, {"a.o", "b.o", "", false}, {"", "", "", true}, {"", "a", "", false},
	} {
		if got, ok := Match(x.p, x.s); got != x.stem || ok != x.ok {
			t.Errorf("P201: Match(%q, %q) = %q, %v", x.p, x.s, got, ok)
		}
	}
}

func TestFill(t *testing.T) {
	for _, x := range [][3]string{{"%.c", "a", "a.c"}, {"a", "x", "a"}, {"%%", "x", "x%"}, {"a%b", "", "ab"}, {"%", "%", "%"}, {"", "x", ""}} {
		if got := Fill(x[0], x[1]); got != x[2] {
			t.Errorf("P201: Fill(%q, %q) = %q", x[0], x[1], got)
		}
	}
}

func TestIs(t *testing.T) {
	for s, want := range map[string]bool{"a%": true, "%": true, "": false, "a": false, "%%": true} {
		if Is(s) != want {
			t.Errorf("P201: Is(%q)", s)
		}
	}
}

func TestSuffix(t *testing.T) {
	for _, x := range []struct {
		s    string
		l    []string
		want string
	}{
		{"a.tar.gz", []string{".gz", ".tar.gz", ".z"}, ".tar.gz"}, {"a.tar.gz", []string{".tar.gz", ".gz"}, ".tar.gz"},
		{".gz", []string{".gz"}, ""}, {".gz", []string{".gz", "z"}, "z"}, {"a.c", []string{""}, ""}, {"a.c", nil, ""}, {"", []string{""}, ""},
		{"a.c", []string{".o", "xa.c", ".c"}, ".c"}, {"ab", []string{"b", "ab", "cab"}, "b"},
	} {
		if got, ok := Suffix(x.s, x.l); got != x.want || ok != (x.want != "") {
			t.Errorf("P202: Suffix(%q, %q) = %q, %v", x.s, x.l, got, ok)
		}
	}
}

func TestSwap(t *testing.T) {
	for _, x := range []struct {
		l        []string
		from, to string
		want     []string
	}{
		{[]string{"a.c", "b", ".c", "c.c.c"}, ".c", ".o", []string{"a.o", "b", ".o", "c.c.o"}},
		{[]string{"a", ""}, "", "x", []string{"ax", "x"}}, {[]string{"aa"}, "a", "", []string{"a"}}, {nil, "a", "b", nil},
	} {
		before := slices.Clone(x.l)
		got := Swap(x.l, x.from, x.to)
		if !slices.Equal(got, x.want) {
			t.Errorf("P202: Swap(%q, %q, %q) = %q", x.l, x.from, x.to, got)
		}
		if !slices.Equal(x.l, before) {
			t.Error("P203: Swap changed its list")
		}
	}
	l := []string{"a"}
	if Swap(l, "z", "y")[0] = "b"; l[0] != "a" {
		t.Error("P203: Swap shares its list")
	}
}
