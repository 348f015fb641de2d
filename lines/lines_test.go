package lines

import (
	"math/rand"
	"slices"
	"strings"
	"testing"

	"quartermaster/api"
)

// told writes lines down: recipe lines between [], and others between ().
func told(l []api.Line) string {
	s := ""
	for _, x := range l {
		if x.Recipe {
			s += "[" + x.Text + "]"
		} else {
			s += "(" + x.Text + ")"
		}
	}
	return s
}

func TestRead(t *testing.T) {
	for _, x := range [][2]string{
		{"", ""}, {"\n", ""}, {"\n\n \t\n", ""}, {"a", "(a)"}, {"a\n", "(a)"}, {"a\nb", "(a)(b)"}, {"a\n\nb\n", "(a)(b)"}, {"  a \t", "(a)"},
		{" \ta", "(a)"},
		{"a \\\n  b # c", "(a b)"}, {"a\\\nb", "(a b)"}, {"a \t\\\n \t b", "(a b)"}, {"a\\\n\tb", "(a b)"}, {"a\\\\\nb", `(a\\)(b)`},
		{"a\\\\\\\nb", `(a\\ b)`}, {"a\\\n\\\nb", "(a b)"}, {"a\\\n \\\n \\\nb", "(a b)"}, {"a\\\n\nb", "(a)(b)"}, {"a\\", "(a)"}, {"a \\", "(a)"},
		{"a\\\n", "(a)"}, {"\\\na", "(a)"}, {"\\", ""}, {"\\\n", ""}, {"a\\ \nb", `(a\)(b)`}, {"a\\\n\\", "(a)"}, {"a\\\\", `(a\\)`},
		{"a\\\n b\\\n c", "(a b c)"},
		{"#a", ""}, {"a#b", "(a)"}, {"a #b\nc", "(a)(c)"}, {`a\#b`, "(a#b)"}, {`a\#b#c`, "(a#b)"}, {`a\\#b`, `(a\#b)`}, {`\#`, "(#)"},
		{"#a\\\nb\nc", "(c)"},
		{"a#\\\nb", "(a)"}, {"a\\\n#b", "(a)"}, {`a\#\#`, "(a##)"}, {`a#\#`, "(a)"}, {"a\\\\\n#", `(a\\)`}, {"a \\\n\\#b", "(a #b)"}, {" # ", ""},
		{"\\\n#", ""},
		{"\ta", "[a]"}, {"\t", "[]"}, {"\t\n", "[]"}, {"\ta\n\tb\n", "[a][b]"}, {"\t a # b ", "[ a # b ]"}, {"\ta\\\nb", "[a\\\nb]"},
		{"\ta\\\n\tb", "[a\\\nb]"},
		{"\ta\\\n\t\tb", "[a\\\n\tb]"}, {"\ta\\\n  b", "[a\\\n  b]"}, {"\ta\\", "[a\\]"}, {"\ta\\\n", "[a\\]"},
		{"\ta\\\n\\\nb\nc", "[a\\\n\\\nb](c)"}, {"\ta\\\\\nb", `[a\\](b)`},
		{"\t\\\n\\", "[\\\n\\]"}, {"\ta\\\n\n\tb", "[a\\\n][b]"}, {"\ta\\\n\t\\\nb", "[a\\\n\\\nb]"}, {"\t\ta", "[\ta]"}, {"a\n\tb\nc", "(a)[b](c)"},
		{"\t\\#", "[\\#]"}, {"a\n\n\tb", "(a)[b]"},
		{"a\r\nb", "(a\r)(b)"}, {"a\\\r\nb", "(a\\\r)(b)"}, {"\xff\xfe", "(\xff\xfe)"},
	} {
		l, err := Read(x[0])
		if got := told(l); got != x[1] || err != api.OK {
			t.Errorf("P1801: Read(%q): %q, error %d, not %q", x[0], got, err, x[1])
		}
	}
}

func TestReadErrors(t *testing.T) {
	for s, want := range map[string]api.Errno{
		strings.Repeat("a", api.MaxScript): api.OK, strings.Repeat("a", api.MaxScript+1): api.ErrLong, strings.Repeat("\x00", api.MaxScript+1): api.ErrLong,
		"a\x00": api.ErrSyntax, "#\x00": api.ErrSyntax, "\t\x00": api.ErrSyntax,
	} {
		if l, err := Read(s); err != want || err != api.OK && l != nil {
			t.Errorf("P1801: Read of %d bytes: error %d", len(s), err)
		}
	}
}

func TestWords(t *testing.T) {
	for s, want := range map[string][]string{
		"": nil, " \t\n": nil, "a": {"a"}, " a\tb\nc ": {"a", "b", "c"}, "a\rb\vc": {"a\rb\vc"}, "a\\ b": {"a\\", "b"}, "\xff \xfe": {"\xff", "\xfe"},
		"a\u00a0b\u2003c": {"a\u00a0b\u2003c"}, "é ü": {"é", "ü"},
	} {
		if got := Words(s); !slices.Equal(got, want) {
			t.Errorf("P1802: Words(%q) = %q", s, got)
		}
	}
}

func TestDrawn(t *testing.T) {
	r := rand.New(rand.NewSource(18))
	for range 50000 {
		b := make([]byte, r.Intn(12))
		for i := range b {
			b[i] = "ab\\\\\n\n\t #"[r.Intn(9)]
		}
		l, err := Read(string(b))
		again, _ := Read(string(b))
		if err != api.OK || !slices.Equal(l, again) {
			t.Fatalf("P1803: Read(%q)", b)
		}
		for _, x := range l {
			if !x.Recipe && (x.Text == "" || strings.Trim(x.Text, " \t") != x.Text || strings.Contains(x.Text, "\n")) {
				t.Fatalf("P1801: Read(%q): %q", b, told(l))
			}
		}
	}
}
