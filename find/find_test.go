package find

import (
	"slices"
	"strings"
	"testing"

	"quartermaster/api"
	"quartermaster/rules"
	"quartermaster/vfs"
)

func makefile(t *testing.T, s string) api.Makefile {
	t.Helper()
	m, err := rules.Read(nil, "/", s, nil)
	if err != api.OK {
		t.Fatalf("%q is no makefile: error %d", s, err)
	}
	return m
}

// told writes a plan down: its needs, recipe and stem, and ! if there is no rule.
func told(p api.Plan) string {
	s := strings.Join(p.Needs, " ") + "|" + strings.Join(p.Recipe, ";") + "|" + p.Stem
	if !p.Rule {
		s += "!"
	}
	return s
}

func lay(l ...string) *vfs.FS {
	f := vfs.New(99, 99)
	f.Mkdir("/d")
	for _, p := range l {
		if dir, ok := strings.CutSuffix(p, "/"); ok {
			f.Mkdir(dir)
		} else {
			f.Write(p, nil, false)
		}
	}
	return f
}

func TestKnown(t *testing.T) {
	m := makefile(t, "a b: c\n%.z: y\nd.z:\n.PHONY: e\n")
	m.Rules = append(m.Rules, api.Rule{Targets: []string{"f", "%.g"}})
	for target, want := range map[string]bool{"a": true, "b": true, "c": false, "1.z": false, "%.z": false, "d.z": true, ".PHONY": true,
		"e": false, "": false, "f": false} {
		if Known(m, target) != want {
			t.Errorf("P2101: Known(%q)", target)
		}
	}
}

func TestSpecial(t *testing.T) {
	m := makefile(t, ".PHONY: a b\n.SILENT:\n.PHONY .IGNORE: c a\n%.PHONY: d\nx: y\n.PRECIOUS:\n.PRECIOUS: p\n.MIX: q\n.MIX:")
	for name, want := range map[string]string{".PHONY": "a b c a", ".IGNORE": "c a", ".SILENT": "", ".NONE": "", "x": "y", "": "", "%.PHONY": ""} {
		if got := strings.Join(Special(m, name), " "); got != want {
			t.Errorf("P2101: Special(%q): %s", name, got)
		}
	}
	for _, x := range []struct {
		name, target string
		want         bool
	}{
		{".PHONY", "a", true}, {".PHONY", "c", true}, {".PHONY", "d", false}, {".SILENT", "a", true}, {".SILENT", "", true}, {".NONE", "a", false},
		{".IGNORE", "b", false},
		{".PRECIOUS", "p", true}, {".PRECIOUS", "q", false}, {".MIX", "q", true}, {".MIX", "p", false}, {"x", "y", true}, {"x", "z", false},
	} {
		if Has(m, x.name, x.target) != x.want {
			t.Errorf("P2101: Has(%q, %q)", x.name, x.target)
		}
	}
}

func TestPlan(t *testing.T) {
	for _, x := range []struct{ makefile, files, target, want string }{
		{"", "", "a", "||!"}, {"", "/d/a", "a", "||!"}, {"a:", "", "a", "||"}, {"a: b c\n\tr", "", "a", "b c|r|"}, {"a: b\n\tr", "", "b", "||!"},
		{"a b: c", "", "b", "c||"}, {"a: b c b\na: c d", "", "a", "b c d||"},
		{"a: b\n\tr\na: c\n\ts\na: d", "", "a", "b c d|s|"}, {"a:\n\tr\n\ts", "", "a", "|r;s|"}, {"a:;\na:", "", "a", "||"},
		{"a: a", "", "a", "a||"}, {"a:;r\na: b;", "", "a", "b||"},
		{".PHONY: a;r", "", ".PHONY", "||!"}, {".FOO:\n\tr\n%:\n\ts", "", ".FOO", "||!"}, {".A_B: x", "", ".A_B", "||!"}, {".: b", "", ".", "b||"},
		{".a: b", "", ".a", "b||"}, {".A1: b", "", ".A1", "b||"}, {"A: b", "", "A", "b||"}, {".A.B: b", "", ".A.B", "b||"},
		{"x.A: b", "", "x.A", "b||"},
		{"%.o: %.c\n\tcc", "/d/a.c", "a.o", "a.c|cc|a"}, {"%.o: %.c\n\tcc", "/a.c", "a.o", "||!"}, {"%.o: %.c\n\tcc", "/d/a.c/", "a.o", "a.c|cc|a"},
		{"%.o: %.c\n\tcc\na.c:", "", "a.o", "a.c|cc|a"}, {"%.o: %.c\n\tcc\n%.c: %.y\n\ty", "/d/a.y", "a.o", "||!"},
		{"%.o: %.c", "/d/a.c", "a.o", "||!"}, {"%.o: %.c;", "/d/a.c", "a.o", "a.c||a"}, {"%.o:\n\tcc", "", "a.o", "|cc|a"},
		{"%.o:\n\tcc", "", ".o", "||!"}, {"%.o: %.c /f\n\tcc", "/d/a.c /f", "a.o", "a.c /f|cc|a"}, {"%.o: %.c f\n\tcc", "/d/a.c", "a.o", "||!"},
		{"%.o: %.c %.c\n\tcc", "/d/a.c", "a.o", "a.c|cc|a"}, {"%.o: %.c\n\tcc", "/d/x/ /d/x/a.c", "x/a.o", "x/a.c|cc|x/a"},
		{"a.o: h\n%.o: %.c\n\tcc", "/d/a.c", "a.o", "h a.c|cc|a"}, {"a.o: a.c h\n%.o: %.c\n\tcc", "/d/a.c", "a.o", "a.c h|cc|a"},
		{"a.o: h\n\tr\n%.o: %.c\n\tcc", "/d/a.c", "a.o", "h|r|"}, {"a.o:;\n%.o: %.c\n\tcc", "/d/a.c", "a.o", "||"},
		{"%.o: %.c\n\tc\n%.o: %.s\n\ts", "/d/a.s", "a.o", "a.s|s|a"}, {"%.o: %.c\n\tc\n%.o: %.s\n\ts", "/d/a.s /d/a.c", "a.o", "a.c|c|a"},
		{"%.p %.o %: %.c\n\tc", "/d/a.c", "a.o", "a.c|c|a"}, {"% %.o: %.c\n\tc", "/d/a.c", "a.o", "||!"},
		{"% %.o: %.c\n\tc", "/d/a.o.c", "a.o", "a.o.c|c|a.o"}, {"lib%.a: %/x\n\tr", "/d/z/ /d/z/x", "libz.a", "z/x|r|z"},
		{"%: \x01\n\tr", "", "a", "||!"}, {"%.o: " + strings.Repeat("n", 61) + "\n\tr", "", "a.o", "||!"},
		{"%.o: " + strings.Repeat("n", 61) + "\n\tr\n" + strings.Repeat("n", 61) + ":", "", "a.o", strings.Repeat("n", 61) + "|r|a"},
		{".SUFFIXES: .c .o\n.c.o:\n\tcc", "/d/a.c", "a.o", "a.c|cc|a"}, {".SUFFIXES: .c .o\n.c.o:\n\tcc", "", "a.o", "||!"},
		{".SUFFIXES: .c .o\n.c.o:\n\tcc\na.c:", "", "a.o", "a.c|cc|a"}, {".SUFFIXES: .c .o\n.c.o:\n\tcc", "/d/a.c/", "a.o", "||!"},
		{".SUFFIXES: .c\n.c.o:\n\tcc", "/d/a.c", "a.o", "||!"}, {".c.o:\n\tcc", "/d/a.c", "a.o", "||!"},
		{".SUFFIXES: .c .o\n.c.o: x\n\tcc", "/d/a.c", "a.o", "||!"}, {".SUFFIXES: .c .o\n.c.o .x:\n\tcc", "/d/a.c", "a.o", "||!"},
		{".SUFFIXES: .c .o\n.c.o:", "/d/a.c", "a.o", "||!"}, {".SUFFIXES: .c .o\n.c.o:\n\tcc", "/d/.c", ".o", "||!"},
		{".SUFFIXES: .c\n.SUFFIXES: .o\n.c.o:;cc", "/d/a.c", "a.o", "a.c|cc|a"},
		{".SUFFIXES: .c .o\n.c.o:;cc\na.o: h a.c", "/d/a.c", "a.o", "h a.c|cc|a"},
		{".SUFFIXES: .c\n.c:\n\tcc", "/d/a.c", "a", "a.c|cc|a"}, {".SUFFIXES: .c\n.c:\n\tcc", "/d/a.c", "a.c", "||!"},
		{".SUFFIXES: .c\n.c:\n\tcc", "/d/a.b.c", "a.b", "a.b.c|cc|a.b"}, {".SUFFIXES: .c .o .c.o\n.c.o:\n\tcc", "/d/a.c", "a.o", "a.c|cc|a"},
		{".SUFFIXES: .c .o .c.o\n.c.o:\n\tcc", "/d/a.c.o", "a", "||!"}, {".SUFFIXES: .c.o\n.c.o:\n\tcc", "/d/a.c.o", "a", "a.c.o|cc|a"},
		{".SUFFIXES: .a .b.c .a.b .c\n.a.b.c:\n\tr", "/d/x.a", "x.b.c", "x.a|r|x"},
		{".SUFFIXES: .a.b .c .a .b.c\n.a.b.c:\n\tr", "/d/x.a", "x.b.c", "||!"},
		{".SUFFIXES: .a.b .c .a .b.c\n.a.b.c:\n\tr", "/d/x.a.b", "x.c", "x.a.b|r|x"}, {".SUFFIXES: .A .B\n.A.B:;r", "/d/x.A", "x.B", "x.A|r|x"},
		{".SUFFIXES: .A B\n.AB:;r", "/d/x.A", "xB", "||!"}, {".SUFFIXES: .a .b\n.a.a:;r", "/d/x.a", "x.a", "||!"},
		{".SUFFIXES: c o\nco:;r", "/d/xc", "xo", "||!"}, {".SUFFIXES: .c o\n.co:;r", "/d/x.c", "xo", "x.c|r|x"},
		{".SUFFIXES: .c .o\n.c.o:;s\n%.o: %.c;p", "/d/a.c", "a.o", "a.c|p|a"},
		{".SUFFIXES: .c .s .o\n.s.o:;s\n.c.o:;c", "/d/a.c /d/a.s", "a.o", "a.s|s|a"},
		{".SUFFIXES: .c .o\n.c.o:;c\n%.o: %.x;p", "/d/a.c", "a.o", "a.c|c|a"}, {".SUFFIXES: .c .o\n.c.o:;cc", "", ".c.o", "|cc|"},
		{"%:;r", "", "", "||!"}, {"", "", "", "||!"},
	} {
		m := makefile(t, x.makefile)
		if got := told(Plan(m, lay(strings.Fields(x.files)...), "/d", x.target)); got != x.want {
			t.Errorf("P2102: %q with %q: %q: %s, not %s", x.makefile, x.files, x.target, got, x.want)
		}
	}
}

func TestKept(t *testing.T) {
	m := makefile(t, "a: b\n\tr\n.PHONY: x\n%.o: %.c\n\tcc")
	f := lay("/d/a.c")
	for _, target := range []string{"a", "a.o"} {
		p := Plan(m, f, "/d", target)
		p.Needs[0], p.Recipe[0] = "other", "other"
	}
	Special(m, ".PHONY")[0] = "other"
	if told(Plan(m, f, "/d", "a")) != "b|r|" || told(Plan(m, f, "/d", "a.o")) != "a.c|cc|a" || !slices.Equal(Special(m, ".PHONY"), []string{"x"}) || f.Clock() != 2 {
		t.Error("P2103: results share their memory")
	}
	if told(Plan(m, nil, "", "a.o")) != "||!" || told(Plan(m, f, "\x00", "a.o")) != "||!" {
		t.Error("P2102: places that aren't there")
	}
}
