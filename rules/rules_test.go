package rules

import (
	"fmt"
	"strconv"
	"strings"
	"testing"

	"quartermaster/api"
	"quartermaster/vfs"
)

// told writes a makefile down: its macros, and its rules in brackets.
func told(m api.Makefile) string {
	var l []string
	for _, p := range m.Macros {
		l = append(l, p.Name+"="+p.Value)
	}
	for _, r := range m.Rules {
		s := strings.Join(r.Targets, " ") + ":" + strings.Join(r.Needs, " ")
		for _, x := range r.Recipe {
			s += ";" + x
		}
		l = append(l, "["+s+"]")
	}
	return strings.Join(l, " ")
}

func lay(t *testing.T, l ...string) *vfs.FS {
	t.Helper()
	f := vfs.New(500, 1<<20)
	f.Mkdir("/d")
	for _, x := range l {
		p, data, _ := strings.Cut(x, "=")
		if err := f.Write(p, []byte(data), false); err != api.OK {
			t.Fatal(p, err)
		}
	}
	return f
}

func check(t *testing.T, f *vfs.FS, s, want string, given ...api.Pair) {
	t.Helper()
	m, err := Read(f, "/d", s, given)
	got := told(m)
	if err != api.OK {
		if got != "" {
			t.Errorf("P2001: %q: a makefile beside an error", s)
		}
		got = fmt.Sprintf("!%d", err)
	}
	if got != want {
		t.Errorf("P2001: Read(%.80q): %.200s, not %s", s, got, want)
	}
}

func TestDefinitions(t *testing.T) {
	for s, want := range map[string]string{
		"": "", "A=b": "A=b", "A = b c ": "A=b c", "A=": "A=", "A =": "A=", "A\t=\t b": "A=b", "A=b=c": "A=b=c", "A=$(B) $$": "A=$(B) $$",
		"A=b\nA=c": "A=c", "B=1\nA=2": "A=2 B=1", "a.b-c_9=1": "a.b-c_9=1", "A=b # c": "A=b", "A=b:c;d": "A=b:c;d", "A=\\\n b": "A=b",
		"A:=b": "A=b", "A::=b": "A=b", "A := b": "A=b", "B=1\nA:=$(B)$(B)\nB=2": "A=11 B=2", "A:=$$x": "A=$$x", "A:=$$$$": "A=$$$$",
		"A:=x$": "A=x$$", "A:=$(none)": "A=", "A=1\nA:=$(A)2": "A=12", "B=$$(C)\nA:=$(B)": "A=$$(C) B=$$(C)", "A::=$(A)": "A=",
		"A+=b": "A=b", "A=a\nA+=b\nA += c": "A=a b c", "A=\nA+=b": "A=b", "A=a\nA+=": "A=a ", "A=1\nA+=$(B)": "A=1 $(B)",
		"A:=1\nA+=$(B)": "A=1 $(B)", "A=$(A)\nA+=x": "A=$(A) x",
		"A?=b": "A=b", "A=a\nA?=b": "A=a", "A=\nA?=b": "A=", "A?=$(B)": "A=$(B)", "A?=1\nA?=2": "A=1", "A-=b": "A-=b", "include=x": "include=x",
		"include = x": "include=x", "includes x=1:": "[includes x=1:]", "+=b": "!2", "A\\\n=b": "A=b",
		"A==b": "A==b", "A:==b": "A==b", "A=+=b": "A=+=b", "9=x": "9=x", "-=x": "-=x", ".=x": ".=x",
		strings.Repeat("n", 60) + "=x": strings.Repeat("n", 60) + "=x", strings.Repeat("n", 61) + "=x": "!2",
		strings.Repeat("n", 61) + ":=x": "[" + strings.Repeat("n", 61) + ":=x]",
		"A b=c":                         "!2", "A : = c": "[A:= c]", "A b := c": "[A b:= c]", "$(A)=b": "!2", "A:::=b": "!2", "A::b": "!2",
		"=b": "!2", ":=b": "!2",
		"A!=b": "!2", "A ? = b": "!2", "A:=$(": "!2", "A=$(": "A=$(", "A:=$(B)\nB=$(": "A= B=$(", "A=$(A)\nB:=$(A)": "!18", "A?=$(\nA?=$(": "A=$(",
	} {
		check(t, nil, s, want)
	}
}

func TestGiven(t *testing.T) {
	given := []api.Pair{{Name: "G", Value: "1"}, {Name: "no name", Value: "2"}, {Name: "G", Value: "$(H)"}, {Name: "", Value: "3"},
		{Name: "H", Value: "h"}}
	for s, want := range map[string]string{
		"": "G=$(H) H=h", "G=2": "G=$(H) H=h", "G:=2": "G=$(H) H=h", "G+=2": "G=$(H) H=h", "G?=2": "G=$(H) H=h", "G::=$(": "G=$(H) H=h",
		"A:=$(G)": "A=h G=$(H) H=h", "A=2": "A=2 G=$(H) H=h", "$(G): a": "G=$(H) H=h [h:a]",
	} {
		check(t, nil, s, want, given...)
	}
	var many []api.Pair
	for i := range 205 {
		many = append(many, api.Pair{Name: "g" + strconv.Itoa(i)})
	}
	if m, err := Read(nil, "/", "g7=1\na: b", many); err != api.OK || len(m.Macros) != 205 {
		t.Errorf("P2001: many macros that are given: error %d", err)
	}
	if _, err := Read(nil, "/", "A=1", many); err != api.ErrLong {
		t.Errorf("P2001: many macros that are given: error %d", err)
	}
}

func TestRules(t *testing.T) {
	for s, want := range map[string]string{
		"a: b c\n\td": "[a:b c;d]", "a:": "[a:]", "a b : c": "[a b:c]", "a:b": "[a:b]", " a : b ": "[a:b]", "a:\n\tb\n\n\tc": "[a:;b;c]",
		"a:\nb:\n\tc": "[a:] [b:;c]", "a:\nA=1\n\tb": "A=1 [a:;b]", "a:\n\t": "[a:;]", "a:\n\t b $(c) # d": "[a:; b $(c) # d]",
		"a:\n\tb\\\n\tc": "[a:;b\\\nc]",
		"a: b; c":        "[a:b;c]", "a:;": "[a:;]", "a:; \tb ; c": "[a:;b ; c]", "a: b;c\n\td": "[a:b;c;d]", "a:;$(x": "[a:;$(x]",
		"a: $(X;) b; c": "[a:b;c]", "a: ${X;} b; c": "[a:b;c]", "a: $(X(;)) b; c": "[a:b;c]", "a: $; b; c": "[a:b;c]", "a: $$; c": "[a:$;c]",
		"a: $$;c": "[a:$;c]", "X=x;y\na: $(X);z": "X=x;y [a:x;y;z]", "a: b\\#;c": "[a:b#;c]", "a: $": "[a:$]", "a:;b:c": "[a:;b:c]",
		"T=a b\nN=c d\n$(T): $(N) e": "N=c d T=a b [a b:c d e]", "S=a: b\n$(S)": "S=a: b [a:b]", "E=\na: $(E)": "E= [a:]",
		"X=b\na: $(X)\nX=c": "X=c [a:b]", "L=a.c b.c\n$(L:.c=.o): x": "L=a.c b.c [a.o b.o:x]", "a: $$x": "[a:$x]",
		"%.o: %.c\n\tcc": "[%.o:%.c;cc]", "%.a %.b: c": "[%.a %.b:c]", ".SUFFIXES: .c .o": "[.SUFFIXES:.c .o]", ".c.o:; x": "[.c.o:;x]",
		"a: %": "[a:%]", ".PHONY:": "[.PHONY:]", "include: a": "[include:a]", "a: b\na: c": "[a:b] [a:c]", "a a: b b": "[a a:b b]",
		"\ta": "!2", "A=1\n\ta": "!2", "a": "!2", "a b": "!2", ": b": "!2", ":": "!2", "a: b: c": "!2", "a:: b": "!2", "%.o a: b": "!2",
		"a %.o: b": "!2", "$(E): b": "!2", "include": "!2", "$(": "!2", "a: $(b": "!2", "a: $(b; c": "!2", "C=:\na$(C) b$(C)": "!2", "a;b:c": "!2",
		";a:b": "!2", "A=$(A)\na: $(A)": "!18", "a\x00": "!2", "a:\n\t\x00": "!2", strings.Repeat("#", api.MaxScript+1): "!3", "A=$(A)\nb\n": "!2",
		"a: b: $(": "!2", "-include x": "!2", "includex": "!2",
	} {
		check(t, nil, s, want)
	}
}

func TestLimits(t *testing.T) {
	lines := func(n int, form string) string {
		var b strings.Builder
		for i := range n {
			b.WriteString(strings.ReplaceAll(form, "N", strconv.Itoa(i)) + "\n")
		}
		return b.String()
	}
	for i, x := range []struct {
		s    string
		want api.Errno
	}{
		{lines(200, "aN="), 0}, {lines(201, "aN="), api.ErrLong}, {lines(201, "aN:="), api.ErrLong}, {lines(201, "aN+="), api.ErrLong},
		{lines(201, "aN?="), api.ErrLong}, {lines(200, "aN=") + lines(200, "aN:=1") + "a0+=2\na1?=3", 0}, {lines(200, "aN=") + "b:=$(", api.ErrSyntax},
		{lines(300, "aN:"), 0}, {lines(301, "aN:"), api.ErrLong}, {lines(300, "aN:") + "b", api.ErrSyntax}, {"a: " + strings.Repeat("b ", 200), 0},
		{"a: " + strings.Repeat("b ", 201), api.ErrLong}, {strings.Repeat("b ", 200) + ":", 0}, {strings.Repeat("b ", 201) + ": c", api.ErrLong},
		{strings.Repeat("b ", 201) + ": c: d", api.ErrSyntax}, {strings.Repeat("b ", 201) + "%: c", api.ErrSyntax},
		{"A=" + strings.Repeat("x", 16000) + "\na: $(A)$(A)", api.ErrLong}, {"a:\n" + lines(2000, "\tN"), 0},
	} {
		if _, err := Read(nil, "/", x.s, nil); err != x.want {
			t.Errorf("P2001: %d: error %d, not %d", i, err, x.want)
		}
	}
}

func TestInclude(t *testing.T) {
	f := lay(t, "/d/one=A=1\na: $(B)\n", "/d/two=\tx\n", "/three=include d/one", "/d/bad=x", "/d/zero=\x00", "/d/self=include self", "/d/many=include "+strings.Repeat("empty ", 100), "/d/empty=", "/d/sub=I=$(I)i", "/d/defs=A+=2\nB?=3", "/d/tail=b: c \\")
	for _, x := range [][2]string{
		{"include one", "A=1 [a:]"}, {"B=b\ninclude one", "A=1 B=b [a:b]"}, {"include one\nA=2\nc: $(A)", "A=2 [a:] [c:2]"},
		{"include one two", "A=1 [a:;x]"}, {"c:\ninclude two\n\ty", "[c:;x;y]"}, {"include two", "!2"}, {"include /three", "!6"},
		{"F=one two\ninclude $(F)", "A=1 F=one two [a:;x]"}, {"include $(none)", ""}, {"include\tone", "A=1 [a:]"}, {"include ../d/one", "A=1 [a:]"},
		{"A=1\ninclude defs", "A=1 2 B=3"}, {"include none", "!6"}, {"include one none", "!6"}, {"include .", "!10"}, {"include one/x", "!11"},
		{"include " + strings.Repeat("n", 61), "!3"}, {"include bad", "!2"}, {"include zero", "!2"}, {"include bad none", "!2"}, {"include $(", "!2"},
		{"A=$(A)\ninclude $(A)", "!18"}, {"include self", "!3"}, {"include one # two", "A=1 [a:]"}, {"include one\\\n two", "A=1 [a:;x]"},
		{"include: one", "[include:one]"}, {"include one: two", "!6"}, {"include empty", ""}, {"include tail\nd: e", "[b:c] [d:e]"},
		{"a: b; include one", "[a:b;include one]"}, {"\tinclude one", "!2"},
	} {
		check(t, f, x[0], x[1])
	}
	check(t, nil, "include a", "!6")
	if _, err := Read(f, "\x00", "include one", nil); err != api.ErrArg {
		t.Errorf("P2001: a directory that can't be: error %d", err)
	}
	if _, err := Read(f, "\x00", "include /d/one", nil); err != api.ErrArg {
		t.Errorf("P2001: a directory that can't be: error %d", err)
	}
	if _, err := Read(f, "/", "include d/one", nil); err != api.OK {
		t.Errorf("P2001: another directory: error %d", err)
	}
	for i, x := range []struct {
		s    string
		want api.Errno
	}{
		{"include " + strings.Repeat("empty ", 100), 0}, {"include " + strings.Repeat("empty ", 101), api.ErrLong},
		{strings.Repeat("include empty\n", 100), 0}, {strings.Repeat("include empty\n", 101), api.ErrLong}, {"include many", api.ErrLong},
		{"include " + strings.Repeat("empty ", 100) + "none", api.ErrNone}, {"include " + strings.Repeat("empty ", 100) + "bad", api.ErrLong},
	} {
		if _, err := Read(f, "/d", x.s, nil); err != x.want {
			t.Errorf("P2001: %d: error %d, not %d", i, err, x.want)
		}
	}
	g := lay(t)
	for i := range 11 {
		g.Write("/d/f"+strconv.Itoa(i), []byte("M"+strconv.Itoa(i)+"=\ninclude f"+strconv.Itoa(i+1)), false)
	}
	g.Write("/d/f11", []byte("a:"), false)
	for i, want := range []api.Errno{api.ErrLong, api.ErrLong, api.OK, api.OK} {
		if _, err := Read(g, "/d", "include f"+strconv.Itoa(i), nil); err != want {
			t.Errorf("P2001: %d files in each other: error %d", 12-i, err)
		}
	}
}

func TestMacro(t *testing.T) {
	m, err := Read(nil, "/", "B=2\nA=$(B)", nil)
	if err != api.OK || Macro(m, "A") != "$(B)" || Macro(m, "B") != "2" || Macro(m, "C") != "" || Macro(m, "") != "" || Macro(api.Makefile{}, "A") != "" {
		t.Error("P2002: Macro")
	}
}

func TestKept(t *testing.T) {
	given := []api.Pair{{Name: "G", Value: "1"}}
	m, _ := Read(nil, "/", "A=1\na: b; c", given)
	m.Macros[1].Value = "2"
	m.Rules[0].Targets[0] = "x"
	if again, _ := Read(nil, "/", "A=1\na: b; c", given); told(again) != "A=1 G=1 [a:b;c]" || given[0].Value != "1" {
		t.Errorf("P2003: %s", told(again))
	}
}
