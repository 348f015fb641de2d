package build

import (
	"fmt"
	"reflect"
	"strconv"
	"strings"
	"testing"

	"quartermaster/api"
	"quartermaster/rules"
	"quartermaster/vfs"
)

func makefile(t *testing.T, s string) api.Makefile {
	t.Helper()
	m, err := rules.Read(nil, "/", s, nil)
	if err != api.OK {
		t.Fatalf("%q is no makefile: error %d", s, err)
	}
	return m
}

// lay makes /d with files, one after another; what ends with / is a directory.
func lay(files string) *vfs.FS {
	f := vfs.New(60, 2000)
	f.Mkdir("/d")
	for _, p := range strings.Fields(files) {
		if dir, ok := strings.CutSuffix(p, "/"); ok {
			f.Mkdir("/d/" + dir)
		} else {
			f.Write("/d/"+p, []byte(p), false)
		}
	}
	return f
}

// told writes a build down: its status, Out in brackets, Log, and steps.
func told(b api.Built) string {
	s := strconv.Itoa(b.Status) + "[" + string(b.Out) + "]" + string(b.Log)
	if b.Err != api.OK {
		s = fmt.Sprintf("error %d", b.Err)
		if !reflect.DeepEqual(b, api.Built{Err: b.Err}) {
			s += " and more"
		}
	}
	for _, x := range b.Steps {
		s += " " + x.Target + strconv.Itoa(x.What)
	}
	return strings.ReplaceAll(s, "\n", ".")
}

func flags(s string) api.Flags {
	has := func(c string) bool { return strings.Contains(s, c) }
	return api.Flags{Dry: has("n"), Keep: has("k"), Silent: has("s"), Ignore: has("i"), Touch: has("t"), Ask: has("q")}
}

type test struct{ makefile, files, flags, goals, want string }

func checks(t *testing.T, l []test) {
	t.Helper()
	for _, x := range l {
		f := lay(x.files)
		b := Run(makefile(t, x.makefile), f, "/d", strings.Fields(x.goals), flags(x.flags), nil, 1000)
		if got := told(b); got != x.want {
			t.Errorf("P2401: %q with %q, -%s %s: %s, not %s", x.makefile, x.files, x.flags, x.goals, got, x.want)
		}
	}
}

func TestSettle(t *testing.T) {
	checks(t, []test{
		{"", "a", "", "a", "0[make: a is up to date..]"}, {"", "", "", "", "0[]"}, {"", "", "", "a", "2[]make: a: error 19. a3"},
		{"a:", "", "", "a", "0[] a2"}, {"a:", "a", "", "a", "0[make: a is up to date..] a1"},
		{"a: b\n\tcp b a", "b", "", "a", "0[cp b a.] a2"}, {"a: b\n\tcp b a", "b a", "", "a", "0[make: a is up to date..] a1"},
		{"a: b\n\tcp b a", "a b", "", "a", "0[cp b a.] a2"}, {"a: b\n\tcp b a", "", "", "a", "2[]make: b: error 19. b3 a4"},
		{"a: b c\n\techo $^\nb:\n\ttouch b\nc: b\n\ttouch c", "", "", "a", "0[touch b.touch c.echo b c.b c.] b2 c2 a2"},
		{"a:\nb:", "", "", "b a b", "0[] b2 a2"}, {"a:\nb:", "a b", "", "a b a a", "0[make: a is up to date..make: b is up to date..] a1 b1"},
		{"", "a b", "", "a b a", "0[make: a is up to date..make: b is up to date..]"}, {"a: b\nb:", "", "", "a b", "0[] b2 a2"},
		{"a: b\n\ttouch a\nb:", "b", "", "a b", "0[touch a.make: b is up to date..] b1 a2"},
		{"a: b\n\ttouch a\nb:\n\t:", "", "", "a b", "0[:.touch a.] b2 a2"},
		{"a: b c\nb:\n\tfalse\nc:", "", "", "a", "2[false.]make: b: error 20. b3 a4"},
		{"a: b c\nb:\n\tfalse\nc:", "", "k", "a", "2[false.]make: b: error 20. b3 c2 a4"},
		{"a: b\nb: c\nc:\n\tfalse", "", "", "a", "2[false.]make: c: error 20. c3 b4 a4"},
		{"a: b c\nb: d\nc: d\nd:\n\tfalse", "", "k", "a", "2[false.]make: d: error 20. d3 b4 c4 a4"},
		{"a:\n\tfalse\nb:", "", "", "a b", "2[false.]make: a: error 20. a3"}, {"a:\n\tfalse\nb:", "", "k", "a b", "2[false.]make: a: error 20. a3 b2"},
		{"a: none\nb:", "", "k", "a b", "2[]make: none: error 19. none3 a4 b2"},
		{"a: none\nb: none", "", "k", "a b", "2[]make: none: error 19. none3 a4 b4"},
		{"a: b\nb: a", "", "", "a", "2[]make: a: error 18. b4 a4"}, {"a: a", "", "", "a", "2[]make: a: error 18. a4"},
		{"a: b c\nb: a\nc:", "", "k", "a", "2[]make: a: error 18. b4 c2 a4"},
		{"a: b\nb: c d\nc: a\nd: b", "", "k", "a b d", "2[]make: a: error 18.make: b: error 18. c4 d4 b4 a4"},
		{"a: b\n\ttouch a\n.PHONY: b\nb:", "a b", "", "a", "0[touch a.] b2 a2"},
		{"a: b\n\ttouch a\nb:\n\techo b", "a", "", "a", "0[echo b.b.touch a.] b2 a2"}, {".PHONY: a\na:\n\techo a", "a", "", "a", "0[echo a.a.] a2"},
		{"a: b\n\ttouch a\nb:\n\t:", "b a", "", "a", "0[make: a is up to date..] b1 a1"},
		{"a: b\n\ttouch a\nb: c\n\t:", "b a c", "", "a", "0[:.make: a is up to date..] b2 a1"},
		{"a: b\nb:\n\ttouch b", "a", "", "a", "0[touch b.] b2 a2"}, {"a: b/\n\ttouch a", "a b/", "", "a", "0[touch a.] a2"},
		{"%.o: %.c\n\tcp $< $@", "x.c", "", "x.o", "0[cp x.c x.o.] x.o2"},
		{"%.o: %.c\n\tcp $< $@", "x.c", "", "y.o x.o", "2[]make: y.o: error 19. y.o3"},
		{".SUFFIXES: .c .o\n.c.o:\n\tcp $< $@", "x.c", "", "x.o", "0[cp x.c x.o.] x.o2"},
		{"a: %.x\n%.x:\n\techo $*", "", "", "a", "0[echo %.%.] %.x2 a2"}, {"", "", "", ".PHONY", "2[]make: .PHONY: error 19. .PHONY3"},
		{"a: \x01b", "", "", "a", "2[]make: \x01b: error 19. \x01b3 a4"},
	})
}

func TestFlags(t *testing.T) {
	checks(t, []test{
		{"a: b\n\tcp b a", "b", "q", "a", "1[] a3"}, {"a: b\n\tcp b a", "b a", "q", "a", "0[] a1"},
		{"a: b\n\tcp b a", "", "q", "a", "2[]make: b: error 19. b3 a4"}, {"a:", "", "q", "a", "0[] a2"}, {"a: b\n\tr\nb:", "a", "q", "a", "1[] b2 a3"},
		{"a: b c\nb:\n\tr\nc:\n\tr", "", "q", "a", "1[] b3 a4"}, {"a: b c\nb:\n\tr\nc:\n\tr", "", "qk", "a", "1[] b3 c3 a4"},
		{"a:\n\tr\nb:", "b", "q", "b a b", "1[] b1 a3"}, {"a: a\n\tr", "", "q", "a", "2[]make: a: error 18. a4"}, {"", "a", "q", "a", "0[]"},
		{"a: b\n\tcp b a", "b", "t", "a", "0[touch a.] a2"}, {"a: b\n\tcp b a", "b a", "t", "a", "0[make: a is up to date..] a1"},
		{"a: b\n\tr\nb:\n\tr", "", "t", "a", "0[touch b.touch a.] b2 a2"}, {"a:", "", "t", "a", "0[] a2"},
		{"x/a:\n\tr", "", "t", "x/a", "2[touch x/a.]make: x/a: error 6. x/a3"}, {"a:\n\tr", "", "ts", "a", "0[touch a.] a2"},
		{"a:\n\tr", "", "tn", "a", "0[touch a.] a2"}, {"a:\n\tr", "", "tq", "a", "1[] a3"},
		{strings.Repeat("n", 61) + ":\n\tr", "", "t", strings.Repeat("n", 61),
			"2[touch " + strings.Repeat("n", 61) + ".]make: " + strings.Repeat("n", 61) + ": error 3. " + strings.Repeat("n", 61) + "3"},
		{"a: b\n\tcp b a", "b", "n", "a", "0[cp b a.] a2"},
		{"a:\n\t@echo a\n\t+@echo b\n\t-false\n\tfalse", "", "n", "a", "0[echo a.echo b.b.false.false.] a2"},
		{"a:\n\t+false", "", "n", "a", "2[false.]make: a: error 20. a3"}, {"a:\n\t-+false\n\t@+-touch x", "", "n", "a", "0[false.touch x.] a2"},
		{"a: b\n\ttouch a\nb:\n\ttouch b", "", "n", "a", "0[touch b.touch a.] b2 a2"},
		{"a: b\n\ttouch a\nb:\n\ttouch b", "a", "n", "a", "0[touch b.touch a.] b2 a2"},
		{"a: b\n\tr\nb: c\n\tr", "b a c", "n", "a", "0[r.make: a is up to date..] b2 a1"}, {".SILENT:\na:\n\techo a", "", "n", "a", "0[echo a.] a2"},
		{"a:\n\t@echo a", "", "sn", "a", "0[echo a.] a2"}, {"a:\n\t$(", "", "n", "a", "2[]make: a: error 2. a3"},
		{"a:\n\techo a\n\t@echo b", "", "s", "a", "0[a.b.] a2"}, {"a:\n\tfalse\n\techo b", "", "i", "a", "0[false.echo b.b.] a2"},
		{"a:\n\tfalse\n\techo b", "", "", "a", "2[false.]make: a: error 20. a3"}, {"a:\n\t$(\n\techo b", "", "i", "a", "2[]make: a: error 2. a3"},
		{"a: none", "", "i", "a", "2[]make: none: error 19. none3 a4"},
		{".SILENT: a\na: b\n\techo a\nb:\n\techo b", "", "", "a", "0[echo b.b.a.] b2 a2"}, {".SILENT:\na:\n\techo a", "", "", "a", "0[a.] a2"},
		{".IGNORE: b\na: b\n\tfalse\nb:\n\tfalse", "", "", "a", "2[false.false.]make: a: error 20. b2 a3"},
		{".IGNORE:\na:\n\tfalse", "", "", "a", "0[false.] a2"},
	})
}

func TestLines(t *testing.T) {
	checks(t, []test{
		{"a:\n\techo 1\n\t\n\techo 2", "", "", "a", "0[echo 1.1.echo 2.2.] a2"}, {"a:; echo 1\n\techo 2", "", "", "a", "0[echo 1.1.echo 2.2.] a2"},
		{"a:;", "", "", "a", "0[] a2"}, {"a:\n\t@", "", "", "a", "0[] a2"}, {"a:\n\t@-+", "", "", "a", "0[] a2"},
		{"a:\n\t@ echo 1\n\t @\techo 2", "", "", "a", "0[1.2.] a2"}, {"a:\n\t @ - + echo 1", "", "", "a", "0[1.] a2"},
		{"a:\n\t@@@echo 1", "", "", "a", "0[1.] a2"}, {"a:\n\t@@@@echo", "", "", "a", "2[]sh: @echo: error 6.make: a: error 20. a3"},
		{"a:\n\t-@-+", "", "", "a", "0[]sh: +: error 6. a2"}, {"a:\n\t--- -x", "", "", "a", "0[-x.]sh: -x: error 6. a2"},
		{"a:\n\t-@false\n\t@-false\n\t-false\n\techo x", "", "", "a", "0[false.echo x.x.] a2"}, {"a:\n\techo -x", "", "", "a", "0[echo -x.-x.] a2"},
		{"M=@echo 1\na:\n\t$(M)", "", "", "a", "0[1.] a2"}, {"M=\na:\n\t$(M)\n\t @ $(M) ", "", "", "a", "0[] a2"},
		{"a:\n\techo 1 \\\n\t2", "", "", "a", "0[echo 1 \\.2.1 2.] a2"}, {"a:\n\techo 1;\\\n\techo 2", "", "", "a", "0[echo 1;\\.echo 2.1.2.] a2"},
		{"a: b c b\n\t@echo $@ $< $^", "b c", "", "a", "0[a b b c.] a2"}, {"a:\n\t@echo $@,$<,$^,$?,", "", "", "a", "0[a,,,,.] a2"},
		{"a: b c d\n\t@echo $?", "b a c d", "", "a", "0[c d.] a2"}, {"a: b c\n\t@echo $?", "b c", "", "a", "0[b c.] a2"},
		{"a: b\n\t@touch a; echo $?\n\t@echo $?", "a b", "", "a", "0[b.b.] a2"}, {"%.o: %.c\n\t@echo $* $@", "x.c", "", "x.o", "0[x x.o.] x.o2"},
		{"x.o:\n\t@echo $*", "", "", "x.o", "0[x.o.] x.o2"}, {".SUFFIXES: .o\nx.o:\n\t@echo $*", "", "", "x.o", "0[x.] x.o2"},
		{".SUFFIXES: .c .o .tar.o\nx.tar.o:\n\t@echo $*", "", "", "x.tar.o", "0[x.] x.tar.o2"},
		{".SUFFIXES: .o\n.o:\n\t@echo $*", "", "", ".o", "0[.o.] .o2"}, {".SUFFIXES: .c .o\n.c.o:\n\t@echo $* $<", "x.c", "", "x.o", "0[x x.c.] x.o2"},
		{"a: x.c y.c\n\t@echo $(^:.c=.o) $(@:a=b)", "x.c y.c", "", "a", "0[x.o y.o b.] a2"},
		{"M=$@ $(N)\nN=n\na:\n\t@echo $(M)", "", "", "a", "0[a n.] a2"}, {"a:\n\t@echo $$$$ $$x $$(echo sub)", "", "", "a", "0[$$ sub.] a2"},
		{"M=$(M)\na:\n\t$(M)", "", "", "a", "2[]make: a: error 18. a3"},
		{"a:\n\techo 1\n\t-$(\n\techo 2", "", "", "a", "2[echo 1.1.]make: a: error 2. a3"},
		{"a:\n\tnone; echo $?", "", "", "a", "0[none; echo ..]sh: none: error 6. a2"},
		{"a:\n\tnone; echo $$?", "", "", "a", "0[none; echo $?.127.]sh: none: error 6. a2"},
		{"a:\n\texit 3\n\techo x", "", "", "a", "2[exit 3.]make: a: error 20. a3"},
		{"a:\n\tx=1; echo $$x\n\techo $$x-", "", "", "a", "0[x=1; echo $x.1.echo $x-.-.] a2"},
		{"a:\n\tcd /; pwd\n\tpwd", "", "", "a", "0[cd /; pwd./.pwd./d.] a2"}, {"a:\n\t@cat; echo $$0 $$#", "", "", "a", "0[sh 0.] a2"},
		{"a:\n\tif", "", "", "a", "2[if.]sh: : error 2.make: a: error 20. a3"}, {"a:\n\t# note", "", "", "a", "0[# note.] a2"},
		{"a:\n\tfalse\nb: a", "", "", "b", "2[false.]make: a: error 20. a3 b4"},
	})
}

func TestEnv(t *testing.T) {
	env := []api.Pair{{Name: "x", Value: "1"}, {Name: "x", Value: "2"}, {Name: "no-name", Value: "3"}}
	b := Run(makefile(t, "a:\n\t@echo $$x $(x)-; x=5\n\t@echo $$x"), lay(""), "/d", []string{"a"}, api.Flags{}, env, 100)
	if got := told(b); got != "0[2 -.2.] a2" {
		t.Errorf("P2401: %s", got)
	}
}

func TestFuel(t *testing.T) {
	m := makefile(t, "a: b\n\t@echo $$x; echo y\nb:\n\t@touch b")
	for fuel, want := range map[int]string{-1: "error 17", 0: "error 17", 3: "error 17", 4: "0[.y.] b2 a2", 9: "0[.y.] b2 a2"} {
		b := Run(m, lay(""), "/d", []string{"a"}, api.Flags{}, nil, fuel)
		if got := told(b); got != want || b.Err == api.OK && b.Fuel != fuel-4 {
			t.Errorf("P2401: with %d units: %s, %d left", fuel, got, b.Fuel)
		}
	}
	if b := Run(m, lay(""), "/d", nil, api.Flags{}, nil, -7); told(b) != "0[]" || b.Fuel != 0 {
		t.Errorf("P2401: negative fuel: %s", told(b))
	}
	for s, want := range map[string]string{"a:\n\twhile :; do :; done": "error 17", "a:\n\t: " + strings.Repeat("x ", 500): "error 3",
		".IGNORE:\na: b\n\techo x\nb:\n\t-while :; do :; done": "error 17", ".DELETE_ON_ERROR:\na:\n\ttouch a\n\twhile :; do :; done": "error 17"} {
		f := lay("")
		if got := told(Run(makefile(t, s), f, "/d", []string{"a"}, api.Flags{Keep: true, Ignore: true}, nil, 50)); got != want {
			t.Errorf("P2401: %.40q: %s", s, got)
		}
		if strings.Contains(s, "touch") && f.Kind("/d/a") != 1 {
			t.Error("P2401: a target was removed at the end of the fuel")
		}
	}
}

func TestLimits(t *testing.T) {
	goals := make([]string, 101)
	for i := range goals {
		goals[i] = "a"
	}
	if got := told(Run(makefile(t, ""), lay("a"), "/d", goals, api.Flags{}, nil, 9)); got != "error 3" {
		t.Errorf("P2401: 101 goals: %s", got)
	}
	if got := told(Run(makefile(t, ""), lay("a"), "/d", goals[:100], api.Flags{}, nil, 9)); got != "0[make: a is up to date..]" {
		t.Errorf("P2401: 100 goals: %s", got)
	}
	chain := func(n int) (m api.Makefile) {
		for i := range n {
			m.Rules = append(m.Rules, api.Rule{Targets: []string{"c" + strconv.Itoa(i)}, Needs: []string{"c" + strconv.Itoa(i+1)}})
		}
		m.Rules = append(m.Rules, api.Rule{Targets: []string{"c" + strconv.Itoa(n)}})
		return m
	}
	if b := Run(chain(198), nil, "/", []string{"c0"}, api.Flags{}, nil, 0); b.Status != 0 || len(b.Steps) != 199 {
		t.Errorf("P2401: 199 targets in a row: status %d", b.Status)
	}
	b := Run(chain(199), nil, "/", []string{"c0", "c199"}, api.Flags{Keep: true}, nil, 0)
	if b.Status != 2 || string(b.Log) != "make: c199: error 3\n" || len(b.Steps) != 200 || b.Steps[0] != (api.Step{Target: "c199", What: 3}) || b.Steps[199] != (api.Step{Target: "c0",
		What: 4}) {
		t.Errorf("P2401: 200 targets in a row: status %d, %s", b.Status, b.Log)
	}
	wide := func(n int) (m api.Makefile) {
		r := api.Rule{Targets: []string{"a"}}
		for i := range n {
			r.Needs = append(r.Needs, "w"+strconv.Itoa(i))
		}
		m.Rules = append(m.Rules, r, api.Rule{Targets: r.Needs})
		return m
	}
	if b := Run(wide(999), nil, "/", []string{"a"}, api.Flags{}, nil, 0); b.Status != 0 || len(b.Steps) != 1000 {
		t.Errorf("P2401: 1000 targets: status %d, %s", b.Status, b.Log)
	}
	if b := Run(wide(1000), nil, "/", []string{"a", "w999", "a"}, api.Flags{Keep: true}, nil, 0); b.Status != 2 || string(b.Log) != "make: w999: error 3\n" || len(b.Steps) != 1001 || b.Steps[999].What != 3 || b.Steps[1000].What != 4 {
		t.Errorf("P2401: 1001 targets: status %d, %s", b.Status, b.Log)
	}
}

func TestDeleteOnError(t *testing.T) {
	const asked = ".DELETE_ON_ERROR:\n"
	for _, x := range []struct {
		makefile, files, flags string
		there                  bool
	}{
		{asked + "a:\n\ttouch a\n\tfalse", "", "", false}, {"a:\n\ttouch a\n\tfalse", "", "", true},
		{asked + "a: b\n\ttouch a\n\tfalse", "a b", "", false}, {asked + "a: b\n\tfalse", "a b", "", true},
		{asked + "a:\n\techo x >a; exit 1", "", "", false}, {asked + "a:\n\ttouch a\n\t$(", "", "", false},
		{asked + "a:\n\ttouch a\n\t-false", "", "", true}, {asked + "a:\n\ttouch a\n\tfalse", "", "i", true},
		{asked + "a:\n\tmkdir a\n\tfalse", "", "", true}, {asked + ".PRECIOUS: a\na:\n\ttouch a\n\tfalse", "", "", true},
		{asked + ".PRECIOUS:\na:\n\ttouch a\n\tfalse", "", "", true}, {asked + ".PRECIOUS: b\na:\n\ttouch a\n\tfalse", "", "", false},
		{asked + ".PHONY: a\na:\n\ttouch a\n\tfalse", "", "", true}, {".DELETE_ON_ERROR: b\na:\n\ttouch a\n\tfalse", "", "", false},
	} {
		f := lay(x.files)
		Run(makefile(t, x.makefile), f, "/d", []string{"a"}, flags(x.flags), nil, 100)
		if (f.Kind("/d/a") != 0) != x.there {
			t.Errorf("P2401: %q: the target is there: %v", x.makefile, !x.there)
		}
	}
}

// TestAgain checks that what a build leaves is up to date in a further one.
func TestAgain(t *testing.T) {
	m := makefile(t, "all: p q\np: x.o y.o\n\tcat $^ >$@\nq: p\n\tcp p q\n%.o: %.c h\n\tcat $^ >$@\nh: h.in\n\tcp $< $@")
	f := lay("x.c y.c h.in")
	first := Run(m, f, "/d", []string{"p", "q"}, api.Flags{}, nil, 1000)
	if got := told(first); got != "0[cp h.in h.cat x.c h >x.o.cat y.c h >y.o.cat x.o y.o >p.cp p q.] h2 x.o2 y.o2 p2 q2" {
		t.Fatalf("P2402: %s", got)
	}
	clock := f.Clock()
	again := Run(m, f, "/d", []string{"p", "q"}, api.Flags{}, nil, 1000)
	if got := told(again); got != "0[make: p is up to date..make: q is up to date..] h1 x.o1 y.o1 p1 q1" || f.Clock() != clock || again.Fuel != 1000 {
		t.Errorf("P2402: %s", got)
	}
	f.Touch("/d/y.c")
	if got := told(Run(m, f, "/d", []string{"q"}, api.Flags{}, nil, 1000)); got != "0[cat y.c h >y.o.cat x.o y.o >p.cp p q.] h1 x.o1 y.o2 p2 q2" {
		t.Errorf("P2402: %s", got)
	}
	if got := told(Run(m, f, "/d", []string{"all"}, api.Flags{}, nil, 1000)); got != "0[] h1 x.o1 y.o1 p1 q1 all2" {
		t.Errorf("P2402: %s", got)
	}
}

func TestKept(t *testing.T) {
	m := makefile(t, "a: b\n\t@echo $^\nb:")
	before := makefile(t, "a: b\n\t@echo $^\nb:")
	goals, env := []string{"a"}, []api.Pair{{Name: "x", Value: "1"}}
	b := Run(m, nil, "/none", goals, api.Flags{}, env, 9)
	if told(b) != "0[b.] b2 a2" || !reflect.DeepEqual(m, before) || goals[0] != "a" || env[0].Value != "1" {
		t.Errorf("P2402: %s", told(b))
	}
	if got := told(Run(m, lay("x"), "\x00", []string{"/d/x", "b"}, api.Flags{}, nil, 9)); got != "2[]make: /d/x: error 19. /d/x3" {
		t.Errorf("P2401: a directory that can't be: %s", got)
	}
}
