package graph

import (
	"fmt"
	"slices"
	"strings"
	"testing"

	"quartermaster/api"
	"quartermaster/rules"
	"quartermaster/vfs"
)

func makefile(t *testing.T, s string) api.Makefile {
	t.Helper()
	m, err := rules.Read(nil, "/", s, nil)
	if err != api.OK {
		t.Fatalf("%q is no makefile: error %d", s, err)
	}
	return m
}

func lay(files string) *vfs.FS {
	f := vfs.New(99, 99)
	f.Mkdir("/d")
	for _, p := range strings.Fields(files) {
		f.Write("/d/"+p, nil, false)
	}
	return f
}

func TestOrder(t *testing.T) {
	for _, x := range []struct{ makefile, files, goals, want string }{
		{"a: b", "b", "a", "b a"}, {"a: b", "", "a", "!19"}, {"", "", "", ""}, {"", "", "a", "!19"}, {"", "a", "a", "a"},
		{"", "a", "a a ./a", "a ./a"}, {"a: b c\nb: d\nc: d\nd:", "", "a", "d b c a"},
		{"a: b c\nb: c\nc:", "", "a", "c b a"}, {"a: c b\nb: c\nc:", "", "a", "c b a"}, {"a:\nb:", "", "b a", "b a"}, {"a: b\nb:", "", "b a", "b a"},
		{"a: b\nb:", "", "a b", "b a"}, {"a: b\nb: a", "", "a", "!18"}, {"a: a", "", "a", "!18"}, {"a: b c\nb: c\nc: b", "", "a", "!18"},
		{"a: b\nb: a", "", "", ""},
		{"a: x b\nb: a", "", "a", "!19"}, {"a: b x\nb: a", "", "a", "!18"}, {"%.o: %.c\n\tcc", "a.c", "a.o", "a.c a.o"},
		{"%.o: %.c\n\tcc\na.c: a.y", "a.y", "a.o b.o", "!19"}, {"%.o: %.c\n\tcc\na.c: a.y", "a.y", "a.o", "a.y a.c a.o"},
		{".PHONY: a\na:", "", ".PHONY", "!19"}, {".X: a", ".X", ".X", ".X"},
		{"a: b\na: c\nb:\nc:", "", "a", "b c a"}, {"a:", "", "a none", "!19"}, {"", "a", "/d/a ../d/a", "/d/a ../d/a"}, {"a: \x01", "", "a", "!19"},
	} {
		m, f := makefile(t, x.makefile), lay(x.files)
		l, err := Order(m, f, "/d", strings.Fields(x.goals))
		got := strings.Join(l, " ")
		if err != api.OK {
			got += fmt.Sprintf("!%d", err)
		}
		if got != x.want {
			t.Errorf("P2201: %q: Order of %s: %s, not %s", x.makefile, x.goals, got, x.want)
		}
	}
	if _, err := Order(api.Makefile{}, lay("a"), "\x00", []string{"/d/a"}); err != api.ErrRule {
		t.Errorf("P2201: a directory that can't be: error %d", err)
	}
	if _, err := Order(api.Makefile{}, nil, "/", []string{"/"}); err != api.OK {
		t.Errorf("P2201: the root: error %d", err)
	}
}

// chain returns rules of which each needs the next one.
func chain(n int) (m api.Makefile) {
	for i := range n {
		m.Rules = append(m.Rules, api.Rule{Targets: []string{fmt.Sprintf("c%04d", i)}, Needs: []string{fmt.Sprintf("c%04d", i+1)}})
	}
	m.Rules = append(m.Rules, api.Rule{Targets: []string{fmt.Sprintf("c%04d", n)}})
	return m
}

// wide returns n targets, and a goal that needs all of them.
func wide(n int) (m api.Makefile) {
	r := api.Rule{Targets: []string{"goal"}}
	for i := range n {
		r.Needs = append(r.Needs, fmt.Sprintf("w%04d", i))
	}
	m.Rules = append(m.Rules, r, api.Rule{Targets: slices.Clone(r.Needs)})
	return m
}

func TestLimits(t *testing.T) {
	for i, x := range []struct {
		m     api.Makefile
		goals []string
		want  api.Errno
	}{
		{chain(199), []string{"c0000"}, 0}, {chain(200), []string{"c0000"}, api.ErrLong}, {chain(201), []string{"c0000"}, api.ErrLong},
		{chain(250), []string{"c0100", "c0000"}, 0}, {chain(200), []string{"c0001", "c0000"}, 0},
		{wide(999), []string{"goal"}, 0}, {wide(1000), []string{"goal"}, api.ErrLong}, {wide(1000), []string{"w0000"}, 0},
		{wide(999), []string{"goal", "w0001"}, 0}, {wide(999), []string{"goal", "none"}, api.ErrLong}, {wide(1000), wide(1000).Rules[0].Needs, 0},
	} {
		l, err := Order(x.m, nil, "/", x.goals)
		if err != x.want || err != api.OK && l != nil {
			t.Errorf("P2201: %d: error %d, not %d", i, err, x.want)
		}
	}
	m := chain(200)
	m.Rules[200].Needs = []string{"none"}
	if _, err := Order(m, nil, "/", []string{"c0000"}); err != api.ErrLong {
		t.Errorf("P2201: error %d", err)
	}
	if _, err := Order(m, nil, "/", []string{"c0001"}); err != api.ErrLong {
		t.Errorf("P2201: error %d", err)
	}
	if _, err := Order(m, nil, "/", []string{"c0002"}); err != api.ErrRule {
		t.Errorf("P2201: error %d", err)
	}
	m = chain(199)
	m.Rules[199].Needs = []string{"c0000"}
	if _, err := Order(m, nil, "/", []string{"c0000"}); err != api.ErrCycle {
		t.Errorf("P2201: error %d", err)
	}
}

func TestReach(t *testing.T) {
	for _, x := range []struct{ makefile, files, goals, want string }{
		{"a: b\nb: c\nc: a", "", "a", "a b c"}, {"", "", "", ""}, {"", "", "b a b", "a b"}, {"a: z\nb: y", "", "b a", "a b y z"},
		{"a: a", "", "a", "a"}, {"%.o: %.c\n\tcc", "a.c", "a.o b.o", "a.c a.o b.o"}, {"a: none b\nb: c", "", "a", "a b c none"},
	} {
		if got := strings.Join(Reach(makefile(t, x.makefile), lay(x.files), "/d", strings.Fields(x.goals)), " "); got != x.want {
			t.Errorf("P2201: %q: Reach of %s: %s, not %s", x.makefile, x.goals, got, x.want)
		}
	}
	if l := Reach(chain(2000), nil, "/", []string{"c0500"}); len(l) != 1000 || l[0] != "c0500" || l[999] != "c1499" {
		t.Errorf("P2201: Reach of a chain: %d targets", len(l))
	}
	m := wide(1500)
	m.Rules = append(m.Rules, api.Rule{Targets: []string{"w0001"}, Needs: []string{"z"}})
	if l := Reach(m, nil, "/", []string{"goal"}); len(l) != 1000 || l[0] != "goal" || l[998] != "w0997" || l[999] != "z" {
		t.Errorf("P2201: Reach of many: %d targets, %s", len(l), l[998:])
	}
}

func TestGoal(t *testing.T) {
	for s, want := range map[string]string{
		"": "!", "a b: c": "a", "%.o: x\n.PHONY: y\nb: c\na:": "b", ".a:\n./b:": "./b", ".PHONY: a": "!", "%: x": "!", ".a b: c\nd:": "d",
		"..: x": "!", "../a: x": "../a", ".a/b: x": ".a/b", "a.b:": "a.b", "A=1\na:": "a",
	} {
		got, ok := Goal(makefile(t, s))
		if !ok {
			got += "!"
		}
		if got != want {
			t.Errorf("P2201: Goal of %q: %s, not %s", s, got, want)
		}
	}
	if got, ok := Goal(api.Makefile{Rules: []api.Rule{{}, {Targets: []string{"a", "%"}}, {Targets: []string{""}}}}); got != "" || !ok {
		t.Errorf("P2201: Goal of odd rules: %q, %v", got, ok)
	}
}

func TestKept(t *testing.T) {
	m, f := makefile(t, "a: b\nb:"), lay("x")
	goals := []string{"a"}
	for range 2 {
		l, err := Order(m, f, "/d", goals)
		r := Reach(m, f, "/d", goals)
		if err != api.OK || strings.Join(l, " ") != "b a" || strings.Join(r, " ") != "a b" || f.Clock() != 2 {
			t.Errorf("P2202: %s, %s", l, r)
		}
		l[0], l[1], r[0], r[1] = "x", "x", "x", "x"
	}
}
