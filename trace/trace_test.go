package trace

import (
	"slices"
	"strings"
	"testing"

	"quartermaster/api"
	"quartermaster/build"
	"quartermaster/rules"
	"quartermaster/vfs"
)

// steps reads steps: a target and its What, one after another.
func steps(s string) []api.Step {
	var l []api.Step
	for _, x := range strings.Fields(s) {
		l = append(l, api.Step{Target: x[:len(x)-1], What: int(x[len(x)-1] - '0')})
	}
	return l
}

func TestOnce(t *testing.T) {
	for s, want := range map[string]bool{"": true, "a1": true, "a1 b1": true, "a1 a1": false, "a1 b2 a3": false, "a1 aa1": true, "b2 a1 b1": false} {
		if Once(steps(s)) != want {
			t.Errorf("P2601: Once of %q", s)
		}
	}
}

func TestBehind(t *testing.T) {
	for _, x := range []struct {
		makefile, steps string
		want            bool
	}{
		{"", "", true}, {"a: b", "", true}, {"a: b", "b2 a2", true}, {"a: b", "a2 b2", false}, {"a: b", "a2", true}, {"a: b", "b2", true},
		{"a: b c\nb: c", "c1 b2 a2", true}, {"a: b c\nb: c", "b2 c1 a2", false}, {"a: b\nb: c", "c2 a2", true}, {"a: b\nb: c", "a2 c2", true},
		{"a: b", "b3 a4", true}, {"a: b", "b4 a4", true}, {"a: b", "b3 a3", true}, {"a: b", "b3 a2", false}, {"a: b", "b3 a1", false},
		{"a: b", "b4 a2", false}, {"a: b", "b4 a1", false}, {"a: b", "b1 a1", true}, {"a: b", "b2 a3", true}, {"a: b c", "b2 c3 a2", false},
		{"a: b\nc:", "b3 a4 c2", true}, {"a: b", "b0 a2", true}, {"a: b", "b3 a0", true}, {"a: b", "a4 b3", false},
		{"a: a", "a2", false}, {"a: b", "b2 a2 b2", false}, {"a: b", "b2 b3 a2", false}, {"%.o: %.c\n\tcc", "x.c2 x.o2", true},
		{"%.o: %.c\n\tcc", "x.o2 x.c2", false}, {"%.o: %.c\n\tcc", "y.o2 y.c2", true}, {".PHONY: b", ".PHONY2 b2", true}, {"b:", "x9 b2 x-", true},
	} {
		m, err := rules.Read(nil, "/", x.makefile, nil)
		f := vfs.New(9, 9)
		f.Mkdir("/d")
		f.Write("/d/x.c", nil, false)
		l := steps(x.steps)
		before := slices.Clone(l)
		if err != api.OK || Behind(m, f, "/d", l) != x.want {
			t.Errorf("P2601: %q: Behind of %s", x.makefile, x.steps)
		}
		if !slices.Equal(l, before) || f.Clock() != 2 {
			t.Error("P2602: Behind changed its arguments")
		}
	}
	if !Behind(api.Makefile{}, nil, "\x00", steps("a1")) {
		t.Error("P2601: without anything")
	}
}

func TestMade(t *testing.T) {
	for s, want := range map[string]string{"": "", "a1 b2 c3 d4 e2": "b e", "a2 a2": "a a", "a1": "", "b0 c5": ""} {
		if got := strings.Join(Made(steps(s)), " "); got != want {
			t.Errorf("P2601: Made of %q: %s", s, got)
		}
	}
}

func TestBuilds(t *testing.T) {
	m, err := rules.Read(nil, "/", "a: b c\nb: d\n\t@false\nc: d\n\t@touch c\nd:\n\t@touch d\ne: c", nil)
	b := build.Run(m, vfs.New(9, 9), "/", []string{"a", "e"}, api.Flags{Keep: true}, nil, 99)
	if err != api.OK || !Once(b.Steps) || !Behind(m, nil, "/", b.Steps) || strings.Join(Made(b.Steps), " ") != "d c e" {
		t.Errorf("P2601: a build: %v", b.Steps)
	}
}
