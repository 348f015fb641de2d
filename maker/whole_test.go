package maker

import (
	"math/rand"
	"reflect"
	"slices"
	"strconv"
	"strings"
	"testing"

	"quartermaster/api"
	"quartermaster/gen"
	"quartermaster/rules"
	"quartermaster/shell"
	"quartermaster/trace"
	"quartermaster/vfs"
)

// sources lays a makefile and what those of gen need.
func sources(s string) *vfs.FS {
	f := vfs.New(200, 20000)
	f.Write("/makefile", []byte(s), false)
	for i := range 3 {
		f.Write("/s"+strconv.Itoa(i), []byte{'0' + byte(i)}, false)
	}
	return f
}

// TestCorrectBuilds checks W3 with the makefiles of gen.
func TestCorrectBuilds(t *testing.T) {
	r := rand.New(rand.NewSource(25))
	for seed := range 300 {
		n := 1 + r.Intn(12)
		s := gen.Makefile(seed, n)
		f := sources(s)
		m, err := rules.Read(f, "/", s, nil)
		if err != api.OK {
			t.Fatalf("seed %d: error %d", seed, err)
		}
		goal := "t" + strconv.Itoa(r.Intn(n))
		for round := range 4 {
			b := Run(f, "/", []string{goal}, nil, 100000)
			if b.Status != 0 || b.Err != api.OK || f.Kind("/"+goal) != 1 || !trace.Once(b.Steps) || !trace.Behind(m, f, "/", b.Steps) {
				t.Fatalf("W3: seed %d, round %d: %s", seed, round, told(b))
			}
			clock := f.Clock()
			again := Run(f, "/", []string{goal}, nil, 100000)
			if again.Status != 0 || len(trace.Made(again.Steps)) != 0 || f.Clock() != clock || string(again.Out) != "make: "+goal+" is up to date.\n" {
				t.Fatalf("W3: seed %d, round %d: a further build: %s", seed, round, told(again))
			}
			f.Touch("/s" + strconv.Itoa(r.Intn(3)))
			if len(b.Steps) > 0 {
				f.Remove("/" + b.Steps[r.Intn(len(b.Steps))].Target)
			}
		}
	}
}

// TestFailures checks W4: what needs a target that failed isn't made, and with
// Keep everything else is.
func TestFailures(t *testing.T) {
	r := rand.New(rand.NewSource(26))
	for seed := range 300 {
		n := 2 + r.Intn(10)
		bad := "t" + strconv.Itoa(r.Intn(n))
		s := gen.Makefile(seed, n)
		s = strings.Replace(s, bad+":", bad+": bad", 1) + "bad:\n\tfalse\n"
		goals := []string{"-k"}
		for i := range n {
			goals = append(goals, "t"+strconv.Itoa(i))
		}
		f := sources(s)
		m, _ := rules.Read(f, "/", s, nil)
		b := Run(f, "/", goals, nil, 100000)
		if b.Status != 2 || !trace.Once(b.Steps) || !trace.Behind(m, f, "/", b.Steps) {
			t.Fatalf("W4: seed %d: %s", seed, told(b))
		}
		for _, x := range b.Steps {
			needs := fails(m, x.Target)
			if want := map[bool]int{true: 4, false: 2}[needs]; x.Target != "bad" && x.What != want {
				t.Fatalf("W4: seed %d: %s is %d, not %d", seed, x.Target, x.What, want)
			}
		}
		g := sources(s)
		short := Run(g, "/", goals[1:], nil, 100000)
		last := short.Steps[len(short.Steps)-1]
		if short.Status != 2 || last.What != 4 || slices.ContainsFunc(short.Steps, func(x api.Step) bool { return x.What == 2 && fails(m, x.Target) }) {
			t.Fatalf("W4: seed %d: %s", seed, told(short))
		}
	}
}

// fails reports whether a target needs bad.
func fails(m api.Makefile, target string) bool {
	for _, r := range m.Rules {
		if r.Targets[0] == target {
			return slices.ContainsFunc(r.Needs, func(x string) bool { return x == "bad" || fails(m, x) })
		}
	}
	return false
}

// TestMoreFuel checks W1 and W2: two runs are the same, and so is one with
// more fuel.
func TestMoreFuel(t *testing.T) {
	for seed := range 60 {
		s := gen.Makefile(seed, 6) + "all: t0 t1\n\tfor i in t*; do cat $$i >> log; done\n"
		least := -1
		for fuel := range 60 {
			f := sources(s)
			b := Run(f, "/", []string{"all"}, nil, fuel)
			if b.Err != api.OK {
				if least >= 0 || b.Err != api.ErrFuel || !reflect.DeepEqual(b, api.Built{Err: api.ErrFuel}) {
					t.Fatalf("W2: seed %d with %d units: %s", seed, fuel, told(b))
				}
				continue
			}
			if least < 0 {
				least = fuel
			}
			g := sources(s)
			again := Run(g, "/", []string{"all"}, nil, 1000)
			if told(again) != told(b) || b.Fuel != fuel-least || again.Fuel != 1000-least || !reflect.DeepEqual(f.All(), g.All()) {
				t.Fatalf("W1, W2: seed %d with %d units: %s, not %s", seed, fuel, told(b), told(again))
			}
		}
		if least < 2 {
			t.Errorf("W2: seed %d: %d units", seed, least)
		}
	}
}

// TestBytes checks W5: any bytes are a script or a makefile, or give one error.
func TestBytes(t *testing.T) {
	r := rand.New(rand.NewSource(27))
	const letters = "ab:= \t\n\n\\#$$(){};|&<>\"'`%@*?[].+-!x\x00\xff"
	for range 60000 {
		b := make([]byte, r.Intn(40))
		for i := range b {
			b[i] = letters[r.Intn(len(letters))]
		}
		f := sources(string(b))
		before := f.All()
		built := Run(f, "/", []string{"-k", "a", "b"}, nil, 200)
		m, err := rules.Read(f, "/", string(b), nil)
		if err != api.OK && (built.Status != 2 || len(built.Steps) != 0 || !reflect.DeepEqual(f.All(), before) || len(m.Rules)+len(m.Macros) != 0) {
			t.Fatalf("W5: makefile %q: %s", b, told(built))
		}
		g := sources("")
		before = g.All()
		if run := shell.Run(g, "/", nil, nil, string(b), nil, 200); run.Status == 2 && strings.HasPrefix(string(run.Log), "sh: : error ") && run.Fuel == 200 && !reflect.DeepEqual(g.All(), before) {
			t.Fatalf("W5: script %q changed the file system", b)
		}
	}
}
