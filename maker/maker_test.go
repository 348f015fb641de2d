package maker

import (
	"fmt"
	"reflect"
	"strconv"
	"strings"
	"testing"

	"quartermaster/api"
	"quartermaster/vfs"
)

// told writes a build down: its status, Out in brackets, and Log.
func told(b api.Built) string {
	if b.Err != api.OK {
		return fmt.Sprintf("error %d", b.Err)
	}
	return strings.ReplaceAll(strconv.Itoa(b.Status)+"["+string(b.Out)+"]"+string(b.Log), "\n", ".")
}

// lay makes /d with the makefile s, the file b, and the makefile other.
func lay(s string) *vfs.FS {
	f := vfs.New(20, 1000)
	f.Mkdir("/d")
	if s != "" {
		f.Write("/d/makefile", []byte(s), false)
	}
	f.Write("/d/b", nil, false)
	f.Write("/d/other", []byte("o:\n\t@echo other $@"), false)
	return f
}

func TestArguments(t *testing.T) {
	const s = "a: b\n\techo $(X)\nc:\n\t@false\n\t@echo c\nd:\n\t@echo d"
	for args, want := range map[string]string{
		"": "0[echo ..]", "a": "0[echo ..]", "d": "0[d.]", "d a": "0[d.echo ..]", "b": "0[make: b is up to date..]",
		"none": "2[]make: none: error 19.", "c d": "2[]make: c: error 20.", "-k c d": "2[d.]make: c: error 20.", "c d -k": "2[d.]make: c: error 20.",
		"-i c d": "0[c.d.]", "-s a": "0[.]", "-n a d": "0[echo .echo d.]", "-t a": "0[touch a.]", "-q a": "1[]", "-q b": "0[]", "-ns d": "0[echo d.]",
		"-nknk d": "0[echo d.]", "-n -k c d": "0[false.echo c.echo d.]", "-iks c": "0[c.]", "-sniktq d": "1[]",
		"X=1": "0[echo 1.1.]", "X=1 X=2 a": "0[echo 2.2.]", "a X=1": "0[echo 1.1.]", "X=": "0[echo ..]", "X=a=b": "0[echo a=b.a=b.]",
		"X=$(Y) Y=z": "0[echo z.z.]", "no+name=1": "2[]make: no+name=1: error 19.", "=1": "2[]make: =1: error 19.", "_": "2[]make: : error 19.",
		"a-b=1 d": "0[d.]",
		"-x":      "2[]make: -x: error 1.", "-": "2[]make: -: error 1.", "-nx": "2[]make: -nx: error 1.", "--": "2[]make: --: error 1.",
		"-x=1": "2[]make: -x=1: error 1.", "-X=1": "2[]make: -X=1: error 1.", "d -x -y": "2[]make: -x: error 1.", "-f": "2[]make: -f: error 1.",
		"-fn": "2[]make: -fn: error 1.", "-nf other": "2[]make: -nf: error 1.", "d -f": "2[]make: -f: error 1.", "-N": "2[]make: -N: error 1.",
		"-x -f":    "2[]make: -x: error 1.",
		"-f other": "0[other o.]", "-f other o": "0[other o.]", "o -f other": "0[other o.]", "-f other a": "2[]make: a: error 19.",
		"-f makefile -f other": "0[other o.]", "-f none -f other": "0[other o.]", "-f none": "2[]make: none: error 6.",
		"-f .": "2[]make: .: error 10.", "-f b": "2[]make: : error 19.", "-f b/x": "2[]make: b/x: error 11.", "-f _": "2[]make: : error 1.",
		"-f /d/other": "0[other o.]", "-f -x": "2[]make: -x: error 6.", "-f X=1": "2[]make: X=1: error 6.", "-f -f": "2[]make: -f: error 6.",
		"-f " + strings.Repeat("n", 61): "2[]make: " + strings.Repeat("n", 61) + ": error 3.",
	} {
		l := strings.Fields(args)
		for i, x := range l {
			if x == "_" {
				l[i] = ""
			}
		}
		if got := told(Run(lay(s), "/d", l, nil, 100)); got != want {
			t.Errorf("P2501: make %s: %s, not %s", args, got, want)
		}
	}
}

func TestMakefiles(t *testing.T) {
	f := lay("")
	check := func(cwd, want string) {
		t.Helper()
		if got := told(Run(f, cwd, nil, nil, 100)); got != want {
			t.Errorf("P2501: in %s: %s, not %s", cwd, got, want)
		}
	}
	check("/d", "2[]make: makefile: error 6.")
	f.Write("/d/Makefile", []byte("a:\n\t@echo big"), false)
	check("/d", "0[big.]")
	check("d", "0[big.]")
	check("/", "2[]make: makefile: error 6.")
	check("\x00", "2[]make: makefile: error 6.")
	f.Mkdir("/d/makefile")
	check("/d", "0[big.]")
	f.Remove("/d/makefile")
	f.Write("/d/makefile", []byte("a:\n\t@echo small"), false)
	check("/d", "0[small.]")
	for s, want := range map[string]string{"a b": "2[]make: makefile: error 2.", "A=$(A)\nb: $(A)": "2[]make: makefile: error 18.",
		"include none\na:": "2[]make: makefile: error 6.", "A=1": "2[]make: : error 19.", "%: x": "2[]make: : error 19.",
		".a:\n": "2[]make: : error 19.", "include other": "0[other o.]", ".PHONY: x\n./y:\n\t@pwd": "0[/d.]", "\x00": "2[]make: makefile: error 2.",
		"M=1\na:\n\t@echo $(M)": "0[1.]"} {
		f.Write("/d/makefile", []byte(s), false)
		check("/d", want)
	}
	f.Write("/d/other", []byte("bad"), false)
	if got := told(Run(f, "/d", []string{"-f", "other"}, nil, 9)); got != "2[]make: other: error 2." {
		t.Errorf("P2501: the name of a makefile with an error: %s", got)
	}
	if got := told(Run(nil, "/", nil, nil, 9)); got != "2[]make: makefile: error 6." {
		t.Errorf("P2501: without a file system: %s", got)
	}
}

func TestEnvAndFuel(t *testing.T) {
	f := lay("a:\n\t@echo $$X $$Y $$Z $(X) $(Y); Z=2; none")
	env := make([]api.Pair, 2, 4)
	env[0], env[1] = api.Pair{Name: "X", Value: "env"}, api.Pair{Name: "Z", Value: "env"}
	args := []string{"X=1", "Y=$(X)", "X=3", "no.name=4"}
	b := Run(f, "/d", args, env, 20)
	if got := told(b); got != "2[3 $(X) env 3 3.]sh: none: error 6.make: a: error 20." || b.Fuel != 16 || !reflect.DeepEqual(b.Steps, []api.Step{{Target: "a",
		What: 3}}) {
		t.Errorf("P2501: %s, %d units left, %v", got, b.Fuel, b.Steps)
	}
	if env[0].Value != "env" || env[:3][2].Name != "" || args[1] != "Y=$(X)" {
		t.Error("P2502: an argument was changed")
	}
	if got := told(Run(f, "/d", nil, nil, 2)); got != "error 17" {
		t.Errorf("P2501: little fuel: %s", got)
	}
	if got := told(Run(f, "/d", make([]string, 101), nil, 2)); got != "error 3" {
		t.Errorf("P2501: many goals: %s", got)
	}
	for fuel, want := range map[int]int{-3: 0, 0: 0, 7: 7} {
		for _, args := range [][]string{{"-x"}, {"-f", "none"}, {"-f", "b"}} {
			if b := Run(f, "/d", args, nil, fuel); b.Status != 2 || b.Fuel != want || len(b.Steps)+len(b.Out) != 0 {
				t.Errorf("P2501: %s with %d units: %d left", args, fuel, b.Fuel)
			}
		}
	}
}
