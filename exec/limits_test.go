package exec

import (
	"strconv"
	"strings"
	"testing"

	"quartermaster/api"
	"quartermaster/vfs"
)

// TestFuel runs scripts that need a certain amount of fuel.
func TestFuel(t *testing.T) {
	for script, need := range map[string]int{
		"": 0, "echo a": 1, ":": 1, "a=1": 1, ">n": 1, "none": 1, "a; b": 3, "a; b; c": 4, "true && b": 3, "false && b": 2, "true || b": 2,
		"true && true && true": 5, "false && b && c": 3, "a | b": 3, "a | b | c": 4, "! a": 2, "{ a; }": 2, "{ a; b; }": 4, "(a)": 2, "fn() { a; }": 1,
		"fn() { a; }; fn": 5, "if true; then a; fi": 3, "if false; then a; fi": 2, "if false; then a; elif false; then b; else c; fi": 4,
		"if true; then a; else b; fi": 3,
		"while false; do a; done":     3, "until true; do a; done": 3, "for i in; do a; done": 1, "for i in 1; do a; done": 3,
		"for i in 1 2; do a; done": 5, "for i in 1 2; do break; done": 3, "while true; do break; done": 4, "case a in a) b;; esac": 2,
		"case a in b) b;; esac": 1, "echo $(a)": 2, "echo $(a; b)": 4, "echo $()": 1, "echo ${x-$(a)}": 2, "echo ${1-$(a)}": 2,
		"case $(a) in $(b)) c;; esac": 4, "a >$(b)": 2, "a <none": 1, "{ a; } <none": 1, "until break; do :; done": 3,
		"x=a; until test $x = aaa; do x=a$x; done": 11,
	} {
		r := run(t, New(lay(t), "/d", nil, []string{"sh", "p"}, need), script)
		if r.Err != api.OK || r.Fuel != 0 {
			t.Errorf("P1601: %s: error %d, %d units left of %d", script, r.Err, r.Fuel, need)
		}
		more := run(t, New(lay(t), "/d", nil, []string{"sh", "p"}, need+7), script)
		if more.Fuel != 7 || told(more) != told(r) {
			t.Errorf("P1601: %s: %s with more fuel, %s", script, told(more), told(r))
		}
		if need > 0 {
			if got := told(run(t, New(lay(t), "/d", nil, []string{"sh", "p"}, need-1), script)); got != "error 17" {
				t.Errorf("P1601: %s: %s with less fuel", script, got)
			}
		}
	}
	for _, script := range []string{"while true; do :; done", "until false; do :; done", "while :; do continue; done", "(while :; do :; done)",
		"echo $(while :; do :; done)", "while :; do :; done | cat", "fn() { while :; do :; done; }; fn || a", "{ while :; do echo a; done; } >n",
		"while :; do exit | :; done", "while :; do (exit); done"} {
		for _, fuel := range []int{0, 1, 7, 1000, 30000} {
			if got := told(run(t, New(lay(t), "/d", nil, nil, fuel), script)); got != "error 17" {
				t.Errorf("P1601: %s with %d units: %s", script, fuel, got)
			}
		}
	}
	f := lay(t)
	run(t, New(f, "/d", nil, nil, 3), "{ echo x; echo y; } >n")
	if read(f, "/d/n") != "" {
		t.Errorf("P1601: what was written before the fuel was used up: %s", read(f, "/d/n"))
	}
}

func TestCalls(t *testing.T) {
	deep := func(n int, open, shut string) string {
		return strings.Repeat(open, n) + "echo a" + strings.Repeat(shut, n)
	}
	for _, x := range [][2]string{
		{deep(30, "(", ")"), "0[a.]"}, {deep(31, "(", ")"), "error 3"}, {deep(30, "echo $(", ")"), "0[a.]"}, {deep(31, "echo $(", ")"), "error 3"},
		{"fn() { " + deep(29, "(", ")") + "; }; fn", "0[a.]"}, {"fn() { " + deep(30, "(", ")") + "; }; fn", "error 3"},
		{deep(15, "(", " | cat)"), "0[a.]"}, {deep(16, "(", " | cat)"), "error 3"},
		{"fn() { test $1 = 30 && return; x=$1; fn $((x+1)); }; fn 1; echo $x", "0[29.]"},
		{"fn() { test $1 = 31 && return; x=$1; fn $((x+1)); }; fn 1; echo $x", "error 3"},
		{"fn() { test $1 = 0 || echo $(fn $(($1-1)))a; }; fn 14", "0[aaaaaaaaaaaaaa.]"},
		{"fn() { test $1 = 0 || echo $(fn $(($1-1)))a; }; fn 15", "error 3"},
		{"for i in 1 2 3; do for j in 1 2 3 4 5 6 7 8 9 0 1 2; do (fn() { :; }; fn); done; done; echo a", "0[a.]"},
		{"fn() { fn; }; fn || echo a", "error 3"}, {"fn() { exit; }; for i in " + strings.Repeat("1 ", 99) + "; do (fn); done", "0[]"},
		{"fn() { return; }; for i in " + strings.Repeat("1 ", 99) + "; do fn; done", "0[]"},
	} {
		check(t, "P1601", x[0], x[1])
	}
}

func TestMostOut(t *testing.T) {
	lay := func() *vfs.FS {
		f := vfs.New(99, 1<<20)
		f.Write("/half", []byte(strings.Repeat("x", api.MaxOut/2)), false)
		f.Write("/all", []byte(strings.Repeat("x", api.MaxOut)), false)
		f.Write("/more", []byte(strings.Repeat("x", api.MaxOut+1)), false)
		return f
	}
	name := strings.Repeat("n", 4000)
	for _, x := range []struct {
		script string
		want   int // bytes of Out
		err    api.Errno
	}{
		{"cat half half", api.MaxOut, 0}, {"cat half; cat half", api.MaxOut, 0}, {"cat half; cat half; echo", 0, 3}, {"cat more", api.MaxOut, 0},
		{"cat all; echo -n", api.MaxOut, 0}, {"cat all; pwd", 0, 3}, {"cat all >n; cat all >>n; cat all", api.MaxOut, 0},
		{"{ cat all; echo; } >n", 0, 3}, {"{ cat all; } >n; { cat all; } >n; echo", 1, 0}, {"cat all | cat half", api.MaxOut / 2, 0},
		{"{ cat all; echo; } | :", 0, 3}, {"cat half | cat - half | cat", api.MaxOut, 0}, {"echo; cat all | cat", 0, 3}, {"echo; (cat all)", 0, 3},
		{"echo; x=${1-$(cat all)}", 1, 0}, {"cat half; : ${x+$(cat all)}", api.MaxOut / 2, 0},
		{"cat half; : $(cat half); cat half", api.MaxOut / 2, 0}, {"cat half; for i in $(cat all | cut); do :; done", api.MaxOut / 2, 0},
		{"cat all half >n; cat half", api.MaxOut / 2, 0}, {"cat half; { cat half; } <all; echo", 0, 3}, {"cat half; { echo; cat half; } <all", 0, 3},
	} {
		r := run(t, New(lay(), "/", nil, []string{"sh", "p"}, 1000), x.script)
		if r.Err != x.err || len(r.Out) != x.want {
			t.Errorf("P1601: %s: %d bytes, error %d", x.script, len(r.Out), r.Err)
		}
	}
	for script, want := range map[string]api.Errno{
		"x=" + name + "; for i in " + strings.Repeat("1 ", 16) + "; do $x; done":            api.OK,
		"x=" + name + "; for i in " + strings.Repeat("1 ", 17) + "; do $x; done":            api.ErrLong,
		"x=" + name + "; for i in " + strings.Repeat("1 ", 40) + "; do $x 2>n; done":        api.OK,
		"x=" + name + "; for i in " + strings.Repeat("1 ", 17) + "; do ($x | $x); done":     api.ErrLong,
		"x=" + name + "; { for i in " + strings.Repeat("1 ", 17) + "; do $x; done; } 2>n":   api.ErrLong,
		"x=" + name + "; for i in " + strings.Repeat("1 ", 9) + "; do echo $($x; $x); done": api.ErrLong,
	} {
		if r := run(t, New(lay(), "/", nil, nil, 1000), script); r.Err != want {
			t.Errorf("P1601: the Log of %.60s: error %d, %d bytes", script[4000:], r.Err, len(r.Log))
		}
	}
}

func TestMostFields(t *testing.T) {
	f := vfs.New(600, 0)
	for i := range 400 {
		f.Write("/f"+strconv.Itoa(i), nil, false)
	}
	for _, x := range [][2]string{
		{"echo " + strings.Repeat("a ", 499), "0[" + strings.Repeat("a ", 498) + "a.]"}, {"echo " + strings.Repeat("a ", 500), "error 3"},
		{"for i in " + strings.Repeat("a ", 500) + "; do :; done", "0[]"}, {"for i in " + strings.Repeat("a ", 501) + "; do :; done", "error 3"},
		{"x='" + strings.Repeat("a ", 600) + "'; : \"$x\"", "0[]"}, {"x='" + strings.Repeat("a ", 600) + "'; : $x", "error 3"},
		{"x='" + strings.Repeat("a ", 600) + "'; y=$x; case $x in $x) echo a;; esac", "0[a.]"}, {": f*", "0[]"}, {": f* f1*", "error 3"},
		{": f1* f1* f1* f1*", "0[]"},
	} {
		if got := told(run(t, New(f, "/", nil, nil, 9999), x[0])); got != x[1] {
			t.Errorf("P1601: %.40s: %.40s", x[0], got)
		}
	}
}

func TestLongRun(t *testing.T) {
	// What a script joins may be far more than what is nested.
	for _, x := range [][2]string{{strings.Repeat("false || ", 1700) + "echo a", "0[a.]"},
		{"fn() { " + strings.Repeat("true && ", 1900) + "test $1 = 9 || fn $(($1+1)); }; fn 1; echo $?", "0[0.]"}} {
		check(t, "P1601", x[0], x[1])
	}
}
