package exec

import (
	"slices"
	"testing"

	"quartermaster/api"
)

func TestBuiltins(t *testing.T) {
	checks(t, "P1601", [][2]string{
		{"false; :; echo $?", "0[0.]"}, {"false; : a b; echo $?", "0[0.]"}, {"pwd", "0[/d.]"}, {"pwd x", "1[]!sh: pwd: error 1."},
		{"false; pwd; echo $?", "0[/d.0.]"},
		{"cd /g; pwd", "0[/g.]"}, {"cd; pwd", "0[/.]"}, {"cd ..; pwd", "0[/.]"}, {"cd ../g/.; pwd", "0[/g.]"},
		{"cd none; pwd", "0[/d.]!sh: none: error 6."}, {"cd a; echo $?; pwd", "0[1./d.]!sh: a: error 11."}, {"cd ''", "1[]!sh: : error 1."},
		{"cd a b", "1[]!sh: cd: error 1."}, {"cd a/x", "1[]!sh: a/x: error 6."}, {"false; cd /; echo $?", "0[0.]"},
		{"cd " + long(61), "1[]!sh: " + long(61) + ": error 3."},
		{"set", "1[]!sh: set: error 1."}, {"set -x", "1[]!sh: set: error 1."}, {"set -e -e", "1[]!sh: set: error 1."},
		{"set e", "1[]!sh: set: error 1."}, {"false; set -e; echo $?", "0[0.]"}, {"false; set +e; echo $?", "0[0.]"},
		{"x=1; y=2; unset x y z; echo ${x-n}${y-n}$?", "0[nn0.]"}, {"false; unset; echo $?", "0[0.]"},
		{"x=1; unset 9 x a-b; echo $?${x-n}", "0[1n.]!sh: 9: error 1.sh: a-b: error 1."}, {"unset ''", "1[]!sh: : error 1."},
		{"shift; echo $1 $# $?", "0[q r 1 0.]"}, {"shift 2; echo $# $0", "0[0 sh.]"}, {"shift 3; echo $? $#", "0[1 2.]"},
		{"shift 0; echo $# $?", "0[2 0.]"}, {"shift 000; echo $#", "0[2.]"}, {"shift 001; echo $#", "0[1.]"},
		{"shift 0001", "1[]!sh: shift: error 1."}, {"shift a", "1[]!sh: shift: error 1."}, {"shift -1", "1[]!sh: shift: error 1."},
		{"shift 1 1; echo $#", "0[2.]!sh: shift: error 1."}, {"shift ''", "1[]!sh: shift: error 1."}, {"shift; shift; shift; echo $?", "0[1.]"},
		{"for i in 1 2; do break 0; echo $?; done", "0[1.1.]!sh: break: error 1.sh: break: error 1."}, {"break 10", "1[]!sh: break: error 1."},
		{"break a", "1[]!sh: break: error 1."}, {"break 1 1", "1[]!sh: break: error 1."}, {"continue 01", "1[]!sh: continue: error 1."},
		{"continue ''", "1[]!sh: continue: error 1."}, {"break 9; echo $?", "0[0.]"},
		{"for i in 1 2; do continue 0; done", "1[]!sh: continue: error 1.sh: continue: error 1."},
		{"exit; echo a", "0[]"}, {"false; exit; echo a", "1[]"}, {"exit 7; echo a", "7[]"}, {"exit 007", "7[]"}, {"exit 256", "0[]"},
		{"exit 999", "231[]"}, {"exit 1000; echo a", "0[a.]!sh: exit: error 1."}, {"exit a; echo $?", "0[1.]!sh: exit: error 1."},
		{"exit 1 2; echo a", "0[a.]!sh: exit: error 1."}, {"exit ''; echo a", "0[a.]!sh: exit: error 1."},
		{"exit -1; echo a", "0[a.]!sh: exit: error 1."}, {"exit $(false)", "1[]"}, {"(exit 5) ; exit", "5[]"},
		{"none; exit", "127[]!sh: none: error 6."},
		{"return 7; echo a", "7[]"}, {"return; echo a", "0[]"}, {"return a; echo a", "0[a.]!sh: return: error 1."},
		{"fn() { return 1 2; echo $?; }; fn", "0[1.]!sh: return: error 1."}, {"fn() { return 1000; echo $?; }; fn", "0[1.]!sh: return: error 1."},
		{"(return 7; echo a); echo $?", "0[7.]"}, {"pwd x 2>n; cat n", "0[sh: pwd: error 1.]"}, {"x=1 exit 3", "3[]"},
	})
}

func long(n int) string {
	return string(slices.Repeat([]byte("n"), n))
}

func TestWithoutArguments(t *testing.T) {
	for _, x := range [][2]string{{"shift; echo $?", "0[1.]"}, {"shift 0; echo $?$#", "0[00.]"},
		{"fn() { shift; echo $#; }; fn a; echo $#", "0[0.0.]"}} {
		if got := told(run(t, New(nil, "/", nil, nil, 99), x[0])); got != x[1] {
			t.Errorf("P1601: %s: %s", x[0], got)
		}
	}
}

func TestKept(t *testing.T) {
	f := lay(t)
	in := []byte("IN")
	args := make([]string, 2, 4)
	args[0], args[1] = "sh", "a"
	s := New(f, "/d", nil, args, 100)
	n := api.Node{Kind: api.CFunc, Name: "fn",
		Kids: []api.Node{{Kind: api.CGroup,
			Kids: []api.Node{{Kind: api.CSimple, Words: [][]api.Part{{{Kind: api.PText, Text: "echo"}}, {{Kind: api.PText, Text: "a"}}}}}}}}
	s.Run([]api.Node{n}, in)
	n.Kids[0].Kids[0].Words[1][0].Text = "b"
	if got := told(run(t, s, "fn")); got != "0[a.]" {
		t.Errorf("P1602: a function is kept as it was passed: %s", got)
	}
	r := run(t, s, "cat; shift; x=1; echo b >b")
	r.Out[0] = 'x'
	v := s.Vars()
	v[0].Value = "2"
	if got := told(run(t, s, "echo $x")); got != "0[1.]" || string(in) != "IN" || args[1] != "a" || args[:3][2] != "" {
		t.Errorf("P1602: %s", got)
	}
}
