package exec

import (
	"fmt"
	"slices"
	"strconv"
	"strings"
	"testing"

	"quartermaster/api"
	"quartermaster/parse"
	"quartermaster/vars"
	"quartermaster/vfs"
)

// lay makes a file system: /d with a (A) and b (B), /f (F), /g.
func lay(t *testing.T) *vfs.FS {
	t.Helper()
	f := vfs.New(40, 200)
	for _, err := range []api.Errno{f.Mkdir("/d"), f.Write("/d/a", []byte("A\n"), false), f.Write("/d/b", []byte("B"), false),
		f.Write("/f", []byte("F\n"), false), f.Mkdir("/g")} {
		if err != api.OK {
			t.Fatal(err)
		}
	}
	return f
}

// told writes a result down: its status, its Out, and its Log behind a !.
func told(r api.Result) string {
	if r.Err != api.OK {
		if r.Status != 0 || r.Fuel != 0 || len(r.Out)+len(r.Log) > 0 {
			return fmt.Sprintf("more than an error: %v", r)
		}
		return "error " + strconv.Itoa(int(r.Err))
	}
	s := fmt.Sprintf("%d[%s]", r.Status, r.Out)
	if len(r.Log) > 0 {
		s += "!" + string(r.Log)
	}
	return strings.ReplaceAll(s, "\n", ".")
}

func run(t *testing.T, s *Shell, script string) api.Result {
	t.Helper()
	l, err := parse.Script(script)
	if err != api.OK {
		t.Fatalf("%q is no script", script)
	}
	return s.Run(l, []byte("IN"))
}

func shell(f *vfs.FS) *Shell {
	return New(f, "/d", nil, []string{"sh", "p", "q r"}, 100000)
}

// check runs a script in /d with the arguments p and 'q r' and the input IN.
func check(t *testing.T, promise, script, want string) {
	t.Helper()
	if got := told(run(t, shell(lay(t)), script)); got != want {
		t.Errorf("%s: %s: %s, not %s", promise, script, got, want)
	}
}

func checks(t *testing.T, promise string, l [][2]string) {
	t.Helper()
	for _, x := range l {
		check(t, promise, x[0], x[1])
	}
}

func read(f *vfs.FS, p string) string {
	b, err := f.Read(p)
	if err != api.OK {
		return "error " + strconv.Itoa(int(err))
	}
	return strings.ReplaceAll(string(b), "\n", ".")
}

func TestNew(t *testing.T) {
	f := lay(t)
	for cwd, want := range map[string]string{"/d": "/d", "d": "/d", "/d/..": "/", "/none": "/", "/f": "/", "": "/", "\x00": "/", "/d/../g": "/g"} {
		if got := New(f, cwd, nil, nil, 0).Cwd(); got != want {
			t.Errorf("P1601: New in %q: %q", cwd, got)
		}
	}
	var v vars.Vars
	v.Set("x", "1")
	args := []string{"sh", "a"}
	s := New(f, "/", &v, args, 100)
	v.Set("x", "2")
	v.Set("y", "2")
	args[1] = "b"
	if got := told(run(t, s, "echo $x$y$1; x=3")); got != "0[1a.]" {
		t.Errorf("P1601: New keeps what it is given: %s", got)
	}
	if x, _ := v.Get("x"); x != "2" || !slices.Equal(s.Vars(), []api.Pair{{Name: "x", Value: "3"}}) {
		t.Errorf("P1601: Vars: %v", s.Vars())
	}
	if got := run(t, New(f, "/", nil, nil, -5), ""); got.Err != api.OK || got.Fuel != 0 {
		t.Errorf("P1601: negative fuel: %v", got)
	}
	if got := told(run(t, New(f, "/", nil, nil, -5), ":")); got != "error 17" {
		t.Errorf("P1601: negative fuel: %s", got)
	}
	if got := told(run(t, New(nil, "/d", nil, nil, 9), "pwd; echo a >b; echo $#$0")); got != "0[/.0.]!sh: b: error 13." {
		t.Errorf("P1601: without a file system: %s", got)
	}
	var zero Shell
	if got := told(zero.Run(nil, nil)); got != "0[]" || zero.Cwd() != "/" || len(zero.Vars()) != 0 {
		t.Errorf("P1601: the zero shell: %s", got)
	}
}

func TestRunAgain(t *testing.T) {
	f := lay(t)
	s := New(f, "/d", nil, []string{"sh", "a"}, 100)
	for i, x := range [][3]string{
		{"x=1; cd /; fn() { echo fn $1; }; set -e", "0[]", "95"}, {"echo $x; pwd; fn $1", "0[1./.fn a.]", "89"},
		{"echo b; false; echo c", "1[b.]", "86"}, {"echo $?", "0[1.]", "85"}, {"fn() { y=2 exit 4; }; for i in 1 2; do fn b c; done", "4[]", "78"},
		{"echo $?$y$i$1; break; return 7; echo c", "7[41a.]", "74"}, {"", "7[]", "74"}, {"set +e; shift; false; echo $#", "0[0.]", "69"},
		{"nosuch", "127[]!sh: nosuch: error 6.", "68"},
	} {
		r := run(t, s, x[0])
		if got := told(r); got != x[1] || strconv.Itoa(r.Fuel) != x[2] {
			t.Errorf("P1601: %d: %s: %s, fuel %d", i, x[0], got, r.Fuel)
		}
	}
	if got := s.Run(nil, nil); got.Status != 127 || got.Fuel != 68 {
		t.Errorf("P1601: no commands: %v", got)
	}
	l, _ := parse.Script("echo a")
	if got := told(s.Run([]api.Node{l[0], {Kind: api.CSimple, Words: [][]api.Part{{{Kind: api.PText, Text: "false"}}}}, l[0]}, nil)); got != "0[a.a.]" {
		t.Errorf("P1601: several commands: %s", got)
	}
}

func TestSimple(t *testing.T) {
	checks(t, "P1601", [][2]string{
		{"x=1; x=2 y=3 :; echo $x$y", "0[1.]"}, {"echo a  'b  c' \"\" d", "0[a b  c  d.]"}, {"x='a  b'; echo $x \"$x\"", "0[a b a  b.]"},
		{"echo *", "0[a b.]"}, {"echo '*' \"*\" \\* z*", "0[* * * z*.]"}, {"x='*'; echo $x \"$x\"", "0[a b *.]"}, {"cd /; echo */*", "0[d/a d/b.]"},
		{"echo /*", "0[/d /f /g.]"},
		{"echo $1 \"$2\" $# $@ \"$*\" $0 $3", "0[p q r 2 p q r p q r sh.]"}, {"$e", "0[]"}, {"$e echo a", "0[a.]"},
		{"e=; $e x=1; echo $x", "0[.]!sh: x=1: error 6."}, {"''", "127[]!sh: : error 6."}, {"\"$e\" a", "127[]!sh: : error 6."},
		{"none a b", "127[]!sh: none: error 6."}, {"none; echo $?", "0[127.]!sh: none: error 6."}, {"false", "1[]"}, {"x=echo; $x a", "0[a.]"},
		{"x='echo a'; $x b", "0[a b.]"}, {"'echo' a", "0[a.]"}, {"e\\cho a", "0[a.]"}, {"cat", "0[IN]"}, {"cat; cat", "0[ININ]"},
		{"sh", "127[]!sh: sh: error 6."},
		{"false; x=1", "0[]"}, {"x=$(false)", "1[]"}, {"x=$(false) y=$(true); echo $?", "0[0.]"}, {"x=$(true) y=$(false); echo $?", "0[1.]"},
		{"$(false)", "1[]"}, {"$(exit 3) x=1", "127[]!sh: x=1: error 6."}, {"x=$(exit 3) $(exit 4)", "3[]"}, {"x=1 >/new; echo $?$x", "0[01.]"},
		{"false; >/new", "0[]"}, {">/$(false)new", "1[]"}, {"x=1 y=$x z=${x:-2}; echo $x,$y,$z", "0[1,,2.]"}, {"x=1; x=2 y=$x; echo $y", "0[1.]"},
		{"x=a x=b; echo $x", "0[b.]"}, {"x=*; echo \"$x\"", "0[*.]"}, {"x='a  b'; y=$x; echo \"$y\"", "0[a  b.]"},
		{"x=1; x=2 pwd; echo $x", "0[/d.1.]"}, {"x=2 pwd; echo ${x-none}", "0[/d.none.]"},
		{"fn() { echo $x; x=5; }; x=1; x=2 fn; echo $x", "0[2.1.]"}, {"fn() { unset x; }; x=1; x=2 fn; echo $x", "0[1.]"},
		{"fn() { y=7; }; y=1 fn; echo ${y-none}", "0[none.]"}, {"x=1; x=2 x=3 :; echo $x", "0[1.]"}, {"x=2 x=3 :; echo ${x-none}", "0[none.]"},
		{"x=2 none; echo ${x-none}", "0[none.]!sh: none: error 6."}, {"x=1; x=2 echo $x", "0[1.]"},
		{"x=1; fn() { return 3; }; x=2 fn; echo $?$x", "0[31.]"}, {"x=1; for i in 1 2; do x=$i break; done; echo $x", "0[1.]"},
		{"x=a cd /; echo $x; pwd", "0[./.]"},
		{"echo() { printf fn; }; echo a", "0[fn]"}, {"pwd() { echo fn; }; pwd", "0[fn.]"}, {"x=pwd; $x", "0[/d.]"},
		{"true() { false; }; true", "1[]"}, {"test a = a", "0[]"}, {"[ a = b ]", "1[]"}, {"touch n; echo *", "0[a b n.]"},
		{"rm x", "1[]!rm: x: error 6."}, {"calc 1 + 2", "0[3.]"},
	})
}

func TestExpansionErrors(t *testing.T) {
	checks(t, "P1601", [][2]string{
		{"echo a; echo ${none?m}; echo b", "1[a.]!sh: none: error 16."}, {"echo $((1/0)); echo b", "1[]!sh: : error 15."},
		{"echo $((1+)); echo b", "1[]!sh: : error 2."}, {"echo ${9=x}", "1[]!sh: : error 1."}, {"x=${none?m}; echo b", "1[]!sh: none: error 16."},
		{"> ${none?m}; echo b", "1[]!sh: none: error 16."}, {"for i in ${none?}; do echo a; done; echo b", "1[]!sh: none: error 16."},
		{"case ${none?} in esac; echo b", "1[]!sh: none: error 16."}, {"case a in ${none?}) echo a;; esac; echo b", "1[]!sh: none: error 16."},
		{"case a in a) echo a;; ${none?}) esac; echo b", "0[a.b.]"}, {"{ echo a; } >${none?}; echo b", "1[]!sh: none: error 16."},
		{"(echo ${none?}; echo a); echo b$?", "0[b1.]!sh: none: error 16."}, {"echo x$(echo ${none?})y; echo b", "0[xy.b.]!sh: none: error 16."},
		{"x=$(echo a; echo ${none?}); echo b$?$x", "0[b1a.]!sh: none: error 16."}, {"echo ${none?} | cat; echo b$?", "0[b0.]!sh: none: error 16."},
		{"echo ${none?} 2>/new; echo b", "1[]!sh: none: error 16."}, {"{ echo ${none?}; } 2>/new; echo b", "1[]"},
		{"echo ${none?} || echo b", "1[]!sh: none: error 16."}, {"! echo ${none?}", "1[]!sh: none: error 16."},
		{"if echo ${none?}; then echo a; else echo b; fi", "1[]!sh: none: error 16."},
		{"x=" + strings.Repeat("y", 4000) + "; echo $x$x", "1[]!sh: : error 3."},
		{"x=" + strings.Repeat("y", 4000) + "; echo $x $x >/dev; echo b", "0[b.]!sh: /dev: error 13."},
	})
	f := lay(t)
	f.Write("/zero", []byte("a\x00b"), false)
	if got := told(run(t, shell(f), "x=$(cat /zero); echo b")); got != "1[]!sh: x: error 1." {
		t.Errorf("P1601: a byte 0: %s", got)
	}
	if got := told(run(t, shell(f), "x=$(cat /zero) echo b; echo c")); got != "1[]!sh: x: error 1." {
		t.Errorf("P1601: a byte 0: %s", got)
	}
	if got := told(run(t, shell(f), "x=1; x=2 y=$(cat /zero) echo b 2>/log; echo c")); got != "1[]!sh: y: error 1." || read(f, "/log") != "" {
		t.Errorf("P1601: a byte 0: %s", got)
	}
}

func TestFullVars(t *testing.T) {
	var v vars.Vars
	for i := range 499 {
		v.Set("v"+strconv.Itoa(i), "")
	}
	for _, x := range [][2]string{{"a=1 b=2 echo x; echo y", "1[]!sh: b: error 3."}, {"a=1; b=2; echo y", "1[]!sh: b: error 3."},
		{"a=1; for b in 1; do echo y; done; echo z", "1[]!sh: b: error 3."}, {"a=1; echo ${b=2}; echo y", "1[]!sh: : error 3."},
		{"a=1 echo x; b=2; echo y", "0[x.y.]"}} {
		s := New(nil, "/", &v, nil, 100)
		if got := told(run(t, s, x[0])); got != x[1] {
			t.Errorf("P1601: %s: %s", x[0], got)
		}
		if x[0][:8] == "a=1 b=2 " && len(s.Vars()) != 499 {
			t.Errorf("P1601: %s: %d variables", x[0], len(s.Vars()))
		}
	}
}

func TestSubs(t *testing.T) {
	checks(t, "P1601", [][2]string{
		{"echo $(echo a b)", "0[a b.]"}, {"echo \"$(echo 'a  b')\" $(echo 'a  b')", "0[a  b a b.]"}, {"echo x$(printf 'a\\n\\n\\n')y", "0[xay.]"},
		{"echo \"$(printf '\\n\\na\\n')\"", "0[..a.]"}, {"echo $(echo '*') \"$(echo '*')\"", "0[a b *.]"}, {"echo $()x", "0[x.]"},
		{"echo \"$()\"", "0[.]"}, {"x=1; echo $(x=2; echo $x)$x", "0[21.]"}, {"echo $(cat)x", "0[x.]"}, {"echo $(cd /; pwd); pwd", "0[/./d.]"},
		{"echo $(echo $(echo a))", "0[a.]"}, {"echo $(exit 3)$?", "0[3.]"}, {"false; echo $(echo $?)$?", "0[10.]"}, {"echo $? $(false)$?", "0[0 1.]"},
		{"echo $(false) $?; echo $?", "0[1.0.]"}, {"x=$(echo $1 $#); echo $x", "0[p 2.]"},
		{"echo ${none-$(echo a)}", "0[a.]"}, {"echo ${1-$(touch n)}; echo *", "0[p.a b n.]"}, {"echo ${none-${none-$(touch n)}}*", "0[a b n.]"},
		{"echo \"${none-$(echo 'a  b')}\"", "0[a  b.]"}, {"echo ${1+$(echo '*')}", "0[a b.]"}, {"x=abc; echo ${x%$(echo c)}", "0[ab.]"},
		{"fn() { echo fn $1; }; echo $(fn a)", "0[fn a.]"}, {"fn() { x=1; }; echo $(fn)$x", "0[.]"}, {"echo $(set -e; false; echo a)b", "0[b.]"},
		{"echo $(none)b", "0[b.]!sh: none: error 6."}, {"echo $(none 2>/new)b", "0[b.]"}, {"echo $(none) 2>/new", "0[.]!sh: none: error 6."},
		{"{ echo $(none); } 2>/new; cat /new", "0[.sh: none: error 6.]"}, {"echo $((1+$(echo 2)))", "1[]!sh: : error 2."},
		{"for i in 1 2; do echo $(break)$i; done", "0[1.2.]"},
		{"echo $(echo a; exit; echo b) $?", "0[a 0.]"}, {"cat <$(echo a)", "0[A.]"}, {"case $(echo a) in $(echo a)) echo $(echo b);; esac", "0[b.]"},
		{"$(echo echo) a", "0[a.]"}, {"$(echo x=1); echo $x", "0[.]!sh: x=1: error 6."},
	})
}
