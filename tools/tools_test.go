package tools

import (
	"fmt"
	"strconv"
	"strings"
	"testing"

	"quartermaster/api"
	"quartermaster/vfs"
)

// lay makes a file system: /d with a, b and the directory e with f; /x; /empty.
func lay(t *testing.T) *vfs.FS {
	t.Helper()
	f := vfs.New(12, 100)
	for _, err := range []api.Errno{f.Mkdir("/d"), f.Write("/d/a", []byte("A\n"), false), f.Write("/d/b", []byte("B"), false), f.Mkdir("/d/e"),
		f.Write("/d/e/f", nil, false), f.Write("/x", []byte("X\n"), false), f.Mkdir("/empty")} {
		if err != api.OK {
			t.Fatal(err)
		}
	}
	return f
}

func tree(f *vfs.FS) string {
	var l []string
	for _, e := range f.All() {
		s := e.Path
		if e.Dir {
			s += "/"
		} else if len(e.Data) > 0 {
			s += "=" + strings.ReplaceAll(string(e.Data), "\n", ".")
		}
		l = append(l, s)
	}
	return strings.Join(l, " ")
}

const before = "/d/ /d/a=A. /d/b=B /d/e/ /d/e/f /empty/ /x=X."

// told writes what a utility came to: status, Out in brackets, Log.
func told(x Told) string {
	return fmt.Sprintf("%d[%s]%s", x.Status, x.Out, x.Log)
}

// run splits a line at its spaces, where _ stands for an empty argument.
func run(f *vfs.FS, cwd, line string, in string) Told {
	l := strings.Split(line, " ")
	for i, s := range l {
		if s == "_" {
			l[i] = ""
		}
	}
	return Run(f, cwd, l[0], l[1:], []byte(in))
}

func TestHas(t *testing.T) {
	all := " echo printf cat cp mv rm mkdir rmdir touch test [ true false calc "
	for _, name := range append(strings.Fields(all), "cd", "", "Echo", "ech", "ls", "]", "sh", "echo ") {
		if Has(name) != (name != "" && strings.Contains(all, " "+name+" ")) {
			t.Errorf("P1501: Has(%q)", name)
		}
		if x := Run(nil, "/", name, nil, nil); !Has(name) && (x.Status != 127 || len(x.Out)+len(x.Log) != 0) {
			t.Errorf("P1501: Run of %q: %s", name, told(x))
		}
	}
}

func TestTexts(t *testing.T) {
	for line, want := range map[string]string{
		"true": "0[]", "true a": "0[]", "false": "1[]", "false a": "1[]",
		"echo": "0[\n]", "echo a b": "0[a b\n]", "echo -n": "0[]", "echo -n a -n": "0[a -n]", "echo a -n": "0[a -n\n]", "echo _ a _": "0[ a \n]",
		`echo \n`: "0[\\n\n]", "echo -n -n": "0[-n]", "echo -nn": "0[-nn\n]", "echo -e a": "0[-e a\n]",
		"printf": "1[]printf: : error 1\n", "printf _": "0[]", `printf a\nb\tc\\d`: "0[a\nb\tc\\d]", `printf %s,%s a`: "0[a,]",
		"printf %s a b": "0[a]", "printf %s%% x": "0[x%]", "printf %d 1+2*3": "0[7]", "printf %d%s a b": "0[0b]",
		"printf %d 1/0": "1[0]printf: 1/0: error 15\n", "printf %d": "1[0]printf: : error 2\n",
		"printf %d,%d,%s 1+ 2 z": "1[0,2,z]printf: 1+: error 2\n", "printf %d -5": "0[-5]", "printf %x%": "0[%x%]", `printf a\q\`: `0[a\q\]`,
		"printf %%s a": "0[%s]", `printf \\n`: `0[\n]`, "printf %%%d 4": "0[%4]", `printf %s a\nb`: `0[a\nb]`, "printf %s%s %d %": "0[%d%]",
		"printf %n": "0[%n]",
		"cat":       "0[IN]", "cat -": "0[IN]", "cat - /x -": "0[INX\nIN]", "cat a b": "0[A\nB]", "cat a none b": "1[A\nB]cat: none: error 6\n",
		"cat /d": "1[]cat: /d: error 10\n", "cat _": "1[]cat: : error 1\n", "cat a/x": "1[]cat: a/x: error 11\n",
		"cat _ none a": "1[A\n]cat: : error 1\ncat: none: error 6\n", "cat -- a": "1[A\n]cat: --: error 6\n",
		"test": "1[]", "test a": "0[]", "test _": "1[]", "test -e a": "0[]", "test -e /a": "1[]", "test 1 -lt 2": "0[]",
		"test a b": "2[]test: : error 2\n", "test 1 -lt a": "2[]test: : error 2\n", "test a = a ]": "2[]test: : error 2\n", "test ! _": "0[]",
		"[": "2[][: : error 2\n", "[ ]": "1[]", "[ a ]": "0[]", "[ a": "2[][: : error 2\n", "[ a = b ]": "1[]", "[ a b ]": "2[][: : error 2\n",
		"[ ] ]": "0[]", "[ -f a ]": "0[]", "[ _ ] a": "2[][: : error 2\n",
		"calc 1 + 2": "0[3\n]", "calc 1 / 4": "0[0x3fd0000000000000\n]", "calc 1 / -0": "0[-inf\n]", "calc nan min 1": "0[nan\n]",
		"calc 1 lt 2": "0[]", "calc 2 lt 1": "1[]", "calc nan eq nan": "1[]", "calc nan same nan": "0[]", "calc x + 1": "2[]calc: x: error 2\n",
		"calc 1 + y": "2[]calc: y: error 2\n", "calc x ? y": "2[]calc: x: error 2\n", "calc 1 ? y": "2[]calc: y: error 2\n",
		"calc 1 ? 2": "2[]calc: ?: error 2\n", "calc": "1[]calc: : error 1\n", "calc 1 +": "1[]calc: : error 1\n",
		"calc 1 + 2 3": "1[]calc: : error 1\n", "calc 1.5 + 2": "2[]calc: 1.5: error 2\n", "calc -0 * 5": "0[-0\n]", "calc 0 max -0": "0[0\n]",
	} {
		f := lay(t)
		if got := told(run(f, "/d", line, "IN")); got != want {
			t.Errorf("P1501: %s: %q, not %q", line, got, want)
		}
		if tree(f) != before || f.Clock() != 7 {
			t.Errorf("P1502: %s: %s", line, tree(f))
		}
	}
}

func TestFiles(t *testing.T) {
	for _, x := range [][3]string{
		{"cp a c", "0[]", "/d/ /d/a=A. /d/b=B /d/c=A. /d/e/ /d/e/f /empty/ /x=X."},
		{"cp a b", "0[]", "/d/ /d/a=A. /d/b=A. /d/e/ /d/e/f /empty/ /x=X."},
		{"cp a e", "0[]", "/d/ /d/a=A. /d/b=B /d/e/ /d/e/a=A. /d/e/f /empty/ /x=X."},
		{"cp ../x .", "0[]", "/d/ /d/a=A. /d/b=B /d/e/ /d/e/f /d/x=X. /empty/ /x=X."},
		{"cp a /", "0[]", "/a=A. /d/ /d/a=A. /d/b=B /d/e/ /d/e/f /empty/ /x=X."}, {"cp e/f a", "0[]", "/d/ /d/a /d/b=B /d/e/ /d/e/f /empty/ /x=X."},
		{"cp", "1[]cp: : error 1\n", before}, {"cp a", "1[]cp: : error 1\n", before}, {"cp a b c", "1[]cp: : error 1\n", before},
		{"cp none /y/z", "1[]cp: none: error 6\n", before}, {"cp e c", "1[]cp: e: error 10\n", before}, {"cp / c", "1[]cp: /: error 10\n", before},
		{"cp _ c", "1[]cp: : error 1\n", before}, {"cp a _", "1[]cp: : error 1\n", before}, {"cp a no/c", "1[]cp: no/c: error 6\n", before},
		{"cp a b/c", "1[]cp: b/c: error 11\n", before}, {"cp none _", "1[]cp: none: error 6\n", before},
		{"mv a c", "0[]", "/d/ /d/b=B /d/c=A. /d/e/ /d/e/f /empty/ /x=X."}, {"mv a b", "0[]", "/d/ /d/b=A. /d/e/ /d/e/f /empty/ /x=X."},
		{"mv a e", "0[]", "/d/ /d/b=B /d/e/ /d/e/a=A. /d/e/f /empty/ /x=X."},
		{"mv /empty e", "0[]", "/d/ /d/a=A. /d/b=B /d/e/ /d/e/empty/ /d/e/f /x=X."},
		{"mv e /empty", "0[]", "/d/ /d/a=A. /d/b=B /empty/ /empty/e/ /empty/e/f /x=X."}, {"mv a a", "0[]", before},
		{"mv e/f ..", "0[]", "/d/ /d/a=A. /d/b=B /d/e/ /empty/ /f /x=X."},
		{"mv", "1[]mv: : error 1\n", before}, {"mv a", "1[]mv: : error 1\n", before}, {"mv a b c", "1[]mv: : error 1\n", before},
		{"mv none c", "1[]mv: none: error 6\n", before}, {"mv _ c", "1[]mv: : error 1\n", before}, {"mv a _", "1[]mv: a: error 1\n", before},
		{"mv none _", "1[]mv: none: error 1\n", before}, {"mv a no/c", "1[]mv: a: error 6\n", before}, {"mv a b/c", "1[]mv: a: error 11\n", before},
		{"mv e a", "1[]mv: e: error 11\n", before}, {"mv e e", "1[]mv: e: error 1\n", before}, {"mv . e", "1[]mv: .: error 1\n", before},
		{"mv / e", "1[]mv: /: error 1\n", before}, {"mv e e/g", "1[]mv: e: error 1\n", before},
		{"rm", "0[]", before}, {"rm a", "0[]", "/d/ /d/b=B /d/e/ /d/e/f /empty/ /x=X."},
		{"rm a none b", "1[]rm: none: error 6\n", "/d/ /d/e/ /d/e/f /empty/ /x=X."}, {"rm /empty", "0[]", "/d/ /d/a=A. /d/b=B /d/e/ /d/e/f /x=X."},
		{"rm e", "1[]rm: e: error 14\n", before}, {"rm -r e", "0[]", "/d/ /d/a=A. /d/b=B /empty/ /x=X."},
		{"rm -f a none b/x", "1[]rm: b/x: error 11\n", "/d/ /d/b=B /d/e/ /d/e/f /empty/ /x=X."}, {"rm -f none no/x", "0[]", before},
		{"rm -f e", "1[]rm: e: error 14\n", before}, {"rm -rf none . _", "1[]rm: : error 1\n", "/empty/ /x=X."},
		{"rm -fr e", "0[]", "/d/ /d/a=A. /d/b=B /empty/ /x=X."}, {"rm -r none", "1[]rm: none: error 6\n", before},
		{"rm -r /", "1[]rm: /: error 1\n", ""}, {"rm -rf /", "1[]rm: /: error 1\n", ""},
		{"rm -f -r a", "0[]", "/d/ /d/b=B /d/e/ /d/e/f /empty/ /x=X."}, {"rm -x", "1[]rm: -x: error 6\n", before},
		{"rm a -r", "1[]rm: -r: error 6\n", "/d/ /d/b=B /d/e/ /d/e/f /empty/ /x=X."}, {"rm -f", "0[]", before},
		{"rm /", "1[]rm: /: error 1\n", before},
		{"mkdir", "0[]", before}, {"mkdir g e h", "1[]mkdir: e: error 12\n", "/d/ /d/a=A. /d/b=B /d/e/ /d/e/f /d/g/ /d/h/ /empty/ /x=X."},
		{"mkdir g/h", "1[]mkdir: g/h: error 6\n", before}, {"mkdir /", "1[]mkdir: /: error 12\n", before},
		{"mkdir -p g/h e/i", "0[]", "/d/ /d/a=A. /d/b=B /d/e/ /d/e/f /d/e/i/ /d/g/ /d/g/h/ /empty/ /x=X."}, {"mkdir -p a", "0[]", before},
		{"mkdir -p a/g e", "1[]mkdir: a/g: error 11\n", before}, {"mkdir -p /", "0[]", before}, {"mkdir -p", "0[]", before},
		{"mkdir -p _", "1[]mkdir: : error 1\n", before}, {"mkdir g -p", "0[]", "/d/ /d/-p/ /d/a=A. /d/b=B /d/e/ /d/e/f /d/g/ /empty/ /x=X."},
		{"mkdir -p 1/2/3/4/5/6", "1[]mkdir: 1/2/3/4/5/6: error 13\n",
			"/d/ /d/1/ /d/1/2/ /d/1/2/3/ /d/1/2/3/4/ /d/1/2/3/4/5/ /d/a=A. /d/b=B /d/e/ /d/e/f /empty/ /x=X."},
		{"rmdir", "0[]", before}, {"rmdir /empty", "0[]", "/d/ /d/a=A. /d/b=B /d/e/ /d/e/f /x=X."},
		{"rmdir e a none /empty _", "1[]rmdir: e: error 14\nrmdir: a: error 11\nrmdir: none: error 6\nrmdir: : error 1\n",
			"/d/ /d/a=A. /d/b=B /d/e/ /d/e/f /x=X."},
		{"rmdir /", "1[]rmdir: /: error 1\n", before},
		{"touch", "0[]", before}, {"touch g", "0[]", "/d/ /d/a=A. /d/b=B /d/e/ /d/e/f /d/g /empty/ /x=X."},
		{"touch _ no/g a/g", "1[]touch: : error 1\ntouch: no/g: error 6\ntouch: a/g: error 11\n", before}, {"touch /", "0[]", before},
	} {
		f := lay(t)
		if got := told(run(f, "/d", x[0], "")); got != x[1] {
			t.Errorf("P1501: %s: %q, not %q", x[0], got, x[1])
		}
		if tree(f) != x[2] {
			t.Errorf("P1501: %s: %s, not %s", x[0], tree(f), x[2])
		}
	}
	f := lay(t)
	if run(f, "/d", "touch a e", ""); f.Time("/d/a") != 8 || f.Time("/d/e") != 9 {
		t.Error("P1501: touch sets no times")
	}
	if run(f, "\x00", "touch a", ""); f.Clock() != 9 {
		t.Error("P1501: a path in a directory that can't be")
	}
}

func TestRemoveOrder(t *testing.T) {
	f := vfs.New(9, 9)
	f.Mkdir("/d")
	f.Write("/d/b", nil, false)
	f.Write("/d/a", nil, false)
	if x := run(f, "/", "rm -r d", ""); told(x) != "0[]" || f.Clock() != 6 || f.Kind("/d") != 0 {
		t.Errorf("P1501: rm -r: %s, clock %d", told(x), f.Clock())
	}
}

func TestMostOut(t *testing.T) {
	f := vfs.New(3, 1<<20)
	big := strings.Repeat("x", api.MaxOut-1)
	f.Write("/big", []byte(big), false)
	for _, x := range []struct {
		name string
		args []string
		want string
	}{
		{"cat", []string{"/big"}, big}, {"cat", []string{"/big", "-", "/big"}, big + "A"}, {"echo", []string{big}, big + "\n"},
		{"echo", []string{big, "y"}, big + " "}, {"printf", []string{"%sab%s", big, big}, big + "a"}, {"echo", []string{"-n", big}, big},
	} {
		got := Run(f, "/", x.name, x.args, []byte("AB"))
		if string(got.Out) != x.want || got.Status != 0 {
			t.Errorf("P1501: %s: %d bytes, status %d", x.name, len(got.Out), got.Status)
		}
	}
	got := Run(f, "/", "cat", []string{"/big", "-", "none"}, []byte("AB"))
	if len(got.Out) != api.MaxOut || told(Told{Status: got.Status, Log: got.Log}) != "1[]cat: none: error 6\n" {
		t.Errorf("P1501: %d bytes, %s", len(got.Out), got.Log)
	}
}

func TestKept(t *testing.T) {
	in := []byte("in")
	args := make([]string, 2, 4)
	args[0], args[1] = "a", "]"
	x := Run(nil, "/", "cat", nil, in)
	x.Out[0] = 'x'
	Run(nil, "/", "[", args, in)
	if string(in) != "in" || args[1] != "]" {
		t.Error("P1502: an argument was changed")
	}
	for i, line := range []string{"touch a", "mkdir a", "rm a", "cp a b", "mv a b", "rmdir a", "mkdir -p a/b", "rm -r /", "cat a"} {
		if x := run(nil, "/", line, ""); x.Status != 1 || len(x.Log) == 0 {
			t.Errorf("P1502: %s without a file system: %s", strconv.Itoa(i), told(x))
		}
	}
}
