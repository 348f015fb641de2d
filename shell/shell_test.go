package shell

import (
	"math/rand"
	"reflect"
	"strconv"
	"strings"
	"testing"

	"quartermaster/api"
	"quartermaster/gen"
	"quartermaster/vfs"
)

func told(r api.Result) string {
	s := strconv.Itoa(r.Status) + "[" + string(r.Out) + "]" + string(r.Log) + strconv.Itoa(r.Fuel)
	if r.Err != api.OK {
		s = "error " + strconv.Itoa(int(r.Err)) + " " + s
	}
	return strings.ReplaceAll(s, "\n", ".")
}

func TestRun(t *testing.T) {
	env := []api.Pair{
		{Name: "x", Value: "1"}, {Name: "y", Value: "2"}, {Name: "x", Value: "3"}, {Name: "a-b", Value: "4"},
		{Name: "y", Value: "\x00"}, {Name: "z", Value: strings.Repeat("z", api.MaxWord+1)},
	}
	args := []string{"sh", "p"}
	for _, x := range []struct {
		script string
		fuel   int
		want   string
	}{
		{"echo a", 5, "0[a.]4"}, {"echo a", 1, "0[a.]0"}, {"echo a", 0, "error 17 0[]0"}, {"", 0, "0[]0"}, {"", -5, "0[]0"},
		{"echo a", -5, "error 17 0[]0"}, {"false", 5, "1[]4"}, {"none", 5, "127[]sh: none: error 6.4"}, {"exit 3", 5, "3[]4"},
		{";", 5, "2[]sh: : error 2.5"}, {"if", -5, "2[]sh: : error 2.0"}, {"a 'b", 0, "2[]sh: : error 2.0"},
		{strings.Repeat("a", api.MaxScript+1), 7, "2[]sh: : error 3.7"}, {strings.Repeat("(", 41), 7, "2[]sh: : error 3.7"},
		{"echo a\x00", 7, "2[]sh: : error 2.7"}, {"echo a; ;", 7, "2[]sh: : error 2.7"},
		{"echo $x$y${z-n} $0 $1 $#", 5, "0[32n sh p 1.]4"}, {"cat; cat", 5, "0[ININ]2"}, {"pwd", 5, "0[/d.]4"},
		{"cd /a && pwd", 5, "1[]sh: /a: error 6.3"}, {"x=5; echo $x", 5, "0[5.]2"}, {"echo " + strings.Repeat("a ", 500), 5, "error 3 0[]0"},
	} {
		f := vfs.New(9, 99)
		f.Mkdir("/d")
		if got := told(Run(f, "/d", env, args, x.script, []byte("IN"), x.fuel)); got != x.want {
			t.Errorf("P1701: %.40q: %s, not %s", x.script, got, x.want)
		}
		if f.Clock() != 1 {
			t.Errorf("P1701: %.40q changed the file system", x.script)
		}
	}
	if got := told(Run(nil, "/none", nil, nil, "pwd; echo $#; >a", nil, 9)); got != "1[/.0.]sh: a: error 13.5" {
		t.Errorf("P1701: without anything: %s", got)
	}
	if env[0].Value != "1" || args[0] != "sh" {
		t.Error("P1702: an argument was changed")
	}
}

// TestFuel checks that more fuel changes nothing but the fuel that is left.
func TestFuel(t *testing.T) {
	r := rand.New(rand.NewSource(17))
	pieces := []string{
		"echo $x >f", "x=$(cat f)", "for i in 1 2 3; do", "while test $i != 2; do i=2;", "done;", "if test -e f; then", "fi;", "(", ")", "{", "}", "|",
		"&&", "||", "cat f", "rm f;", "fn() {", "fn", ";", "!", "break;", "none", "set -e;", "x=a$x;", "echo $i", "exit 3;", "echo a",
	}
	ran := 0
	for i := range 40000 {
		var l []string
		for range 1 + r.Intn(12) {
			l = append(l, pieces[r.Intn(len(pieces))])
		}
		script := strings.Join(l, " ")
		if i%20 == 0 {
			script = gen.Script(i, 9)
		}
		least := -1
		var first api.Result
		var entries []api.Entry
		for fuel := range 60 {
			f := vfs.New(9, 99)
			got := Run(f, "/", nil, []string{"sh"}, script, nil, fuel)
			if got.Err == api.ErrFuel && least < 0 {
				if !reflect.DeepEqual(got, api.Result{Err: api.ErrFuel}) {
					t.Fatalf("P1701: %q: %v", script, got)
				}
				continue
			}
			if least < 0 {
				least, first, entries = fuel, got, f.All()
			}
			want := first
			want.Fuel += fuel - least
			if first.Err != api.OK {
				want.Fuel = 0
			}
			if told(got) != told(want) || !reflect.DeepEqual(f.All(), entries) {
				t.Fatalf("P1702: %q: with %d units %s, with %d units %s", script, least, told(first), fuel, told(got))
			}
			if fuel > least+3 {
				break
			}
		}
		if least > 3 {
			ran++
		}
	}
	if ran < 500 {
		t.Errorf("P1702: only %d scripts ran", ran)
	}
}
