package expand

import (
	"fmt"
	"reflect"
	"slices"
	"strconv"
	"strings"
	"testing"

	"quartermaster/api"
	"quartermaster/lex"
	"quartermaster/vars"
)

// fresh returns variables: one is 1, e is empty, path is /a/b.c.d, and star a*.
func fresh(t *testing.T) *vars.Vars {
	t.Helper()
	v := &vars.Vars{}
	for _, x := range [][2]string{{"one", "1"}, {"e", ""}, {"path", "/a/b.c.d"}, {"star", "a*"}, {"sp", "a b"}, {"word", "x y"}} {
		if err := v.Set(x[0], x[1]); err != api.OK {
			t.Fatal(err)
		}
	}
	return v
}

// told writes parts down: the quoted ones between '.
func told(l []api.Part) string {
	var s []string
	for _, x := range l {
		switch x.Kind {
		case api.PText:
			s = append(s, x.Text)
		case api.PQuote:
			s = append(s, "'"+x.Text+"'")
		default:
			s = append(s, fmt.Sprint(x))
		}
	}
	return strings.Join(s, "|")
}

func parse(t *testing.T, s string) []api.Part {
	t.Helper()
	w, err := lex.Word(s)
	if err != api.OK {
		t.Fatalf("%q is no word", s)
	}
	return w
}

func TestGet(t *testing.T) {
	many := make([]string, 10001)
	many[9999] = "far"
	for _, x := range []struct {
		args   []string
		status int
		name   string
		want   string
		ok     bool
	}{
		{nil, 0, "?", "0", true}, {nil, -7, "?", "-7", true}, {nil, 127, "?", "127", true}, {nil, 0, "#", "0", true},
		{[]string{"sh"}, 0, "#", "0", true}, {[]string{"sh", "a", "b"}, 0, "#", "2", true},
		{[]string{"sh", "one"}, 0, "0", "sh", true}, {[]string{"sh", "one"}, 0, "1", "one", true}, {[]string{"sh", "one"}, 0, "2", "", false},
		{nil, 0, "0", "", false}, {[]string{"sh", ""}, 0, "1", "", true}, {[]string{"sh", "one"}, 0, "0001", "one", true},
		{[]string{"sh", "one"}, 0, "00001", "", false}, {many, 0, "9999", "far", true}, {many, 0, "10000", "", false},
		{nil, 0, "@", "", true}, {[]string{"sh"}, 0, "*", "", true}, {[]string{"sh", "a b", "", "c"}, 0, "@", "a b  c", true},
		{[]string{"sh", "a", "b"}, 0, "*", "a b", true},
		{nil, 0, "one", "1", true}, {nil, 0, "e", "", true}, {nil, 0, "none", "", false}, {nil, 0, "", "", false}, {nil, 0, "-1", "", false},
		{nil, 0, "a b", "", false}, {nil, 0, "$", "", false}, {nil, 0, "1a", "", false},
	} {
		if got, ok := New(fresh(t), x.args, x.status).Get(x.name); got != x.want || ok != x.ok {
			t.Errorf("P1301: Get(%q) with %d arguments: %q, %v", x.name, len(x.args), got, ok)
		}
	}
	if got, ok := New(nil, nil, 0).Get("#"); got != "0" || !ok {
		t.Error("P1301: Get of # without anything")
	}
}

func TestWord(t *testing.T) {
	for s, want := range map[string]string{
		"": "", "a": "a", "a'b'\"c\"": "a|'bc'", "''": "''", "a$one": "a|1", "$one$one": "1|1", "$none": "", "$e": "", "\"$e\"": "''",
		"\"$none\"": "''", "a$e'b'": "a|'b'", "\"a$one b\"": "'a'|'1'|' b'", "$sp": "a b", "\"$sp\"": "'a b'", "$star": "a*",
		"$?": "3", "$#": "2", "$0": "sh", "$1": "p q", "$2": "r", "$3": "", "$@": "p q r", "\"$*\"": "'p q r'", "${01}": "p q", "${12345}": "",
		"${#path}": "8", "\"${#path}\"": "'8'", "${#none}": "0", "${#e}": "0", "${#@}": "5", "${#1}": "3", "${#}": "2",
		"${one-x}": "1", "${one:-x}": "1", "${e-x}": "", "${e:-x}": "x", "${none-x}": "x", "${none:-x}": "x", "${none-}": "", "\"${e-x}\"": "''",
		"\"${none-}\"": "''", "\"${e:-a 'b'}\"": "'a 'b''", "${e:-w 'v'}": "w |'v'", "${none-$one'a'${e:-b}}": "1|'a'|b",
		"\"${none-$one}x\"": "'1'|'x'", "${none-''}": "''", "${none-\"\"$e}": "", "${none-\"$e\"}": "''", "x${none-\"$e\"}": "x|''",
		"\"${none-$one$sp}\"": "'1a b'",
		`"${none-\}a"`:        `'\'|'a'`, `"${none-\$one\a\\}"`: `'$one\a\'`, `"${star%\*}"`: "'a*'", `"${none-\'b}"`: `'\'b'`,
		"${one+x}": "x", "${one:+x}": "x", "${e+x}": "x", "${e:+x}": "", "${none+x}": "", "${none:+x}": "", "\"${none+x}\"": "''",
		"\"${one+x$one}\"": "'x1'", "${one+${none-y}}": "y", "${1+x}${9+y}": "x",
		"${one?x}": "1", "${one:?x}": "1", "${e?x}": "", "${one=x}": "1", "${e=x}": "", "${?-x}": "3", "${#-x}": "2", "${@-x}": "p q r",
		"${path%.*}": "/a/b.c", "${path%%.*}": "/a/b", "${path#*/}": "a/b.c.d", "${path##*/}": "b.c.d", "\"${path##*/}\"": "'/a/b.c.d'",
		"\"${path#/a/}\"": "'b.c.d'", "${path%x}": "/a/b.c.d", "${path%}": "/a/b.c.d", "${none%x}": "", "\"${none#x}\"": "''",
		"${path%$one}": "/a/b.c.d", "${star%\\*}": "a", "${star%'*'}": "a", "${star%*}": "a*", "${star%%*}": "", "${star#$star}": "*",
		"${star#\"$star\"}": "", "${path%.${none-d}}": "/a/b.c", "${1%q}": "p ",
		"$((1+2))": "3", "\"$((1+2))\"": "'3'", "a$((one+1))b": "a|2|b", "$(($one+1))": "2", "$(($#*10+$?))": "23", "$((-3))": "-3",
		"$(($none+1))": "1", "$((1$none2))": "1", "$((1$e))": "1", "$(($one$one+0))": "11", "$((e))": "0", "$(($#$#))": "22",
		"$((9223372036854775807+1))": "-9223372036854775808",
		"${none-$((1+1))}":           "2", "${one+$((1+1))'x'}": "2|'x'",
	} {
		s2 := New(fresh(t), []string{"sh", "p q", "r"}, 3)
		got, err := s2.Word(parse(t, s))
		if err != api.OK || told(got) != want {
			t.Errorf("P1302: Word(%q): %s, error %d, not %s", s, told(got), err, want)
		}
	}
}

func TestErrors(t *testing.T) {
	long := strings.Repeat("x", api.MaxWord)
	for s, want := range map[string]api.Errno{
		"${none?m}": api.ErrUnset, "${none:?}": api.ErrUnset, "${e:?m}": api.ErrUnset, "a${9?}": api.ErrUnset, "${1=x}": api.OK,
		"${9=x}": api.ErrArg, "${@:=x}": api.OK, "${?=x}": api.OK, "${none-${none?}}": api.ErrUnset, "${one-${none?}}": api.OK,
		"${none+${none?}}": api.OK, "${one:?${none?}}": api.OK, "${one%${none?}}": api.ErrUnset,
		"$((1/0))": api.ErrZero, "$((1+))": api.ErrSyntax, "$((${one}))": api.ErrSyntax, "$((1 $))": api.ErrSyntax, "$(($$))": api.ErrSyntax,
		"$(())": api.ErrSyntax, "$((word))": api.ErrSyntax, "$(($word))": api.ErrSyntax, "$((1/0${))": api.ErrSyntax, "$(($e))": api.ErrSyntax,
		"$(a)": api.ErrSyntax, "${none-$(a)}": api.ErrSyntax, "${one-$(a)}": api.OK,
		long: api.OK, long + "x": api.ErrLong, "'" + long + "'x": api.ErrLong, long + "$e''": api.OK, long + "$one": api.ErrLong,
		"${none-" + long + "}": api.OK, "${none-" + long + "x}": api.ErrLong, "x${none-" + long + "}": api.ErrLong,
		"${one%" + long + "x}": api.ErrLong, "${one-" + long + "x}": api.OK, long + "x${none?}": api.ErrLong, "${none?}" + long + "x": api.ErrUnset,
		"${none-" + long + "x${none?}}": api.ErrLong, "${none=" + long + "}": api.OK, "$((" + strings.Repeat(" ", api.MaxWord) + "1))": api.ErrLong,
		"$((" + strings.Repeat("$one+", 3000) + "1))": api.ErrLong, "$((" + strings.Repeat("$path", 3000) + "${))": api.ErrSyntax,
		"$((" + strings.Repeat("$none", 3000) + " 1))":                            api.OK,
		"${none-" + strings.Repeat("${none-", 39) + "x" + strings.Repeat("}", 40): api.OK,
	} {
		v := fresh(t)
		w := parse(t, s)
		got, err := New(v, []string{"sh", "p q", "r"}, 0).Word(w)
		if err != want || err != api.OK && got != nil {
			t.Errorf("P1302: Word(%.40q): error %d, not %d", s, err, want)
		}
		if text, terr := New(fresh(t), []string{"sh", "p q", "r"}, 0).Text(w); terr != want || terr != api.OK && text != "" {
			t.Errorf("P1303: Text(%.40q): error %d, not %d", s, terr, want)
		}
	}
}

// nested returns n parameters in each other.
func nested(n int) []api.Part {
	w := []api.Part{{Kind: api.PText, Text: "x"}}
	for range n {
		w = []api.Part{{Kind: api.PVar, Name: "none", Op: "-", Word: w}}
	}
	return w
}

func TestNest(t *testing.T) {
	circle := nested(1)
	circle[0].Word = circle
	for i, x := range []struct {
		w    []api.Part
		want api.Errno
	}{{nested(40), api.OK}, {nested(41), api.ErrLong}, {circle, api.ErrLong},
		{[]api.Part{{Kind: api.PVar, Name: "one", Op: "-", Word: circle}}, api.OK},
		{[]api.Part{{Kind: api.PVar, Name: "one", Op: "", Word: circle}}, api.OK}} {
		if _, err := New(fresh(t), nil, 0).Word(x.w); err != x.want {
			t.Errorf("P1302: %d: error %d", i, err)
		}
	}
}

func TestOddParts(t *testing.T) {
	for i, x := range []struct {
		w    []api.Part
		want string
	}{
		{[]api.Part{{Kind: api.PText, Text: "a", Name: "n", Op: "o", Quoted: true, Word: nested(1)}}, "a"},
		{[]api.Part{{Kind: api.PText}, {Kind: api.PQuote}, {Kind: api.PText}}, "''"},
		{[]api.Part{{Kind: 0}}, "!2"}, {[]api.Part{{Kind: 9, Text: "a"}}, "!2"}, {[]api.Part{{Kind: api.PSub}}, "!2"},
		{[]api.Part{{Kind: api.PVar, Name: "one", Op: ":"}}, "!2"}, {[]api.Part{{Kind: api.PVar, Name: "one", Op: ":%"}}, "!2"},
		{[]api.Part{{Kind: api.PVar, Name: "one", Op: ":L"}}, "!2"}, {[]api.Part{{Kind: api.PVar, Name: "one", Op: "/"}}, "!2"},
		{[]api.Part{{Kind: api.PVar, Name: "one", Op: "%%%"}}, "!2"}, {[]api.Part{{Kind: api.PVar, Name: "one", Op: "::-"}}, "!2"},
		{[]api.Part{{Kind: api.PVar, Name: "no name", Op: "-", Word: []api.Part{{Kind: api.PText, Text: "x"}}}}, "x"},
		{[]api.Part{{Kind: api.PVar, Name: "no name", Op: "="}}, "!1"}, {[]api.Part{{Kind: api.PVar}}, ""},
		{[]api.Part{{Kind: api.PVar, Name: "zero", Op: "=", Word: []api.Part{{Kind: api.PText, Text: "\x00"}}}}, "!1"},
		{[]api.Part{{Kind: api.PVar, Name: "", Op: "?"}}, "!16"},
	} {
		l, err := New(fresh(t), nil, 0).Word(x.w)
		got := told(l)
		if err != api.OK {
			got = "!" + strconv.Itoa(int(err))
		}
		if got != x.want {
			t.Errorf("P1302: %d: %s, not %s", i, got, x.want)
		}
	}
}

func TestAssign(t *testing.T) {
	v := fresh(t)
	s := New(v, nil, 0)
	for _, x := range [][3]string{{"${a=x}", "a", "x"}, {"${a=y}", "a", "x"}, {"${e=x}", "e", ""}, {"${e:=x$one'y'}", "e", "x1y"},
		{"${b:=${c=z}}", "c", "z"}, {"$b", "b", "z"}, {"${d=''}", "d", ""}, {"\"${g=a b}\"", "g", "a b"}} {
		if _, err := s.Word(parse(t, x[0])); err != api.OK {
			t.Errorf("P1302: Word(%q): error %d", x[0], err)
		}
		if got, ok := v.Get(x[1]); !ok || got != x[2] {
			t.Errorf("P1302: after %q, %s is %q, %v", x[0], x[1], got, ok)
		}
	}
	if l, err := s.Word(parse(t, "${h=a 'b'}")); err != api.OK || told(l) != "a |'b'" {
		t.Errorf("P1302: %s", told(l))
	}
	if _, err := s.Word(parse(t, "${i=1}${j=2}${none?}${k=3}")); err != api.ErrUnset {
		t.Errorf("P1304: error %d", err)
	}
	_, i := v.Get("i")
	_, j := v.Get("j")
	_, k := v.Get("k")
	if !i || !j || k {
		t.Error("P1304: assignments before an error remain")
	}
	for i := range 500 {
		v.Set("v"+strconv.Itoa(i), "")
	}
	if _, err := s.Word(parse(t, "${full=1}")); err != api.ErrLong {
		t.Errorf("P1302: error %d", err)
	}
	v.Set("one", "2")
	if l, _ := s.Word(parse(t, "$one")); told(l) != "2" {
		t.Error("P1301: the scope doesn't use its variables directly")
	}
}

func TestText(t *testing.T) {
	v := &vars.Vars{}
	v.Set("n", "7")
	for s, want := range map[string]string{"a'b'$n": "ab7", "": "", "''": "", "$none": "", "\"$n \"x": "7 x"} {
		if got, err := New(v, nil, 0).Text(parse(t, s)); got != want || err != api.OK {
			t.Errorf("P1303: Text(%q) = %q, %d", s, got, err)
		}
	}
}

func TestFailed(t *testing.T) {
	s := New(fresh(t), nil, 0)
	for _, x := range [][2]string{{"a", ""}, {"${none?m}", "none"}, {"$one", "none"}, {"$((1/0))", "none"}, {"${e:?}", "e"},
		{"${one?}${7?}", "7"}, {"${a=${b?}}", "b"}} {
		if s.Word(parse(t, x[0])); s.Failed() != x[1] {
			t.Errorf("P1303: after %q, Failed is %q", x[0], s.Failed())
		}
	}
}

func TestKept(t *testing.T) {
	args := []string{"sh", "a"}
	s := New(nil, args, 0)
	args[1] = "b"
	if got, _ := s.Get("1"); got != "a" {
		t.Error("P1304: the scope keeps its arguments")
	}
	w := parse(t, "a${b-c'd'}$((1))")
	before := parse(t, "a${b-c'd'}$((1))")
	l, err := s.Word(w)
	if err != api.OK || !reflect.DeepEqual(w, before) {
		t.Error("P1304: Word changed its word")
	}
	for i := range l {
		l[i].Text = "other"
	}
	if again, _ := s.Word(w); told(again) != "a|c|'d'|1" || slices.Equal(args, nil) {
		t.Errorf("P1304: %s", told(again))
	}
	var zero Scope
	if got, err := zero.Word(parse(t, "${a=1}$a$#$((a+1))")); err != api.OK || told(got) != "1|1|0|2" {
		t.Errorf("P1304: %s, %d", told(got), err)
	}
}
