package field

import (
	"fmt"
	"reflect"
	"slices"
	"strconv"
	"strings"
	"testing"

	"quartermaster/api"
	"quartermaster/vfs"
)

func text(s string) api.Part  { return api.Part{Kind: api.PText, Text: s} }
func quote(s string) api.Part { return api.Part{Kind: api.PQuote, Text: s} }

// told writes fields down: each in brackets, its quoted parts between '.
func told(l [][]api.Part) string {
	s := ""
	for _, field := range l {
		s += "["
		for _, x := range field {
			switch x.Kind {
			case api.PText:
				s += x.Text + "."
			default:
				s += "'" + x.Text + "'."
			}
		}
		s += "]"
	}
	return s
}

func TestSplit(t *testing.T) {
	for i, x := range []struct {
		l    []api.Part
		want string
	}{
		{nil, ""}, {[]api.Part{text("")}, ""}, {[]api.Part{text(" \t\n")}, ""}, {[]api.Part{text("a b")}, "[a.][b.]"},
		{[]api.Part{text(" a\t\nb ")}, "[a.][b.]"}, {[]api.Part{text("a\rb\v")}, "[a\rb\v.]"},
		{[]api.Part{quote("")}, "[''.]"}, {[]api.Part{quote("a b")}, "['a b'.]"},
		{[]api.Part{text("a"), quote("b c"), text("d e")}, "[a.'b c'.d.][e.]"}, {[]api.Part{text("a "), quote("b")}, "[a.]['b'.]"},
		{[]api.Part{quote("a"), text(" "), quote("")}, "['a'.][''.]"}, {[]api.Part{text("a"), text("b")}, "[a.b.]"},
		{[]api.Part{text("a"), text(""), text(" "), text("b")}, "[a.][b.]"}, {[]api.Part{text(" "), quote(""), text(" ")}, "[''.]"},
		{[]api.Part{quote(""), quote("")}, "[''.''.]"},
		{[]api.Part{text("a"), {Kind: api.PSub, Text: "b c"}, {Kind: 0, Text: " "}, text("d")}, "[a.'b c'.' '.d.]"},
		{[]api.Part{{Kind: api.PVar}}, "[''.]"},
	} {
		if got := told(Split(x.l)); got != x.want {
			t.Errorf("P1201: %d: %s, not %s", i, got, x.want)
		}
	}
}

func TestTextAndPattern(t *testing.T) {
	for i, x := range []struct {
		l             []api.Part
		text, pattern string
	}{
		{nil, "", ""}, {[]api.Part{text("a*"), quote("b*")}, "a*b*", `a*b\*`}, {[]api.Part{quote(`?[\`), text(`?[\`)}, `?[\?[\`, `\?\[\\?[\`},
		{[]api.Part{{Kind: api.PCalc, Text: "*"}, {Kind: 77, Text: "?"}}, "*?", `\*\?`}, {[]api.Part{quote(""), text("")}, "", ""},
	} {
		if Text(x.l) != x.text || Pattern(x.l) != x.pattern {
			t.Errorf("P1201: %d: %q, %q", i, Text(x.l), Pattern(x.l))
		}
	}
}

func lay(t *testing.T, l ...string) *vfs.FS {
	f := vfs.New(2000, 9)
	for _, p := range l {
		err := api.OK
		if dir, ok := strings.CutSuffix(p, "/"); ok {
			err = f.Mkdir(dir)
		} else {
			err = f.Write(p, nil, false)
		}
		if err != api.OK {
			t.Fatal(p, err)
		}
	}
	return f
}

func TestPaths(t *testing.T) {
	f := lay(t, "/a.c", "/b.c", "/c.h", "/.x", "/d/", "/d/a.c", "/d/.y", "/d/e/", "/d/e/f.c", "/g/", "/g/a.c", "/*", "/d!/", "/d!/z")
	for i, x := range []struct {
		cwd  string
		l    []api.Part
		want string
	}{
		{"/", []api.Part{text("*.c")}, "a.c b.c"}, {"/", []api.Part{text("*.z")}, "*.z"}, {"/", []api.Part{text("*.z"), quote("*")}, "*.z*"},
		{"/", []api.Part{quote("*.c")}, "*.c"}, {"/", []api.Part{quote("*"), text("*")}, "*"}, {"/", []api.Part{text("a.c")}, "a.c"},
		{"/", []api.Part{text("none")}, "none"}, {"/", []api.Part{text(`\*.c`)}, "*.c"}, {"/", nil, ""}, {"/", []api.Part{quote("")}, ""},
		{"/", []api.Part{text("a//b/")}, "a//b/"}, {"/", []api.Part{text("[x")}, "[x"},
		{"/d", []api.Part{text("*")}, "a.c e"}, {"d", []api.Part{text("*")}, "a.c e"}, {"/d", []api.Part{text("/*.c")}, "/a.c /b.c"},
		{"/d", []api.Part{text(".*")}, ".y"}, {"/", []api.Part{text(".*")}, ".x"}, {"/", []api.Part{quote("."), text("*")}, ".x"},
		{"/d", []api.Part{text("../*.h")}, "../c.h"}, {"/d", []api.Part{text(`\.\./*.h`)}, "../c.h"},
		{"/d/e", []api.Part{text("./../*.c")}, "./../a.c"}, {"/", []api.Part{text("../*.h")}, "../c.h"},
		{"/", []api.Part{text("*/a.c")}, "d/a.c g/a.c"}, {"/", []api.Part{text("*/*")}, "d!/z d/a.c d/e g/a.c"},
		{"/", []api.Part{text("*/")}, "* a.c b.c c.h d d! g"}, {"/", []api.Part{text("/*//*/")}, "/d!/z /d/a.c /d/e /g/a.c"},
		{"/", []api.Part{text("d/*/f.c")}, "d/e/f.c"}, {"/", []api.Part{text("*/e/*")}, "d/e/f.c"}, {"/", []api.Part{text("*/.")}, "d!/. d/. g/."},
		{"/", []api.Part{text("*/..")}, "d!/.. d/.. g/.."}, {"/", []api.Part{text("d/*/..")}, "d/e/.."},
		{"/", []api.Part{text("d/*/../a*")}, "d/e/../a.c"}, {"/", []api.Part{text("[d-g]/*.c")}, "d/a.c g/a.c"},
		{"/", []api.Part{text("[d"), quote("/"), text("]*")}, "[d/]*"}, {"/", []api.Part{text("?"), quote("/a.c")}, "d/a.c g/a.c"},
		{"/none", []api.Part{text("*")}, "*"}, {"/none", []api.Part{text("./*")}, "./*"}, {"/none", []api.Part{text("../*.h")}, "../c.h"},
		{"/a.c", []api.Part{text("*")}, "*"}, {"/none", []api.Part{text("/*.h")}, "/c.h"}, {"", []api.Part{text("*.h")}, "*.h"},
		{"", []api.Part{text("/*.h")}, "/c.h"}, {"\x00", []api.Part{text("*.h"), quote("*")}, "*.h*"},
		{strings.Repeat("n", 61), []api.Part{text("*.h")}, "*.h"}, {"/", []api.Part{text("a.c/*")}, "a.c/*"},
		{"/", []api.Part{{Kind: api.PSub, Text: "*"}, text("?")}, "*?"},
	} {
		got := strings.Join(Paths(f, x.cwd, x.l), " ")
		if got != x.want {
			t.Errorf("P1202: %d: %s, not %s", i, got, x.want)
		}
	}
	if got := Paths(nil, "/", []api.Part{text("*")}); !slices.Equal(got, []string{"*"}) {
		t.Errorf("P1202: no file system: %q", got)
	}
	if got := Paths(f, "/", nil); !slices.Equal(got, []string{""}) {
		t.Errorf("P1202: no parts: %q", got)
	}
}

func TestMost(t *testing.T) {
	var l []string
	for i := range 520 {
		l = append(l, fmt.Sprintf("/%03d/", i))
	}
	l = append(l, "/499/a", "/500/a", "/510/b", "/510/c")
	f := lay(t, l...)
	if got := Paths(f, "/", []api.Part{text("*")}); len(got) != api.MaxFields || got[0] != "000" || got[499] != "499" {
		t.Errorf("P1202: %d paths", len(got))
	}
	if got := Paths(f, "/", []api.Part{text("*/a")}); !slices.Equal(got, []string{"499/a"}) {
		t.Errorf("P1202: %q", got)
	}
	if got := Paths(f, "/", []api.Part{text("5*/[abc]")}); !slices.Equal(got, []string{"500/a", "510/b", "510/c"}) {
		t.Errorf("P1202: %q", got)
	}
}

func TestKept(t *testing.T) {
	l := make([]api.Part, 2, 5)
	l[0], l[1] = text("a b"), api.Part{Kind: api.PVar, Text: "c", Name: "n", Word: []api.Part{text("w")}, Quoted: true}
	fields := Split(l)
	if want := [][]api.Part{{text("a")}, {text("b"), {Kind: api.PVar, Text: "c"}}}; !reflect.DeepEqual(fields, want) {
		t.Errorf("P1203: %v", fields)
	}
	fields[1][1].Text = "other"
	if l[1].Text != "c" || len(l[1].Word) != 1 || l[:3][2].Kind != 0 {
		t.Error("P1203: Split shares its argument's memory")
	}
	fields = Split([]api.Part{text("a b c")})
	_ = append(fields[0], quote("x"))
	if told(fields) != "[a.][b.][c.]" {
		t.Error("P1203: fields share their memory")
	}
	f := lay(t, "/a")
	Paths(f, "/", []api.Part{text("*")})
	if f.Clock() != 1 || strconv.Itoa(len(f.All())) != "1" {
		t.Error("P1203: Paths changed the file system")
	}
}
