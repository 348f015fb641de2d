package macro

import (
	"strconv"
	"strings"
	"testing"

	"quartermaster/api"
)

func TestName(t *testing.T) {
	long := strings.Repeat("n", api.MaxName)
	for s, want := range map[string]bool{
		"A.b-c_9": true, "": false, "-": true, ".": true, "9": true, long: true, long + "n": false, "a b": false, "a+": false, "a:": false,
		"a/b": false, "$": false,
		"\xe9": false, "a\x00": false, "@": false, "a\n": false, "%": false,
	} {
		if Name(s) != want {
			t.Errorf("P1901: Name(%q)", s)
		}
	}
}

var macros = []api.Pair{
	{Name: "a", Value: "first"}, {Name: "a", Value: "p.c q"}, {Name: "b", Value: "<$(a)>"}, {Name: "name", Value: "a"}, {Name: "e", Value: ""},
	{Name: "dollar", Value: "$$(a)"}, {Name: "w", Value: " x.c\t y.c\n z.h "}, {Name: "@", Value: "l"},
	{Name: "loop", Value: "x$(loop)"}, {Name: "to", Value: "${fro}"}, {Name: "fro", Value: "${to}"}, {Name: "self", Value: "$$(self)"},
	{Name: "open", Value: "$(a"}, {Name: "c:d", Value: "colon"}, {Name: "c", Value: "see"}, {Name: "twice", Value: "$(a)$(a)"},
	{Name: "x y", Value: "space"}, {Name: "", Value: "none"}, {Name: "par(en)", Value: "p"}, {Name: "}", Value: "brace"},
	{Name: ".o", Value: "oh"}, {Name: "tail", Value: "a$"},
}

var auto = []api.Pair{{Name: "@", Value: "old"}, {Name: "@", Value: "t$(a)"}, {Name: "^", Value: "a.c b.c"}, {Name: "loop", Value: ""}}

func TestExpand(t *testing.T) {
	for s, want := range map[string]string{
		"": "", "abc": "abc", "$$": "$", "$$$$": "$$", "a$": "a$", "$": "$", "$$$": "$$", "$$(a)": "$(a)", "a)b}": "a)b}",
		"$(a)": "p.c q", "${a}": "p.c q", "$a": "p.c q", "$ab": "p.c qb", "$(b)": "<p.c q>", "$(none)": "", "$z": "", "x$(e)y": "xy",
		"$(dollar)": "$(a)", "$($(name))": "p.c q", "$(${name})": "p.c q", "$($(e)a)": "p.c q", "$()": "none", "${}": "none", "$(x y)": "space",
		"$ x": "x", "$(par(en))": "p", "${par(en)}": "p", "$}": "brace", "$)": "", "$(tail)b": "a$b", "$(twice)": "p.c qp.c q", "$(self)": "$(self)",
		"$(a$$)": "", "$(a) ${a}\n$(a)": "p.c q p.c q\np.c q", "$(c:d)": "colon", "$(a:b)": "", "$(a:)": "", "$\n": "",
		"$@": "t$(a)", "$(@)": "t$(a)", "${@}": "t$(a)", "$(loop)": "", "$^": "a.c b.c", "$(^:.c=.o)": "a.o b.o", "$(@:)=)": "=)",
		"$(a:.c=.o)": "p.o q", "${a:.c=.o}": "p.o q", "$(w:.c=.o)": "x.o y.o z.h", "$(w:.c=)": "x y z.h", "$(w:=.x)": "x.c.x y.c.x z.h.x",
		"$(w:%.c=%.o)": "x.o y.o z.h", "$(w:%=d/%)": "d/x.c d/y.c d/z.h", "$(w:x%=%)": ".c y.c z.h", "$(w:%.c=o)": "o o z.h",
		"$(w:%.c=%%)": "x% y% z.h", "$(w:.c=%)": "x% y% z.h", "$(w:none=x)": "x.c y.c z.h", "$(e:=x)": "", "$(none:a=b)": "",
		"$(w:.c=a=b)": "xa=b ya=b z.h", "$(w:.c=a:b)": "xa:b ya:b z.h", "$(c:d:e=f)": "see", "$(w:.$(c)=x)": "x.c y.c z.h",
		"$(w:.c=$(.o))": "xoh yoh z.h", "$(w:%.c=$$)": "$ $ z.h", "$($(name):.c=.o)": "p.o q", "$(w:x.c=)": " y.c z.h", "$(w: y=z)": "x.c y.c z.h",
		"$(w:.c= )": "x  y  z.h", "$(a=b:c)": "", "$(:a=b)": "none",
	} {
		if got, err := Expand(s, macros, auto); got != want || err != api.OK {
			t.Errorf("P1902: Expand(%q) = %q, error %d, not %q", s, got, err, want)
		}
	}
	if got, _ := Expand("$@$(loop)", macros[:8], nil); got != "l" {
		t.Errorf("P1902: without automatic macros: %q", got)
	}
}

// chain returns n macros, of which each refers to the next one.
func chain(n int) []api.Pair {
	var l []api.Pair
	for i := range n {
		l = append(l, api.Pair{Name: "m" + strconv.Itoa(i), Value: "$(m" + strconv.Itoa(i+1) + ")"})
	}
	return l
}

func TestErrors(t *testing.T) {
	full := strings.Repeat("x", api.MaxScript)
	big := []api.Pair{{Name: "full", Value: full}, {Name: "over", Value: full + "x"}, {Name: "half", Value: full[:api.MaxScript/2+1]},
		{Name: "e", Value: ""}, {Name: "hundred", Value: strings.Repeat("$e", 100)}, {Name: "loop", Value: "$(loop)"},
		{Name: "wide", Value: strings.Repeat("a ", 8000)}, {Name: "dollars", Value: strings.Repeat("$$", api.MaxScript/2)}}
	wide := []api.Pair{{Name: "auto", Value: full + "x"}, {Name: "fit", Value: full}}
	nest := func(n int) string { return strings.Repeat("$(", n) + strings.Repeat(")", n) }
	for _, x := range []struct {
		s    string
		l    []api.Pair
		want api.Errno
	}{
		{full, nil, 0}, {full + "x", nil, api.ErrLong}, {full + "$(", nil, api.ErrLong}, {"$(full)", big, 0}, {"$(full)x", big, api.ErrLong},
		{"x$(full)", big, api.ErrLong}, {"$(over)", big, api.ErrLong}, {"$(over:%=)", big, api.ErrLong}, {"$(none)$(half)$(half)", big, api.ErrLong},
		{"$(half)", big, 0}, {"$(wide:=bb)", big, api.ErrLong}, {"$(wide:=b)", big, api.ErrLong}, {"$(wide:a=bb)", big, api.ErrLong},
		{"$(wide:a=b)", big, 0}, {"$(wide:%=%%%)", big, api.ErrLong}, {"$(dollars)", big, 0}, {strings.Repeat("$$", api.MaxScript/2), nil, 0},
		{"$(auto)", big, api.ErrLong}, {"$(fit)", big, 0}, {"$(fit)$", big, api.ErrLong}, {"$($(fit)x)", big, api.ErrLong},
		{"$(full)x$(", big, api.ErrLong}, {"$(full)$(", big, api.ErrSyntax},
		{"$(", nil, api.ErrSyntax}, {"${", nil, api.ErrSyntax}, {"$(a", nil, api.ErrSyntax}, {"$(a}", nil, api.ErrSyntax},
		{"${a)", nil, api.ErrSyntax}, {"$(a(b)", nil, api.ErrSyntax}, {"$(${a)}", nil, api.ErrSyntax}, {"$(a${b)", nil, api.ErrSyntax},
		{"$(open)", macros, api.ErrSyntax}, {"$($(open))", macros, api.ErrSyntax}, {"$(loop)$(", macros, api.ErrCycle},
		{"$(a $(loop)", macros, api.ErrSyntax},
		{"$(loop)", macros, api.ErrCycle}, {"$(to)", macros, api.ErrCycle}, {"$(fro)", macros, api.ErrCycle}, {"$(loop:a=b)", macros, api.ErrCycle},
		{"$($(loop))", macros, api.ErrCycle}, {"$(a)$(loop)", macros, api.ErrCycle},
		{"$(loop)", []api.Pair{{Name: "loop", Value: "$(loop)"}, {Name: "loop", Value: "x"}}, 0},
		{"$(a)", []api.Pair{{Name: "a", Value: "$(b$(a))"}}, api.ErrCycle},
		{"$a", []api.Pair{{Name: "a", Value: "$b"}, {Name: "b", Value: "$a"}}, api.ErrCycle},
		{nest(40), nil, 0}, {nest(41), nil, api.ErrLong}, {strings.Repeat("$(", 41), nil, api.ErrSyntax}, {"$(m0)", chain(39), 0},
		{"$(m0)", chain(40), api.ErrLong}, {"$($(m0))", chain(38), 0}, {"$($(m0))", chain(39), api.ErrLong}, {"$(m1)", chain(40), 0},
		{"$(m0)", append(chain(40), api.Pair{Name: "m40", Value: "$(m0)"}), api.ErrLong},
		{"$(m0)", append(chain(39), api.Pair{Name: "m39", Value: "$(m0)"}), api.ErrLong},
		{"$(m0)", append(chain(38), api.Pair{Name: "m38", Value: "$(m0)"}), api.ErrCycle},
		{strings.Repeat("$(hundred)", 99) + "$e", big, 0}, {strings.Repeat("$(hundred)", 99) + "$e$$$e", big, api.ErrLong},
		{strings.Repeat("$(hundred)", 99) + "$e$$", big, 0}, {strings.Repeat("$(hundred)", 99) + "$e$(", big, api.ErrSyntax},
		{strings.Repeat("$(hundred)", 99) + "$e$(loop)", big, api.ErrLong}, {strings.Repeat("$(hundred)", 99) + "$(loop)", big, api.ErrLong},
		{strings.Repeat("$(hundred)", 98) + "$(loop)", big, api.ErrCycle},
	} {
		got, err := Expand(x.s, x.l, wide)
		if err != x.want || err != api.OK && got != "" {
			t.Errorf("P1903: Expand(%.60q): error %d, not %d", x.s, err, x.want)
		}
	}
}

func TestKept(t *testing.T) {
	l := []api.Pair{{Name: "a", Value: "x y"}, {Name: "b", Value: "$(a)"}}
	for range 2 {
		if got, err := Expand("$(b:x=z)$(a)", l, nil); got != "z yx y" || err != api.OK || l[0].Value != "x y" {
			t.Errorf("P1904: %q, error %d", got, err)
		}
	}
}
