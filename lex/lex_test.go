package lex

import (
	"fmt"
	"math/rand"
	"reflect"
	"strings"
	"testing"

	"quartermaster/api"
)

// told writes parts down: t<text> q<text> v<name op word> c<text> s<text>,
// with a " behind the letter where the part is quoted.
func told(w []api.Part) string {
	var l []string
	for _, x := range w {
		s := string("?tqvcs"[x.Kind])
		if x.Quoted {
			s += `"`
		}
		s += "<" + x.Text
		if x.Kind == api.PVar {
			s += x.Name
			if x.Op != "" {
				s += " " + x.Op
			}
			if x.Op != "" && x.Op != "L" {
				s += " " + told(x.Word)
			}
		}
		l = append(l, s+">")
	}
	return strings.Join(l, " ")
}

func tokens(l []api.Token) string {
	var out []string
	for _, x := range l {
		if x.Kind == api.TOp {
			out = append(out, x.Text)
		} else {
			out = append(out, "["+told(x.Word)+"]")
		}
	}
	return strings.Join(out, " ")
}

func TestTokens(t *testing.T) {
	for s, want := range map[string]string{
		"": "", " \t": "", "a": "[t<a>]", `a "b c"`: "[t<a>] [q<b c>]", "a\tb": "[t<a>] [t<b>]",
		"a;b": "[t<a>] ; [t<b>]", "a;;b": "[t<a>] ;; [t<b>]", "a;;;b": "[t<a>] ;; ; [t<b>]", "a&&b||c|d": "[t<a>] && [t<b>] || [t<c>] | [t<d>]",
		"|||": "|| |", "(a)": "( [t<a>] )",
		"a\n\nb": "[t<a>] \n \n [t<b>]", "<a>b>>c": "< [t<a>] > [t<b>] >> [t<c>]", "a>>>b": "[t<a>] >> > [t<b>]", "<<": "< <",
		"2>a": "2> [t<a>]", "2>>a": "2>> [t<a>]", "a 2>b": "[t<a>] 2> [t<b>]", "a2>b": "[t<a2>] > [t<b>]", "12>b": "[t<12>] > [t<b>]",
		"2 >b": "[t<2>] > [t<b>]", ";2>x": "; 2> [t<x>]", "'2'>x": "[q<2>] > [t<x>]", "2>>>x": "2>> > [t<x>]", "22>x": "[t<22>] > [t<x>]",
		"2\\\n>x": "[t<2>] > [t<x>]",
		"#a":      "", "a #b\nc": "[t<a>] \n [t<c>]", "a#b": "[t<a#b>]", "a;#b": "[t<a>] ;", "(#a\n)": "( \n )", "''#a": "[t<#a>]",
		"# 'a\nb": "\n [t<b>]", "#a\\\nb": "\n [t<b>]", "\\\n#a": "",
		"\\\na": "[t<a>]", "a\\\nb": "[t<ab>]", "a \\\n b": "[t<a>] [t<b>]", "\\\n": "", "a\\\n": "[t<a>]", "a&&\\\nb": "[t<a>] && [t<b>]", "&\\\n&": "!2",
		"&": "!2", "a & b": "!2", "a&": "!2", "a&&&b": "!2", ">&": "!2", "a\x00": "!2", "#\x00": "!2",
		"if {}!": "[t<if>] [t<{}!>]", "a=b c": "[t<a=b>] [t<c>]", "a]b[*?~": "[t<a]b[*?~>]", "\r\v": "[t<\r\v>]", "\xff": "[t<\xff>]",
		"${a b": "!2", "$(a;b) c": "[s<a;b>] [t<c>]", "a$((1 + 2))b;": "[t<a> c<1 + 2> t<b>] ;",
	} {
		l, err := Tokens(s)
		got := tokens(l)
		if err != api.OK {
			if l != nil {
				t.Errorf("P801: %q: tokens beside an error", s)
			}
			got = fmt.Sprintf("!%d", err)
		}
		if got != want {
			t.Errorf("P801: Tokens(%q): %s, not %s", s, got, want)
		}
	}
}

func TestWord(t *testing.T) {
	for s, want := range map[string]string{
		"": "", "a b;c|": "t<a b;c|>", "#a": "t<#a>", "a\nb&(<>)": "t<a\nb&(<>)>", "2>": "t<2>>", "a}b{": "t<a}b{>",
		"'a'": "q<a>", "''": "q<>", `""`: "q<>", `''""''`: "q<>", "a''": "t<a>", "a''b": "t<ab>", `'a'"b"\c`: "q<abc>", "'a'b'c'": "q<a> t<b> q<c>",
		"a'b'''c": "t<a> q<b> t<c>", `''"a"`: "q<a>", `''$a`: "v<a>", `"$a"`: `v"<a>`, "\"\\\n\"": "q<>", `'a\'b`: `q<a\> t<b>`,
		"'a\nb`\"$x'": "q<a\nb`\"$x>", `"'"`: "q<'>",
		`\a`: "q<a>", `\`: `q<\>`, `a\`: `t<a> q<\>`, "\\\n": "", "a\\\nb": "t<ab>", `\\\$`: `q<\$>`, "\\`": "q<`>", `\"a`: `q<"> t<a>`,
		`\'`: "q<'>", `\ `: "q< >",
		`"a\$b\"c\\d\ e"`: `q<a$b"c\d\ e>`, "\"\\`\"": "q<`>", "\"a\\\nb\"": "q<ab>", `"\a\'"`: `q<\a\'>`, `"a b;#|"`: "q<a b;#|>",
		"\"a\nb\"": "q<a\nb>", `"{}"`: "q<{}>",
		"`": "!2", "a`b`": "!2", "\"`\"": "!2", "'`'": "q<`>", "'a": "!2", `"a`: "!2", `"a\"`: "!2", `"$a`: "!2", `"\`: "!2", "'": "!2",
		"$": "t<$>", "$$": "t<$$>", "$$a": "t<$> v<a>", "$%": "t<$%>", "a$ b": "t<a$ b>", `"$"`: "q<$>", `"a$ "`: "q<a$ >", `$'a'`: "t<$> q<a>",
		`$"a"`: "t<$> q<a>", "$\\\na": "t<$a>", "$''a": "t<$a>", "$}": "t<$}>", "$)": "t<$)>",
		"$a": "v<a>", "$aB_9-": "v<aB_9> t<->", "$_": "v<_>", "$12": "v<1> t<2>", "$?$#$@$*": "v<?> v<#> v<@> v<*>", "$a$b": "v<a> v<b>",
		"$!": "t<$!>", "$0": "v<0>", "a$b'c'": "t<a> v<b> q<c>", "$" + strings.Repeat("n", 99): "v<" + strings.Repeat("n", 99) + ">",
		`"a$b c"`: `q<a> v"<b> q< c>`, `"$1"2`: `v"<1> t<2>`,
	} {
		checkWord(t, s, want)
	}
}

func TestBraces(t *testing.T) {
	for s, want := range map[string]string{
		"${a}": "v<a>", "${12}": "v<12>", "${?}": "v<?>", "${#}": "v<#>", "${@}${*}": "v<@> v<*>", "${00012}": "v<00012>", "${a}b": "v<a> t<b>",
		"${9a}": "!2", "${a b}": "!2", "${}": "!2", "${": "!2", "${a": "!2", "${a-": "!2", "${-a}": "!2", "${!}": "!2", "${ a}": "!2", "${$}": "!2",
		"${a:}": "!2", "${a:b}": "!2", "${a;}": "!2", "${a::-b}": "!2", "${a\\\n}": "!2", "${'a'}": "!2", "${a.}": "!2",
		"${a:-b}": "v<a :- t<b>>", "${a-b}": "v<a - t<b>>", "${a:=b}": "v<a := t<b>>", "${a=b}": "v<a = t<b>>", "${a:?b}": "v<a :? t<b>>",
		"${a?b}": "v<a ? t<b>>", "${a:+b}": "v<a :+ t<b>>", "${a+b}": "v<a + t<b>>", "${a%%b}": "v<a %% t<b>>", "${a%b}": "v<a % t<b>>",
		"${a##b}": "v<a ## t<b>>", "${a#b}": "v<a # t<b>>",
		"${a-}": "v<a - >", "${a%%%}": "v<a %% t<%>>", "${a###}": "v<a ## t<#>>", "${a:--}": "v<a :- t<->>", "${a--}": "v<a - t<->>",
		"${a-:}": "v<a - t<:>>", "${a#\\\n#}": "v<a # t<#>>", "${a#''#}": "v<a # t<#>>", `${a#\#}`: "v<a # q<#>>", "${a-''}": "v<a - q<>>",
		"${#a}": "v<a L>", "${#12}": "v<12 L>", "${#@}": "v<@ L>", "${#*}": "v<* L>", "${##}": "v<# # >", "${###}": "v<# ## >", "${#?}": "v<# ? >",
		"${#-}": "v<# - >", "${#-a}": "v<# - t<a>>", "${#:-a}": "v<# :- t<a>>", "${#%a}": "v<# % t<a>>", "${##a}": "v<# # t<a>>", "${#+}": "v<# + >",
		"${#=x}": "v<# = t<x>>", "${#:}": "!2", "${#a-b}": "!2", "${#a": "!2", "${#": "!2", "${#!}": "!2", "${#a:-b}": "!2", "${#1a}": "!2",
		"${?-x}": "v<? - t<x>>", "${??x}": "v<? ? t<x>>", "${#a}}": "v<a L> t<}>",
		"${a:-b c;d|e\nf&g<h>(i)}": "v<a :- t<b c;d|e\nf&g<h>(i)>>", "${a-#b}": "v<a - t<#b>>", "${a-'}'}": "v<a - q<}>>", `${a-\}}`: "v<a - q<}>>",
		`${a-"}"}`: "v<a - q<}>>", "${a-{b}c}": "v<a - t<{b>> t<c}>", "${a-b}}": "v<a - t<b>> t<}>", "${a-$}": "v<a - t<$>>", "${a-`}": "!2",
		"${a-'}": "!2", `${a-"}`: "!2", "${a-\\\n}": "v<a - >", "${a-\\}": "!2",
		"${a-${b-c}d}": "v<a - v<b - t<c>> t<d>>", "${a-$(b})}": "v<a - s<b}>>", "${a-$((1}))}": "v<a - c<1}>>", "${a-$b}": "v<a - v<b>>",
		`${a-"$b"c}`: `v<a - v"<b> t<c>>`, `${a:-w 'v'}`: "v<a :- t<w > q<v>>",
	} {
		checkWord(t, s, want)
	}
}

func TestQuotedBraces(t *testing.T) {
	for s, want := range map[string]string{
		`"${a}"`: `v"<a>`, `"${#a}"`: `v"<a L>`, `"${a-b c}"`: `v"<a - q<b c>>`, `"${a-'b'}"`: `v"<a - q<'b'>>`, `"${a-'}"`: `v"<a - q<'>>`,
		`"${a-"b"}"`: "!2", `"${a-\"b\"}"`: `v"<a - q<"b">>`, `"${a-\}}"`: `v"<a - q<\>> q<}>`, `"${a-\x\'}"`: `v"<a - q<\x\'>>`,
		"\"${a-b\\\nc}\"": `v"<a - q<bc>>`,
		`"${a-$}"`:        `v"<a - q<$>>`, `"${a-$b$1}"`: `v"<a - v"<b> v"<1>>`, `"${a-${b-'c'}}"`: `v"<a - v"<b - q<'c'>>>`, "\"${a-`}\"": "!2",
		"\"${a-\\`}\"": "v\"<a - q<`>>", `"${a-$(b "c")}"`: `v"<a - s"<b "c">>`, `"${a-$((1))}"`: `v"<a - c"<1>>`, `"${a-}"`: `v"<a - >`,
		`"x${a%y}z"`: `q<x> v"<a % q<y>> q<z>`, `"${a-b"`: "!2", `"${a#\#}"`: `v"<a # q<\#>>`, "\"${a-b\nc}\"": "v\"<a - q<b\nc>>",
		`${a-"${b-"c"}"}`: "!2", `${a-"${b-'c'}"'d'}`: `v<a - v"<b - q<'c'>> q<d>>`, `"${a-\\}"`: `v"<a - q<\>>`, `"${a-\$b}"`: `v"<a - q<$b>>`,
	} {
		checkWord(t, s, want)
	}
}

// Between " a \ is itself before most bytes, also in a ${ that stands there.
func TestQuotedBackslash(t *testing.T) {
	for s, want := range map[string]string{
		`"${x:-\}"`: `v"<x :- q<\>>`, `"${x:-\a}"`: `v"<x :- q<\a>>`, `"${x:-\}}"`: `v"<x :- q<\>> q<}>`, `"${x:-a\}b"`: `v"<x :- q<a\>> q<b>`,
		`"${x:-\ \;\*}"`: `v"<x :- q<\ \;\*>>`, `"${x:-\{}"`: `v"<x :- q<\{>>`, `"${x:-\'}"`: `v"<x :- q<\'>>`, `"${x%\%}"`: `v"<x % q<\%>>`,
		`"${x:-\\}"`: `v"<x :- q<\>>`, `"${x:-\\}}"`: `v"<x :- q<\>> q<}>`, `"${x:-\\\}"`: `v"<x :- q<\\>>`, `"${x:-\\a}"`: `v"<x :- q<\a>>`,
		`"${x:-\"}"`: `v"<x :- q<">>`, `"${x:-\\"}"`: "!2", "\"${x:-\\`}\"": "v\"<x :- q<`>>", "\"${x:-\\\\`}\"": "!2",
		`"${x:-\${y}"`: `v"<x :- q<${y>>`, `"${x:-\\$y}"`: `v"<x :- q<\> v"<y>>`, `"${x:-\a$y\b}"`: `v"<x :- q<\a> v"<y> q<\b>>`,
		"\"${x:-\\\n}\"": `v"<x :- >`, "\"${x#\\\n#}\"": `v"<x # q<#>>`, "\"${x:-\\\\\n}\"": "v\"<x :- q<\\\n>>",
		`"${x:-${y:-\}}"`: `v"<x :- v"<y :- q<\>>>`, `"${x:-${y:-\}}}"`: `v"<x :- v"<y :- q<\>>> q<}>`, `"${x:-$(\))\}"`: `v"<x :- s"<\)> q<\>>`,
		`${x:-"\}"}`: `v<x :- q<\}>>`, `${x:-"${y:-\}"\}}`: `v<x :- v"<y :- q<\>> q<}>>`, `${x:-${y:-\}}}`: `v<x :- v<y :- q<}>>>`,
		`"${x:-\"`: "!2", `"${x:-\`: "!2", `"${x:-\}`: "!2",
	} {
		checkWord(t, s, want)
	}
}

// What stands in a ${ between " is read as what stands between " by itself.
func TestQuotedAlike(t *testing.T) {
	pieces := []string{`\\`, `\"`, `\$`, "\\`", "\\\n", `\a`, `\'`, `\ `, `\#`, "'", "#", "%", " ", ";", "a", "$y", "${y%\\}", "$ "}
	r := rand.New(rand.NewSource(802))
	for range 50000 {
		s := ""
		for range r.Intn(7) {
			s += pieces[r.Intn(len(pieces))]
		}
		plain, err := Word(`"` + s + `"`)
		if err != api.OK {
			t.Fatalf("P802: Word of %q between quotes: error %d", s, err)
		}
		if told(plain) == "q<>" {
			plain = nil
		}
		checkWord(t, `"${x-`+s+`}"`, told([]api.Part{{Kind: api.PVar, Name: "x", Op: "-", Word: plain, Quoted: true}}))
	}
}

func TestCalcAndSub(t *testing.T) {
	for s, want := range map[string]string{
		"$((1+2))": "c<1+2>", "$(())": "c<>", "$(((1)))": "c<(1)>", "$((a)b)": "!2", "$((a) )": "!2", "$(((a)+(b)))": "c<(a)+(b)>", "$((1)": "!2",
		"$((": "!2", "$((1": "!2", "$(((1))": "!2", "$((')'))": "!2", `$((a"b))`: `c<a"b>`, "$(($a))": "c<$a>", `"$((1 2))"`: `c"<1 2>`,
		"$((a\n))": "c<a\n>", "$((a)))": "c<a> t<)>",
		"$(a)": "s<a>", "$()": "s<>", "$(a": "!2", "$(": "!2", "$(a (b) c)d": "s<a (b) c> t<d>", "$(a ')' b)": "s<a ')' b>",
		`$(a ")" b)`: `s<a ")" b>`, `$(a "\")" b)`: `s<a "\")" b>`, `$(a \) b)`: `s<a \) b>`, `$(a ')`: "!2", `$(a ")`: "!2", `$(a "\")`: "!2",
		`$(a \)`: "!2", `$(a \`: "!2", "$(a `b`)": "s<a `b`>", "$(a #)b)": "s<a #> t<b)>", "$(a $(b)$((1)))": "s<a $(b)$((1))>",
		`"$(a "b")"`: `s"<a "b">`, `$('\')`: `s<'\'>`, "$( (a))": "s< (a)>", "$(\\\n(a))": "s<\\\n(a)>", `$('"')`: `s<'"'>`, `$("'")`: `s<"'">`,
		"$(&)": "s<&>",
	} {
		checkWord(t, s, want)
	}
}

func checkWord(t *testing.T, s, want string) {
	t.Helper()
	w, err := Word(s)
	got := told(w)
	if err != api.OK {
		if w != nil {
			t.Errorf("P802: %q: parts beside an error", s)
		}
		got = fmt.Sprintf("!%d", err)
	}
	if got != want {
		t.Errorf("P802: Word(%q): %s, not %s", s, got, want)
	}
	if strings.HasPrefix(s, "#") || strings.Trim(s, "\\\n") == "" {
		return
	}
	// A word without separating bytes outside of quotes is a token too.
	l, terr := Tokens("x" + s)
	w, err = Word("x" + s)
	if len(l) == 1 && (terr != err || !reflect.DeepEqual(l[0].Word, w)) {
		t.Errorf("P801: Tokens(%q): %s", "x"+s, tokens(l))
	}
}

func TestLong(t *testing.T) {
	nest := func(n int, open, shut string) string { return strings.Repeat(open, n) + strings.Repeat(shut, n) }
	for s, want := range map[string]api.Errno{
		strings.Repeat("a", api.MaxScript): api.OK, strings.Repeat("a", api.MaxScript+1): api.ErrLong, strings.Repeat("\x00", api.MaxScript+1): api.ErrLong,
		nest(40, "${a-", "}"): api.OK, nest(41, "${a-", "}"): api.ErrLong, nest(40, `${a-"`, `"}`): api.ErrSyntax,
		strings.Repeat("${a-", 41): api.ErrLong, strings.Repeat("${a-", 41) + "`": api.ErrLong, strings.Repeat("${a-", 40) + "`${a-": api.ErrSyntax,
		strings.Repeat("${a-", 40) + "${a}" + strings.Repeat("}", 40): api.OK, strings.Repeat("${a-", 40) + "${#a}" + strings.Repeat("}", 40): api.OK,
		strings.Repeat("${a-", 40) + "${a:b}": api.ErrSyntax, strings.Repeat("${a-", 40) + "${a%}": api.ErrLong,
		`"` + nest(41, "${a-", "}") + `"`: api.ErrLong, `"` + nest(40, "${a-", "}") + `"`: api.OK, "`" + nest(41, "${a-", "}"): api.ErrSyntax,
		strings.Repeat("${a-}", 100): api.OK, strings.Repeat("$(", 8000): api.ErrSyntax, nest(2000, "$( ", ")"): api.OK,
	} {
		if _, err := Word(s); err != want {
			t.Errorf("P802: Word(%.50q): error %d, not %d", s, err, want)
		}
		if _, err := Tokens(s); err != want {
			t.Errorf("P801: Tokens(%.50q): error %d, not %d", s, err, want)
		}
	}
}

func TestDrawn(t *testing.T) {
	r := rand.New(rand.NewSource(8))
	for range 200000 {
		b := make([]byte, r.Intn(14))
		for i := range b {
			b[i] = "ab2$${}()(\"'\\\n #;|>-:`%"[r.Intn(23)]
		}
		s := string(b)
		w, err := Word(s)
		again, errAgain := Word(s)
		if err != errAgain || !reflect.DeepEqual(w, again) || err != api.OK && w != nil {
			t.Fatalf("P803: Word(%q)", s)
		}
		normal(t, s, w)
		l, _ := Tokens(s)
		for _, x := range l {
			if x.Kind == api.TWord && len(x.Word) == 0 {
				t.Fatalf("P801: Tokens(%q): a word without parts", s)
			}
		}
	}
}

// normal checks the form of parts: none is empty but a PQuote alone, and no two of a kind follow one another.
func normal(t *testing.T, s string, w []api.Part) {
	for i, x := range w {
		plain := x.Kind == api.PText || x.Kind == api.PQuote
		if plain && x.Text == "" && (len(w) > 1 || x.Kind == api.PText) || plain && i > 0 && w[i-1].Kind == x.Kind {
			t.Fatalf("P802: Word(%q): %s", s, told(w))
		}
		normal(t, s, x.Word)
	}
}

func TestApart(t *testing.T) {
	l, _ := Tokens("a${b-c}d e")
	m, _ := Tokens("a${b-c}d e")
	l[0].Word[0].Text = "x"
	l[0].Word[1].Word[0].Text = "x"
	_ = append(l[0].Word, api.Part{})
	if tokens(m) != "[t<a> v<b - t<c>> t<d>] [t<e>]" {
		t.Errorf("P803: %s", tokens(m))
	}
}
