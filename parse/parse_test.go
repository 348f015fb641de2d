package parse

import (
	"fmt"
	"math/rand"
	"reflect"
	"strings"
	"testing"

	"quartermaster/api"
	"quartermaster/lex"
)

func word(w []api.Part) string {
	s := ""
	for _, x := range w {
		switch x.Kind {
		case api.PText:
			s += x.Text
		case api.PQuote:
			s += "'" + x.Text + "'"
		case api.PVar:
			s += "$" + x.Name + x.Op
			if x.Op != "" {
				s += "{" + word(x.Word) + "}"
			}
			if x.Quoted {
				s += `"`
			}
		case api.PCalc:
			s += "#(" + x.Text + ")"
		case api.PSub:
			s += "$(" + x.Text + ")"
		}
	}
	return s
}

func words(l [][]api.Part) string {
	s := ""
	for _, w := range l {
		s += " " + word(w)
	}
	return s
}

// told writes a command down.
func told(n api.Node) string {
	s := []string{"?", "cmd", "pipe", "and", "or", "seq", "if", "while", "until", "for", "case", "func", "group", "shell"}[n.Kind]
	if n.Not {
		s += " !"
	}
	if n.Name != "" {
		s += " " + n.Name + ":"
	}
	for _, a := range n.Assigns {
		s += " " + a.Name + "=" + word(a.Word)
	}
	s += words(n.Words)
	for _, k := range n.Kids {
		s += " " + told(k)
	}
	for _, a := range n.Arms {
		s += " [" + strings.TrimSpace(words(a.Pats)) + ")"
		for _, b := range a.Body {
			s += " " + told(b)
		}
		s += "]"
	}
	for _, r := range n.Redirs {
		s += " " + r.Op + word(r.Word)
	}
	return "(" + s + ")"
}

func check(t *testing.T, s, want string) {
	t.Helper()
	l, err := Script(s)
	got := ""
	if err != api.OK {
		got = fmt.Sprintf("!%d", err)
		if l != nil {
			t.Errorf("P901: %q: commands beside an error", s)
		}
	} else if len(l) > 1 {
		t.Errorf("P901: %q: %d nodes", s, len(l))
	} else if len(l) == 1 {
		got = told(l[0])
	}
	if got != want {
		t.Errorf("P901: Script(%q): %s, not %s", s, got, want)
	}
}

func TestLists(t *testing.T) {
	for s, want := range map[string]string{
		"": "", "\n\n": "", " # a\n": "", "a": "(cmd a)", "a;": "(cmd a)", "a\n\n": "(cmd a)", "\n\na": "(cmd a)", "a;\n\n": "(cmd a)",
		"a; b": "(seq (cmd a) (cmd b))", "a\nb": "(seq (cmd a) (cmd b))", "a;\n\nb\n\n\nc;": "(seq (cmd a) (cmd b) (cmd c))", ";": "!2",
		"a;;b": "!2", "a; ;b": "!2", "a\n;b": "!2", "\n;": "!2", "a;\n;": "!2", ";a": "!2",
		"a && b; c": "(seq (and (cmd a) (cmd b)) (cmd c))", "a && b || c && d": "(and (or (and (cmd a) (cmd b)) (cmd c)) (cmd d))",
		"a &&\n\nb ||\nc": "(or (and (cmd a) (cmd b)) (cmd c))", "a\n&& b": "!2", "a &&": "!2", "&& a": "!2", "a && && b": "!2", "a && ;": "!2",
		"a ||\n": "!2",
		"a | b":  "(pipe (cmd a) (cmd b))", "a |\n\nb | c": "(pipe (cmd a) (cmd b) (cmd c))", "! a": "(pipe ! (cmd a))",
		"! a | b": "(pipe ! (cmd a) (cmd b))", "! a && ! b": "(and (pipe ! (cmd a)) (pipe ! (cmd b)))", "! ! a": "!2", "!": "!2", "! \n a": "!2",
		"a | ! b": "!2", "a |": "!2", "| a": "!2", "a | | b": "!2", "a ! b": "(cmd a ! b)", "a; ! b": "(seq (cmd a) (pipe ! (cmd b)))",
		"'!' a": "(cmd '!' a)", "!a": "(cmd !a)", "! { a; }": "(pipe ! (group (cmd a)))", "! x=1": "(pipe ! (cmd x=1))",
		"a &": "!2", "(a) (b)": "!2", "(a) b": "!2", "{ a; } { b; }": "!2", "a (": "!2", "a )": "!2", ")": "!2", ";;": "!2", "a ;;": "!2",
	} {
		check(t, s, want)
	}
}

func TestSimple(t *testing.T) {
	long := strings.Repeat("n", api.MaxName)
	for s, want := range map[string]string{
		"a b 'c d' $e": "(cmd a b 'c d' $e)", "x=1": "(cmd x=1)", "x=1 y=2 a z=3": "(cmd x=1 y=2 a z=3)", "x= a": "(cmd x= a)",
		"x=$y'z' a": "(cmd x=$y'z' a)", "x=''": "(cmd x=)", "x='' a": "(cmd x= a)", "_1=a=b": "(cmd _1=a=b)", "1x=a": "(cmd 1x=a)",
		"'x'=a": "(cmd 'x'=a)", "x'='a": "(cmd x'='a)", "$x=a": "(cmd $x=a)", "x-=a": "(cmd x-=a)", "=a": "(cmd =a)", "x+=a": "(cmd x+=a)",
		"x\\\n=a": "(cmd x=a)", "''x=1": "(cmd x=1)", "x=${y-a b}": "(cmd x=$y-{a b})", "x=#a": "(cmd x=#a)",
		long + "=1": "(cmd " + long + "=1)", long + "n=1": "(cmd " + long + "n=1)", long + "n=1 x=2": "(cmd " + long + "n=1 x=2)",
		">f": "(cmd >f)", "<f >g a 2>>h b >>i": "(cmd a b <f >g 2>>h >>i)", ">f x=1 y": "(cmd x=1 y >f)", "x=1 >f y=2": "(cmd x=1 y=2 >f)",
		"a 2>'x y'$z": "(cmd a 2>'x y'$z)", ">": "!2", "a >": "!2", "> >a": "!2", "a > ;": "!2", "a >\nb": "!2", "a > b c": "(cmd a c >b)",
		">if a": "(cmd a >if)", ">f if": "(cmd if >f)", "x=1 if": "(cmd x=1 if)", "a>b<c": "(cmd a >b <c)",
		"a if then fi { } ! in": "(cmd a if then fi { } ! in)", "'if' a": "(cmd 'if' a)", "i\\f": "(cmd i'f')", "if=1": "(cmd if=1)",
		"ifx": "(cmd ifx)", "{a": "(cmd {a)", "}a": "(cmd }a)", "''if": "!2",
		"then": "!2", "fi": "!2", "do": "!2", "done": "!2", "in": "!2", "esac": "!2", "}": "!2", "else": "!2", "elif": "!2", "{": "!2",
		"a; then": "!2", "a | fi": "!2", "a && in": "!2",
	} {
		check(t, s, want)
	}
	l, _ := Script("x=")
	if len(l[0].Assigns[0].Word) != 0 || len(l[0].Words) != 0 {
		t.Error("P901: an empty assignment")
	}
}

func TestCompound(t *testing.T) {
	for s, want := range map[string]string{
		"{ a; }": "(group (cmd a))", "{ a\n}": "(group (cmd a))", "{\n\na;b;\n}": "(group (seq (cmd a) (cmd b)))", "{ a }": "!2", "{ }": "!2",
		"{ ; }": "!2", "{ a; b": "!2", "{ (a) }": "(group (shell (cmd a)))", "{ a; };": "(group (cmd a))", "{ a; } b": "!2",
		"{ a; } >f 2>g": "(group (cmd a) >f 2>g)", "{ a; } >f b": "!2", "{ a; } >f; b": "(seq (group (cmd a) >f) (cmd b))", "{ a; }}": "!2",
		"{ a; } | b": "(pipe (group (cmd a)) (cmd b))",
		"(a)":        "(shell (cmd a))", "(a;b)": "(shell (seq (cmd a) (cmd b)))", "(\na\n)": "(shell (cmd a))", "()": "!2", "(a": "!2", "(;)": "!2",
		"((a))": "(shell (shell (cmd a)))", "(a)>f": "(shell (cmd a) >f)", "(a) && (b)": "(and (shell (cmd a)) (shell (cmd b)))", "(a))": "!2",
		"( { a; } )":       "(shell (group (cmd a)))",
		"if a; then b; fi": "(if (cmd a) (cmd b))", "if a\nthen\nb\nfi": "(if (cmd a) (cmd b))",
		"if a; then b; else c; fi":                                 "(if (cmd a) (cmd b) (cmd c))",
		"if a; then b; elif c; then d; elif e; then f; else g; fi": "(if (cmd a) (cmd b) (cmd c) (cmd d) (cmd e) (cmd f) (cmd g))",
		"if a; b; then c; d; fi":                                   "(if (seq (cmd a) (cmd b)) (seq (cmd c) (cmd d)))",
		"if a; then b; fi >f":                                      "(if (cmd a) (cmd b) >f)",
		"if (a) then (b) fi":                                       "(if (shell (cmd a)) (shell (cmd b)))",
		"if\na\nthen b; else\nc\nfi":                               "(if (cmd a) (cmd b) (cmd c))",
		"if ! a; then b; fi":                                       "(if (pipe ! (cmd a)) (cmd b))",
		"if a then b; fi":                                          "!2", "if a; then; fi": "!2", "if a; then b": "!2", "if a; fi": "!2",
		"if; then b; fi":         "!2",
		"if a; then b; else; fi": "!2", "if a; then b; else c; elif d; then e; fi": "!2", "if a; then b; elif c; fi": "!2",
		"if a; then b; else c; else d; fi": "!2", "if a; then b; done": "!2", "if": "!2", "if a; else b; fi": "!2",
		"while a; do b; done": "(while (cmd a) (cmd b))", "until a\ndo\nb\ndone >f": "(until (cmd a) (cmd b) >f)",
		"while a; b; do c; d; done": "(while (seq (cmd a) (cmd b)) (seq (cmd c) (cmd d)))", "while a; do done": "!2", "while do b; done": "!2",
		"while a; done": "!2", "while a; do b; od": "!2", "while a; then b; done": "!2", "until a; do b": "!2",
		"f() { a; }": "(func f: (group (cmd a)))", "f ( ) { a; }": "(func f: (group (cmd a)))", "f()\n\n(a)": "(func f: (shell (cmd a)))",
		"f() if a; then b; fi": "(func f: (if (cmd a) (cmd b)))", "f() { a; } >x": "(func f: (group (cmd a) >x))", "f() a": "!2",
		"f() g() { a; }": "!2", "f() >x": "!2", "f()": "!2", "f(": "!2", "f(a) { b; }": "!2", "f() ;": "!2", "if() { a; }": "!2", "'f'() { a; }": "!2",
		"1f() { a; }": "!2", "f-g() { a; }": "!2", "a f() { b; }": "!2", "x=1 f() { a; }": "!2", ">x f() { a; }": "!2", "$f() { a; }": "!2",
		"f() { a; } b": "!2", "f() { a; } | b": "(pipe (func f: (group (cmd a))) (cmd b))", "f() ! { a; }": "!2",
		"f() { a; }; f": "(seq (func f: (group (cmd a))) (cmd f))", "f() case x in esac": "(func f: (case x))",
		"f() {\na\n}": "(func f: (group (cmd a)))", "f\n() { a; }": "!2", "f(\n) { a; }": "!2",
		strings.Repeat("n", 60) + "() (a)": "(func " + strings.Repeat("n", 60) + ": (shell (cmd a)))", strings.Repeat("n", 61) + "() (a)": "!2",
	} {
		check(t, s, want)
	}
}

func TestForAndCase(t *testing.T) {
	for s, want := range map[string]string{
		"for x in a b; do c; done": "(for x: a b (cmd c))", "for x in a 'b c' $d\ndo c; done": "(for x: a 'b c' $d (cmd c))",
		"for x in; do c; done": "(for x: (cmd c))", "for x in\ndo c; done": "(for x: (cmd c))",
		"for x\n\nin a;\n\ndo c; done >f": "(for x: a (cmd c) >f)", "for x in do done; do c; done": "(for x: do done (cmd c))",
		"for in in in; do c; done": "(for in: in (cmd c))", "for if in a; do c; done": "(for if: a (cmd c))",
		"for x do c; done": `(for x: $@" (cmd c))`, "for x; do c; done": `(for x: $@" (cmd c))`, "for x\ndo c; done": `(for x: $@" (cmd c))`,
		"for x\n\n;\n\ndo c; done": `(for x: $@" (cmd c))`, "for do do c; done": `(for do: $@" (cmd c))`,
		"for x in a do c; done": "!2", "for x; in a; do c; done": "!2", "for x;; do c; done": "!2", "for x in a;; do c; done": "!2",
		"for x in a; ; do c; done": "!2", "for x in a\n; do c; done": "!2", "for 1 in a; do c; done": "!2", "for 'x' in a; do c; done": "!2",
		"for $x in a; do c; done": "!2", "for in a; do c; done": "!2", "for": "!2", "for x": "!2", "for x in a": "!2", "for x in a; do done": "!2",
		"for x in a; c; done": "!2", "for x in a | b; do c; done": "!2", "for x 'in' a; do c; done": "!2", "for\nx in a; do c; done": "!2",
		"for x in a >f; do c; done": "!2",
		"case a in esac":            "(case a)", "case a\n\nin\n\nesac": "(case a)", "case a in b) c;; esac": "(case a [b) (cmd c)])",
		"case a in b) c; esac": "(case a [b) (cmd c)])", "case a in b) c\nesac": "(case a [b) (cmd c)])", "case a in b);; esac": "(case a [b)])",
		"case a in b) esac": "(case a [b)])", "case a in b)\n\nesac": "(case a [b)])", "case a in b)\n;;\n\nesac": "(case a [b)])",
		"case a in (b) c;; (d|e) f; g;; *) h;; esac": "(case a [b) (cmd c)] [d e) (seq (cmd f) (cmd g))] [*) (cmd h)])",
		"case a in b|c) d;;\n\n\ne) f\n;; esac >x":   "(case a [b c) (cmd d)] [e) (cmd f)] >x)", "case a in (esac) b;; esac": "(case a [esac) (cmd b)])",
		"case a in b|esac) c;; esac": "(case a [b esac) (cmd c)])", "case if in then) b;; esac": "(case if [then) (cmd b)])",
		"case in in in) a;; esac": "(case in [in) (cmd a)])", "case 'a b'$c in 'd'*) e;; esac": "(case 'a b'$c ['d'*) (cmd e)])",
		"case a in b) (c) esac": "(case a [b) (shell (cmd c))])", "case a in b) c;; esac; d": "(seq (case a [b) (cmd c)]) (cmd d))",
		"case a in 'esac') b;; esac": "(case a ['esac') (cmd b)])", "case a in b) c && d;; esac": "(case a [b) (and (cmd c) (cmd d))])",
		"case a in esac) b;; esac": "!2", "case in b) c;; esac": "!2", "case a b) c;; esac": "!2", "case a in b c) d;; esac": "!2",
		"case a in b|) c;; esac": "!2", "case a in |b) c;; esac": "!2", "case a in ) c;; esac": "!2", "case a in b) c": "!2", "case a in b) c;;": "!2",
		"case a in b) c esac": "!2", "case a in b) ; esac": "!2", "case a in b) c;;; esac": "!2", "case a in b) c; ;; ;; esac": "!2",
		"case a in ;; esac": "!2", "case a 'in' b) c;; esac": "!2", "case": "!2", "case a": "!2", "case a in": "!2", "case a in b": "!2",
		"case a; in b) c;; esac": "!2", "case a in b\n) c;; esac": "!2", "case a in ((b)) c;; esac": "!2", "case a in b|\nc) d;; esac": "!2",
		"case\na in esac": "!2", "case a in () b;; esac": "!2",
	} {
		check(t, s, want)
	}
}

func TestWordsWithScripts(t *testing.T) {
	for s, want := range map[string]string{
		"a $(b; c)": "(cmd a $(b; c))", "a $()": "(cmd a $())", "a $(b;;)": "!2", "a $(if)": "!2", "a ${x-$(b;;)}": "!2", "a ${x-${y-$(fi)}}": "!2",
		"x=$(;)": "!2", "a >$(;)": "!2", "case $(;) in esac": "!2", "case a in $(;)) b;; esac": "!2", "for x in $(;); do a; done": "!2",
		"a \"$(;)\"": "!2", "a $(b $(c $(;)))": "!2", "a $(`)": "!2", "a $(b &)": "!2", "a $((;))": "(cmd a #(;))", "a '$(;)'": "(cmd a '$(;)')",
		"{ a; } >$(b)": "(group (cmd a) >$(b))",
	} {
		check(t, s, want)
	}
}

func nest(n int, open, middle, shut string) string {
	return strings.Repeat(open, n) + middle + strings.Repeat(shut, n)
}

func TestDepth(t *testing.T) {
	for i, x := range []struct {
		s    string
		want api.Errno
	}{
		{nest(39, "(", "a", ")"), api.OK}, {nest(40, "(", "a", ")"), api.ErrLong}, {nest(39, "{ ", "a;", "};"), api.OK},
		{nest(40, "{ ", "a;", "};"), api.ErrLong},
		{nest(39, "if a; then ", "b", "; fi"), api.OK}, {nest(40, "if a; then ", "b", "; fi"), api.ErrLong},
		{nest(40, "if ", "b", "; then c; fi"), api.ErrLong}, {nest(39, "while a; do ", "b", "; done"), api.OK},
		{nest(40, "for x do ", "b", "; done"), api.ErrLong}, {nest(40, "case a in b) ", "c", ";; esac"), api.ErrLong},
		{nest(39, "case a in b) ", "c", ";; esac"), api.OK},
		{nest(19, "f() { ", "a", "; }"), api.OK}, {nest(19, "f() { ", "{ a; }", "; }"), api.OK},
		{nest(19, "f() { ", "{ { a; }; }", "; }"), api.ErrLong}, {nest(20, "f() { ", "a", "; }"), api.ErrLong},
		{nest(40, "(", "", ""), api.ErrSyntax}, {nest(41, "(", "", ""), api.ErrLong}, {nest(40, "(", ";", ""), api.ErrSyntax},
		{nest(40, "(", ")", ""), api.ErrSyntax}, {nest(40, "(", "! a", ""), api.ErrLong}, {nest(40, "(", "! !", ""), api.ErrSyntax},
		{nest(40, "(", "then", ""), api.ErrSyntax}, {nest(40, "(", ">", ""), api.ErrLong}, {nest(40, "(", "$(;)", ""), api.ErrLong},
		{nest(40, "(", "&&", ""), api.ErrSyntax}, {") " + nest(41, "(", "a", ")"), api.ErrSyntax}, {"a `" + nest(41, "(", "a", ")"), api.ErrSyntax},
		{"a " + nest(39, "$(a ", "", ")"), api.OK}, {"a " + nest(40, "$(a ", "", ")"), api.ErrLong}, {nest(38, "(", "a $(b)", ")"), api.OK},
		{nest(39, "(", "a $(b)", ")"), api.ErrLong}, {nest(38, "(", "a $(b $(c))", ")"), api.ErrLong}, {nest(38, "(", "a $(b $())", ")"), api.OK},
		{nest(39, "(", "a $()", ")"), api.OK}, {nest(38, "(", "(a) >$(b)", ")"), api.OK}, {nest(39, "(", "a >$(b)", ")"), api.ErrLong},
		{nest(38, "(", "case a in $(b)) c; esac", ")"), api.OK}, {nest(39, "(", "case $(b) in esac", ")"), api.ErrLong},
		{nest(39, "(", "for x in $(b)", ""), api.ErrLong}, {nest(38, "(", "a ${x-${y-$(b)}}", ")"), api.OK},
		{nest(39, "(", "a ${x-${y-$(b)}}", ")"), api.ErrLong},
		{nest(39, "(", "a $((b) )", ")"), api.ErrSyntax}, {nest(38, "(", "a $( (b))", ")"), api.ErrLong},
		{nest(39, "(", "a $( (b)); ;", ")"), api.ErrLong}, {nest(39, "(", "a ; ; $( (b))", ")"), api.ErrSyntax},
		{strings.Repeat("a && ", 3000) + "a", api.OK}, {strings.Repeat("a;", 8000), api.OK}, {strings.Repeat("a|", 8000) + "a", api.OK},
		{strings.Repeat("a", api.MaxScript+1), api.ErrLong}, {"a\x00", api.ErrSyntax},
	} {
		if _, err := Script(x.s); err != x.want {
			t.Errorf("P901: %d: Script(%.60q): error %d, not %d", i, x.s, err, x.want)
		}
	}
}

func TestTree(t *testing.T) {
	op := func(s string) api.Token { return api.Token{Kind: api.TOp, Text: s} }
	w := func(s string) api.Token {
		return api.Token{Kind: api.TWord, Word: []api.Part{{Kind: api.PText, Text: s}}}
	}
	long := api.Token{Kind: api.TWord, Word: []api.Part{{Kind: api.PSub, Text: strings.Repeat(" ", api.MaxScript+1)}}}
	circle := []api.Part{{Kind: api.PVar, Name: "a", Op: "-"}}
	circle[0].Word = circle
	for i, x := range []struct {
		l    []api.Token
		want api.Errno
	}{
		{nil, 0}, {[]api.Token{w("a")}, 0}, {[]api.Token{{}}, api.ErrSyntax}, {[]api.Token{w("a"), {Kind: 3, Text: ";"}}, api.ErrSyntax},
		{[]api.Token{w("a"), {Kind: api.TWord}}, api.ErrSyntax}, {[]api.Token{{Kind: api.TWord, Text: "a"}}, api.ErrSyntax},
		{[]api.Token{w("a"), op("&")}, api.ErrSyntax}, {[]api.Token{op("")}, api.ErrSyntax},
		{[]api.Token{w("a"), op(">"), {Kind: api.TWord}}, api.ErrSyntax}, {[]api.Token{op("\n"), op("\n")}, 0},
		{[]api.Token{w("for"), w("x"), w("in"), {Kind: api.TWord}, op(";")}, api.ErrSyntax},
		{[]api.Token{w("case"), {Kind: api.TWord}, w("in"), w("esac")}, api.ErrSyntax},
		{[]api.Token{long}, api.ErrLong}, {[]api.Token{w(""), w("a b")}, 0}, {[]api.Token{{Kind: api.TWord, Word: circle}}, api.ErrLong},
		{[]api.Token{op("> "), w("a")}, api.ErrSyntax},
		{[]api.Token{{Kind: api.TWord, Word: []api.Part{{Kind: 9, Word: []api.Part{{Kind: api.PSub, Text: ";"}}}}}}, api.ErrSyntax},
	} {
		if n, err := Tree(x.l); err != x.want || err != api.OK && n != nil {
			t.Errorf("P901: %d: error %d, not %d", i, err, x.want)
		}
	}
}

func TestKept(t *testing.T) {
	s := "x=1$y a ${b-c} >d; case e in f|g) h;; esac; for i in ${j-k}; do l; done"
	tokens, _ := lex.Tokens(s)
	before, _ := lex.Tokens(s)
	l, err := Tree(tokens)
	want := told(l[0])
	if err != api.OK || !reflect.DeepEqual(tokens, before) {
		t.Error("P902: Tree changed its tokens")
	}
	for i := range tokens {
		for j := range tokens[i].Word {
			for k := range tokens[i].Word[j].Word {
				tokens[i].Word[j].Word[k].Text = "other"
			}
			tokens[i].Word[j] = api.Part{}
		}
	}
	if told(l[0]) != want {
		t.Errorf("P902: Tree keeps its tokens: %s", told(l[0]))
	}
}

func TestDrawn(t *testing.T) {
	r := rand.New(rand.NewSource(9))
	pieces := []string{"a", "x=1", "if", "then", "fi", "elif", "else", "while", "do", "done", "for", "in", "case", "esac", "{", "}", "!", ";",
		"\n", "&&", "||", "|", "(", ")", ";;", ">f", "$(b)", "f()"}
	good := 0
	for range 300000 {
		var l []string
		for range r.Intn(9) {
			l = append(l, pieces[r.Intn(len(pieces))])
		}
		s := strings.Join(l, " ")
		n, err := Script(s)
		if err == api.OK && len(n) == 1 {
			good++
		}
		if err != api.OK && (err != api.ErrSyntax || n != nil) {
			t.Fatalf("P901: Script(%q): error %d", s, err)
		}
	}
	if good < 1000 {
		t.Errorf("P901: %d scripts", good)
	}
}
