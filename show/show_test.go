package show

import (
	"math/rand"
	"reflect"
	"strings"
	"testing"

	"quartermaster/api"
	"quartermaster/lex"
	"quartermaster/parse"
)

// back checks that the script that is shown for s has the same commands.
func back(t *testing.T, s string) {
	t.Helper()
	l, err := parse.Script(s)
	if err != api.OK {
		return
	}
	shown := Script(l)
	again, err := parse.Script(shown)
	if len(shown) <= api.MaxScript && (err != api.OK || !Same(l, again)) {
		t.Fatalf("P1001: %q is shown as %q: error %d", s, shown, err)
	}
	if Script(again) != shown && len(shown) <= api.MaxScript {
		t.Fatalf("P1001: %q is shown as %q, and this as %q", s, shown, Script(again))
	}
	if !Same(again, l) && len(shown) <= api.MaxScript || !Same(l, l) {
		t.Fatalf("P1001: Same of %q", s)
	}
}

func backWord(t *testing.T, s string) {
	t.Helper()
	w, err := lex.Word(s)
	if err != api.OK {
		return
	}
	shown := Word(w)
	again, err := lex.Word(shown)
	if err != api.OK || !sameWord(w, again) {
		t.Fatalf("P1001: the word %q is shown as %q: error %d", s, shown, err)
	}
	if Word(again) != shown {
		t.Fatalf("P1001: the word %q is shown as %q, and this as %q", s, shown, Word(again))
	}
}

func sameWord(a, b []api.Part) bool {
	if len(a) != len(b) {
		return false
	}
	for i, x := range a {
		y := b[i]
		if x.Kind != y.Kind || x.Text != y.Text || x.Name != y.Name || x.Op != y.Op || x.Quoted != y.Quoted || !sameWord(x.Word, y.Word) {
			return false
		}
	}
	return true
}

func TestScript(t *testing.T) {
	for _, s := range []string{
		"", "a", "a b 'c d' \"e$f\" \\g", "a && b || c && ! d", "! a | b | c", "a; b\nc", "x=1 y='2 3' z= a", "x=1 if", ">f if", ">f x=1 then",
		"2>f >>g <h 2>>i a", "{ a; b; } >f 2>g", "(a; b) <f", "((a))", "{ (a) }",
		"if a; then b; fi", "if a; b; then c; elif d; then e; elif f; then g; else h; i; fi >x", "while a; do b; c; done <f",
		"until ! a; do b; done", "for x in a 'b c' $d; do e; done >f", "for x do a; done", "for x in; do a; done", "for in in in; do a; done",
		"case a in esac", "case a in b);; (esac|c) d; e;; *) esac >f", "case '' in '') ;; ''#a|''%b) c;; esac", "f() { a; } >b", "f() (a) ; f",
		"f() case x in y) z; esac", "a | { b; } | (c)", "a ''#b", "''#a", "a >''#b", "x=#a ''#b", "case ''#a in (''#b) c; esac",
		"for x in ''#a; do b; done",
		"$", "a $ b", "$%", "$\\\na", "$''a", "$\\\n{a}", "$$a", "\"$\"a", "$'a'", "a$", "echo a$ | b", "a\\\nb", "'a\nb'", "'\\'", `\'`, `"'"`,
		`a'b'"c"d`, "''", "a '' b", "x=''", "2 >f", "'2'>f", "2\\\n>f", "a 2", "x=1 2",
		"${a}", "${#a}", "${#}", "${##}", "${###}", "${##''#}", "${a#''#}", `${a#\#}`, "${a%''%b}", "${a##''#}", "${a%%%}", "${#-x}",
		"${a:-b c;d|e#f}", "${a-'}'}", `${a-\}}`, `${a="b"c$d}`, "${a?}", "${a:?''}", "${1}2", "$12", "${12}", "${@}$*$#$?", "${#@}", "${a-$}",
		"${a-$''b}", "${a-${b-${c}}}", "${a-\n}",
		`"${a}"`, `"${a-b'c}"`, `"${a-\}\"\'\$\\}"`, "\"${a-`}\"", "\"${a-\\`}\"", `"${a#\#}"`, `"${a%\%}"`, `"${a#\\#}"`, "\"${a-b\nc}\"",
		`"${a-${b-$c}$((d))$(e)}"`, `"${a- b;c}"`, `"${a-$}"`, "\"${a-$\\\nb}\"", `"a$b$c"d`, `"$a""$b"`, `"$a"'b'$c`, "\"\\\n\"", `"x$((1))y"`, `"#"`,
		`"a${b##x}"`, "\"${a-\\\\\n}\"",
		`"${x:-\}"`, `"${x:-\}}"`, `"${x:-\a}"`, `"${x:-\'b}"`, `"${x#'}"`, "\"${x#\\\n#}\"", "\"${x%\\\n%y}\"", "\"${x##\\\n#}\"", "\"${x-\\\n#}\"",
		`"${x#\#}"`, `"${x%\\%}"`, `"${x:-\\\}"`, `"${x-\"\$\\}"`, `"${x-${y#\}\}"`, `"${x-$y\}"`, `${x-"${y-\}"\}}`, "\"${#%\\\n%}\"",
		"a\"${x#\\\n#}\" #b", "case \"${x#\\\n#}\" in \"${x%\\}\") a;; esac",
		"$((1 + 2))", "$(((1)))", "$(a; b)", "$()", "$(a ')' \")\")", "$( (a))", "$(\\\n(a))", "\"$(a \"b\")\"",
	} {
		if _, err := parse.Script(s); err != api.OK && s != "\"${a-`}\"" {
			t.Errorf("%q is no script", s)
		}
		back(t, s)
		backWord(t, s)
	}
	if s := Script(nil); strings.Trim(s, " \n\t") != "" {
		t.Errorf("P1001: no commands are shown as %q", s)
	}
	for _, s := range []string{"a b;c|", "#a", "''#a", "%", "a\nb", "a}", "}", "2>f", "&", "\\\n", "'a' b"} {
		backWord(t, s)
	}
}

func TestDeep(t *testing.T) {
	back(t, strings.Repeat("(", 39)+"a"+strings.Repeat(")", 39))
	back(t, strings.Repeat("a&&", 2000)+"a")
	back(t, "a "+strings.Repeat("${a-", 40)+strings.Repeat("}", 40))
	back(t, "a \""+strings.Repeat("${a-", 40)+strings.Repeat("}", 40)+"\"")
	back(t, "a "+strings.Repeat("$(a ", 39)+strings.Repeat(")", 39))
	// What is too long for a script is shown all the same.
	l, _ := parse.Script(strings.Repeat("a&&", 5400) + "a")
	if s := Script(l); strings.Count(s, "a") != 5401 {
		t.Errorf("P1001: %d bytes", len(s))
	}
}

func TestDrawn(t *testing.T) {
	r := rand.New(rand.NewSource(10))
	alphabet := "aaab22$$$${{}}()(\"\"'\\\\\n #;|>-:`%=!&<"
	for range 300000 {
		b := make([]byte, r.Intn(16))
		for i := range b {
			b[i] = alphabet[r.Intn(len(alphabet))]
		}
		back(t, string(b))
		backWord(t, string(b))
		backWord(t, `"${a#`+string(b)+`}"`)
	}
	pieces := []string{"a", "x=1", "x=''", "''#b", "if a;then", "elif", "else", "fi", "while a;do", "done", "for x in", "do", "case a in", "b)",
		"esac", "{", "}", "!", ";", "\n", "&&", "||", "|", "(", ")", ";;", ">f", "2>>'g h'", "$(b)", "f()", `"${a-'b}"`, "$", "2"}
	for range 200000 {
		var l []string
		for range r.Intn(11) {
			l = append(l, pieces[r.Intn(len(pieces))])
		}
		back(t, strings.Join(l, " "))
	}
}

func TestSame(t *testing.T) {
	scripts := []string{"", "a", "b", "a b", "'a'", "x=a", "x=b", "y=a", "x=a y=a", "a >f", "a >g", "a >>f", "a >f >g", "! a", "a | b", "! a | b",
		"a && b", "a || b", "a; b", "a; b; c", "{ a; }", "(a)", "f() { a; }", "g() { a; }", "f() (a)", "if a; then b; fi", "if a; then b; else c; fi",
		"while a; do b; done", "until a; do b; done", "for x in a; do b; done", "for y in a; do b; done", "for x do b; done", "case a in esac",
		"case a in b) ;; esac", "case a in b) c;; esac", "case a in b|c) c;; esac", "case a in c) c;; esac", "case b in b) c;; esac", "$a", `"$a"`,
		"${a-}", "${a-b}", "${a-c}", "${a:-b}", "${b-b}", "$((a))", "$(a)", "$(b)", "{ a; } >f", "''", "a ''"}
	for i, x := range scripts {
		for j, y := range scripts {
			a, err := parse.Script(x)
			b, err2 := parse.Script(y)
			if err != api.OK || err2 != api.OK || Same(a, b) != (i == j) {
				t.Errorf("P1001: Same of %q and %q", x, y)
			}
			if (Script(a) == Script(b)) != (i == j) {
				t.Errorf("P1001: Script of %q and %q", x, y)
			}
		}
	}
	a := []api.Node{{Kind: api.CFor, Words: [][]api.Part{},
		Kids: []api.Node{{Kind: api.CCase, Arms: []api.Arm{{Pats: [][]api.Part{nil}, Body: []api.Node{}}}}}}}
	b := []api.Node{{Kind: api.CFor, Assigns: []api.Assign{}, Redirs: []api.Redir{},
		Kids: []api.Node{{Kind: api.CCase, Arms: []api.Arm{{Pats: [][]api.Part{{}}}}}}}}
	if !Same(a, b) || Script(a) != Script(b) || !Same(nil, []api.Node{}) || Same(nil, []api.Node{{}}) || Same([]api.Node{{}}, []api.Node{{}, {}}) {
		t.Error("P1001: nil and empty lists")
	}
	b[0].Kids[0].Arms[0].Pats[0] = []api.Part{{}}
	if Same(a, b) {
		t.Error("P1001: a part more")
	}
}

func TestCircles(t *testing.T) {
	ring := func(n int) []api.Node {
		l := make([]api.Node, n)
		w := []api.Part{{Kind: api.PVar, Name: "a", Op: "-"}, {Kind: api.PVar, Name: "b", Op: "-"}}
		w[0].Word, w[1].Word = w, w
		for i := range l {
			l[i] = api.Node{Kind: api.CGroup, Kids: l, Words: [][]api.Part{w}, Arms: []api.Arm{{Body: l}}}
		}
		return l
	}
	for _, kind := range []int{0, api.CSimple, api.CPipe, api.CAnd, api.CSeq, api.CIf, api.CWhile, api.CFor, api.CCase, api.CFunc, api.CGroup, 99} {
		l := ring(2)
		l[0].Kind = kind
		Script(l)
	}
	a, b := ring(2), ring(2)
	Word(a[0].Words[0])
	if !Same(a, b) {
		t.Error("P1001: circles")
	}
	b[1].Not = true
	if Same(a, b) || Same(a, ring(3)) {
		t.Error("P1001: circles with a difference")
	}
	deep := []api.Node{{Kind: api.CSimple}}
	for range 300000 {
		deep = []api.Node{{Kind: api.CGroup, Kids: deep}}
	}
	Script(deep)
	if !Same(deep, deep) || Same(deep, deep[0].Kids) {
		t.Error("P1001: deep commands")
	}
}

func TestKept(t *testing.T) {
	l, _ := parse.Script("x=${a-b} c >d; case e in f) g; esac")
	before, _ := parse.Script("x=${a-b} c >d; case e in f) g; esac")
	Script(l)
	Same(l, before)
	if !reflect.DeepEqual(l, before) {
		t.Error("P1002: the commands were changed")
	}
}
