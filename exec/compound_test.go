package exec

import (
	"testing"

	"quartermaster/api"
)

func TestPipes(t *testing.T) {
	checks(t, "P1601", [][2]string{
		{"echo a | cat", "0[a.]"}, {"echo a | cat - b | cat -", "0[a.B]"}, {"cat | cat", "0[IN]"}, {"false | true", "0[]"}, {"true | false", "1[]"},
		{"! true | false", "0[]"}, {"! false | true", "1[]"}, {"! true", "1[]"}, {"! false", "0[]"}, {"! none", "0[]!sh: none: error 6."},
		{"! x=1; echo $x$?", "0[11.]"},
		{"x=1; x=2 | x=3; echo $x", "0[1.]"}, {"cd / | cd /g; pwd", "0[/d.]"}, {"echo a | { cat; cat; }", "0[a.a.]"}, {"echo a | (cat)", "0[a.]"},
		{"echo a | true", "0[]"}, {"exit 3 | echo a; echo $?", "0[a.0.]"}, {"echo a | exit 3; echo $?", "0[3.]"}, {"false; echo $? | cat", "0[1.]"},
		{"false; true | echo $?", "0[1.]"}, {"none | cat", "0[]!sh: none: error 6."}, {"echo a | while true; do cat; break; done", "0[a.]"},
		{"for i in 1 2; do break | cat; echo $i; done", "0[1.2.]"}, {"echo a >/new | cat; cat /new", "0[a.]"}, {"echo a | cat </f", "0[F.]"},
		{"echo a | fn() { cat; }; fn", "127[]!sh: fn: error 6."}, {"set -e | false; echo a", "0[a.]"},
		{"! exit 3", "3[]"}, {"fn() { ! return 3; echo b; }; fn; echo $?", "0[3.]"}, {"for i in 1 2; do ! break; done; echo $?$i", "0[01.]"},
		{"for i in 1 2; do ! continue; echo a; done; echo $?", "0[0.]"}, {"! { exit 0; }", "0[]"}, {"! (exit 0)", "1[]"}, {"! (exit 4)", "0[]"},
		{"! exit 3 | exit 4", "0[]"}, {"fn() { return 2 | return 3; echo a$?; }; fn", "0[a3.]"},
	})
}

func TestListsAndGroups(t *testing.T) {
	checks(t, "P1601", [][2]string{
		{"true && echo a", "0[a.]"}, {"false && echo a", "1[]"}, {"true || echo a", "0[]"}, {"false || echo a", "0[a.]"},
		{"false && echo a || echo b", "0[b.]"}, {"true || echo a && echo b", "0[b.]"}, {"false && echo a; echo $?", "0[1.]"},
		{"none || echo a", "0[a.]!sh: none: error 6."}, {"true && false || true && echo c", "0[c.]"}, {"false || false && true || echo d", "0[d.]"},
		{"for i in 1 2; do true && break && echo a; done; echo $i", "0[1.]"}, {"for i in 1 2; do break && echo a || echo b; done; echo $i", "0[1.]"},
		{"false; true", "0[]"}, {"echo a; echo b", "0[a.b.]"}, {"{ echo a; x=1; }; echo $x", "0[a.1.]"}, {"{ false; }", "1[]"},
		{"(echo a; x=1; cd /; fn() { :; }); echo ${x-none}; pwd; fn", "127[a.none./d.]!sh: fn: error 6."}, {"(exit 3); echo $?", "0[3.]"},
		{"(exit 3; echo a) || echo $?", "0[3.]"}, {"x=1; (x=2; echo $x); echo $x", "0[2.1.]"}, {"(cat)", "0[IN]"},
		{"(set -e; false; echo a); echo b", "0[b.]"}, {"shift; (shift; echo $#); echo $#", "0[0.1.]"}, {"false; (echo $?)", "0[1.]"},
		{"(false); echo $?", "0[1.]"}, {"(none)", "127[]!sh: none: error 6."}, {"(touch n); echo *", "0[a b n.]"},
		{"fn() { echo a; }; (fn; fn() { echo b; }; fn); fn", "0[a.b.a.]"}, {"(set -e); false; echo a", "0[a.]"},
	})
}

func TestChoices(t *testing.T) {
	checks(t, "P1601", [][2]string{
		{"if true; then echo a; fi", "0[a.]"}, {"if false; then echo a; fi", "0[]"}, {"false; if false; then :; fi; echo $?", "0[0.]"},
		{"if false; then echo a; else echo b; fi", "0[b.]"}, {"if false; then echo a; elif true; then echo b; else echo c; fi", "0[b.]"},
		{"if false; then echo a; elif false; then echo b; else echo c; fi", "0[c.]"}, {"if true; then false; fi", "1[]"},
		{"if false; then :; else false; fi", "1[]"}, {"if none; then :; fi", "0[]!sh: none: error 6."},
		{"if echo a; false; then :; else echo $?; fi", "0[a.1.]"}, {"if x=1; then echo $x; fi", "0[1.]"},
		{"for i in 1 2; do if break; then echo a; fi; done; echo $i", "0[1.]"}, {"fn() { if return 3; then echo a; fi; }; fn", "3[]"},
		{"if exit 4; then echo a; fi", "4[]"}, {"if cat; then cat; fi", "0[ININ]"},
		{"case a in a) echo 1;; a) echo 2;; esac", "0[1.]"}, {"case b in a) echo 1;; esac; echo $?", "0[0.]"},
		{"false; case b in a) echo 1;; esac", "0[]"}, {"false; case a in a) ;; esac", "0[]"}, {"case abc in a*) echo 1;; esac", "0[1.]"},
		{"case 'a*' in 'a*') echo 1;; esac", "0[1.]"}, {"case abc in 'a*') echo 1;; *) echo 2;; esac", "0[2.]"},
		{"case b in a|b|c) echo 1;; esac", "0[1.]"}, {"x='a*'; case abc in $x) echo 1;; esac; case abc in \"$x\") echo 2;; esac", "0[1.]"},
		{"case '' in '') echo 1;; esac", "0[1.]"}, {"case $none in $none) echo 1;; esac", "0[1.]"}, {"case 'a b' in a\\ b) echo 1;; esac", "0[1.]"},
		{"x='a b'; case $x in 'a b') echo 1;; esac", "0[1.]"}, {"case a in [!a]) echo 1;; ?) false;; esac", "1[]"},
		{"case a in ${x=a}) echo $x;; esac", "0[a.]"}, {"case b in $(touch n; echo b)) ;; $(touch m)) ;; esac; echo *", "0[a b n.]"},
		{"case * in '*') echo 1;; esac", "0[1.]"}, {"for i in 1 2; do case $i in 1) continue;; 2) echo b;; esac; echo c; done", "0[b.c.]"},
		{"case a in a) esac; echo $?", "0[0.]"}, {"false; case a in a) echo $?;; esac", "0[1.]"}, {"case a in esac", "0[]"},
	})
}

func TestLoops(t *testing.T) {
	checks(t, "P1601", [][2]string{
		{"for i in a b; do echo $i; done; echo $i", "0[a.b.b.]"}, {"for i; do echo $i; done", "0[p q r.]"},
		{"for i in; do echo $i; done; echo $?", "0[0.]"}, {"false; for i in $none; do :; done", "0[]"}, {"for i in *; do echo $i; done", "0[a.b.]"},
		{"x='1 2'; for i in $x \"$x\"; do echo $i; done", "0[1.2.1 2.]"}, {"for i in 1 2; do false; done", "1[]"},
		{"for i in 1 2; do test $i = 1; done", "1[]"}, {"for i in 1 2; do shift; done; echo $#", "0[0.]"},
		{"x=1; for x in $x 2; do echo $x; x=5; done; echo $x", "0[1.2.5.]"}, {"for i in 1 2; do cat; done", "0[ININ]"},
		{"for i in 1 2; do for j in a b; do echo $i$j; done; done", "0[1a.1b.2a.2b.]"},
		{"while false; do echo a; done; echo $?", "0[0.]"}, {"false; while false; do :; done", "0[]"}, {"until true; do echo a; done", "0[]"},
		{"x=; while test \"$x\" != aaa; do x=a$x; done; echo $x", "0[aaa.]"}, {"x=; until test \"$x\" = aaa; do x=a$x; done; echo $x", "0[aaa.]"},
		{"x=; while test \"$x\" != aa; do x=a$x; false; done", "1[]"}, {"x=; while test \"$x\" != aa; do x=a$x; (exit 7); done; echo $?", "0[7.]"},
		{"until none && false; do echo a; break; done", "0[a.]!sh: none: error 6."}, {"while test -e a; do rm a; done; echo *", "0[b.]"},
		{"while cat; do false; break; done; echo $?", "0[IN0.]"},
		{"for i in 1 2 3; do test $i = 2 && break; echo $i; done; echo $?", "0[1.0.]"},
		{"for i in 1 2 3; do test $i = 2 && continue; echo $i; done", "0[1.3.]"},
		{"for i in 1 2; do for j in a b; do break 2; done; echo x; done; echo $i$j", "0[1a.]"},
		{"for i in 1 2; do for j in a b; do continue 2; done; echo x; done; echo $i$j", "0[2a.]"},
		{"for i in 1 2; do for j in a b; do break; done; echo $i$j; done", "0[1a.2a.]"},
		{"for i in 1 2; do for j in a b; do break 9; done; echo x; done; echo $i$j", "0[1a.]"},
		{"for i in 1 2; do for j in a b; do continue 9; done; echo x; done; echo $i$j", "0[2a.]"},
		{"for i in 1 2; do for j in a b; do for k in x y; do continue 2; done; echo n; done; echo $i$j$k; done", "0[1bx.2bx.]"},
		{"for i in 1 2; do while true; do until false; do break 2; done; done; echo $i; done", "0[1.2.]"},
		{"for i in 1 2; do false; break; done; echo $?", "0[0.]"}, {"for i in 1 2; do { if true; then break; fi; }; done; echo $i", "0[1.]"},
		{"x=; while x=a$x; test $x != aaaa; do case $x in aa) continue;; aaa) break;; esac; echo $x; done; echo $x", "0[a.aaa.]"},
		{"while break; do echo a; done; echo $?", "0[0.]"}, {"for i in 1 2; do while break 2; do echo a; done; done; echo $i", "0[1.]"},
		{"x=; while x=a$x; test $x = aa && continue; test $x != aaa; do (exit 5); done; echo $?$x", "0[5aaa.]"},
		{"x=; while x=a$x; test $x = aa && break; true; do (exit 5); done; echo $?$x", "0[5aa.]"},
		{"for i in 1 2; do until continue 2; do :; done; echo a; done; echo $i", "0[2.]"},
		{"break; echo a$?", "0[a0.]"}, {"continue 3; echo a$?", "0[a0.]"}, {"false; break; echo $?", "0[0.]"},
		{"fn() { break; echo in; }; for i in 1 2; do fn; echo $i; done", "0[in.1.in.2.]"},
		{"for i in 1 2; do (break; echo in); echo $i; done", "0[in.1.in.2.]"},
		{"for i in 1 2; do (for j in a b; do break 2; done; echo $j); echo $i; done", "0[a.1.a.2.]"},
		{"fn() { for j in a b; do continue 2; echo in; done; }; for i in 1 2; do fn; echo $i; done", "0[1.2.]"},
		{"fn() { for i in 1 2; do return 3; done; echo a; }; fn; echo $?$i", "0[31.]"}, {"fn() { while return 4; do :; done; echo a; }; fn", "4[]"},
		{"for i in 1 2; do exit 3; done; echo a", "3[]"},
	})
}

func TestFunctions(t *testing.T) {
	checks(t, "P1601", [][2]string{
		{"fn() { echo $# $1 $0; }; fn a b; echo $# $1", "0[2 a sh.2 p.]"}, {"false; fn() { :; }; echo $?", "0[0.]"}, {"fn() { false; }; fn", "1[]"},
		{"fn() { cat; }; fn; echo x | fn", "0[INx.]"}, {"fn() { shift; echo $#; }; fn a b; echo $#", "0[1.2.]"},
		{"fn() { return; echo a; }; false; fn", "1[]"}, {"fn() { false; return; }; fn", "1[]"}, {"fn() { return 7; }; fn; echo $?", "0[7.]"},
		{"fn() { return 300; }; fn", "44[]"}, {"fn() { exit 8; }; fn; echo a", "8[]"}, {"fn() (exit 8); fn; echo $?", "0[8.]"},
		{"fn() { (return 5; echo a); echo b$?; }; fn", "0[b5.]"}, {"fn() { x=$(return 5; echo a); echo b$?$x; }; fn", "0[b5.]"},
		{"fn() { gn; echo fn; }; gn() { return 2; }; fn", "0[fn.]"}, {"fn() { fn() { echo 2; }; echo 1; }; fn; fn", "0[1.2.]"},
		{"fn() { x=1; }; fn; echo $x", "0[1.]"}, {"fn() if true; then echo a; fi; fn", "0[a.]"},
		{"fn() { test $# = 0 && return; echo $1; shift; fn $@; }; fn a b c; echo $#", "0[a.b.c.2.]"}, {"cd() { echo no; }; cd /; pwd", "0[no./d.]"},
		{"cat() { echo no; }; cat", "0[no.]"}, {"fn() { set -e; }; fn; false; echo a", "1[]"}, {"fn() { cd /; }; fn; pwd", "0[/.]"},
		{"fn() { for i; do echo $i; done; }; fn 'a b' c", "0[a b c.]"},
	})
	s := New(nil, "/", nil, nil, 100)
	if got := told(run(t, s, "fn() { echo $0,$#,$1; }; fn a; echo $#")); got != "0[,1,a.0.]" {
		t.Errorf("P1601: without an argument 0: %s", got)
	}
}

func TestStopping(t *testing.T) {
	checks(t, "P1601", [][2]string{
		{"set -e; false; echo a", "1[]"}, {"set -e; none; echo a", "127[]!sh: none: error 6."}, {"set -e; set +e; false; echo a", "0[a.]"},
		{"set -e; true; echo a", "0[a.]"}, {"set -e; (false; echo b); echo a", "1[]"}, {"set -e; (exit 3); echo a", "3[]"},
		{"set -e; true | false; echo a", "1[]"}, {"set -e; false | true; echo a", "0[a.]"}, {"set -e; { false; echo b; } | cat; echo a", "0[a.]"},
		{"set -e; ! true; echo a$?", "0[a1.]"}, {"set -e; ! false; echo a", "0[a.]"}, {"set -e; ! true | false; echo a", "0[a.]"},
		{"set -e; ! true | true; echo a$?", "0[a1.]"}, {"set -e; ! { false; echo b; }; echo a", "0[b.a.]"},
		{"set -e; ! (false; echo b); echo a", "0[b.a.]"}, {"set -e; ! false | { false; echo b; }; echo a", "0[a.]"},
		{"set -e; false && echo b; echo a", "0[a.]"}, {"set -e; true && false; echo a", "1[]"}, {"set -e; false || false; echo a", "1[]"},
		{"set -e; false || true; echo a", "0[a.]"}, {"set -e; { false; echo b; } && echo c; echo a", "0[b.c.a.]"},
		{"set -e; true && { false; echo b; }; echo a", "1[]"}, {"set -e; true && false || echo c; echo a", "0[c.a.]"},
		{"set -e; false && true || false; echo a", "1[]"}, {"set -e; (false; echo b) || echo c; echo a", "0[b.a.]"},
		{"set -e; { false && true; }; echo a", "0[a.]"}, {"set -e; (false && true); echo a", "1[]"},
		{"set -e; if false; echo b; then echo c; fi; echo a", "0[b.c.a.]"}, {"set -e; if false; then :; elif false; then :; fi; echo a", "0[a.]"},
		{"set -e; if true; then false; echo b; fi; echo a", "1[]"}, {"set -e; if false; then :; else false; echo b; fi; echo a", "1[]"},
		{"set -e; while false; do :; done; echo a", "0[a.]"}, {"set -e; until false; true; do :; done; echo a", "0[a.]"},
		{"set -e; while true; do false; echo b; done; echo a", "1[]"}, {"set -e; for i in 1; do false; echo b; done; echo a", "1[]"},
		{"set -e; case a in a) false; echo b;; esac; echo a", "1[]"}, {"set -e; { false; echo b; }; echo a", "1[]"},
		{"set -e; fn() { false; echo b; }; fn; echo a", "1[]"}, {"set -e; fn() { false; echo b; }; if fn; then echo c; fi; echo a", "0[b.c.a.]"},
		{"set -e; fn() { false; echo b; }; fn || echo c; echo a", "0[b.a.]"}, {"set -e; fn() { false; echo b; }; ! fn; echo a", "0[b.a.]"},
		{"set -e; fn() { return 3; }; fn; echo a", "3[]"}, {"set -e; fn() { if false; then :; fi; false; }; fn && echo b; echo a", "0[a.]"},
		{"set -e; x=$(false); echo a", "1[]"}, {"set -e; echo $(false; echo b)c; echo a", "0[c.a.]"},
		{"set -e; if x=$(false; echo b); then echo $x; fi; echo a", "0[b.a.]"}, {"set -e; cat <none; echo a", "1[]!sh: none: error 6."},
		{"set -e; { echo b; } <none; echo a", "0[a.]!sh: none: error 6."}, {"set -e; (echo b) <none; echo a", "1[]!sh: none: error 6."},
		{"set -e; x=1 >none/x; echo a", "1[]!sh: none/x: error 6."}, {"set -e; fn() { false; } ; echo a", "0[a.]"}, {"set -e; false; exit 0", "1[]"},
		{"set -e; (set +e; false; echo b); false; echo a", "1[b.]"}, {"set -e; cd none; echo a", "1[]!sh: none: error 6."},
		{"set -e; shift 9; echo a", "1[]"},
	})
}

func TestOddCommands(t *testing.T) {
	word := func(s string) [][]api.Part { return [][]api.Part{{{Kind: api.PText, Text: s}}} }
	simple := func(s ...string) api.Node {
		n := api.Node{Kind: api.CSimple}
		for _, x := range s {
			n.Words = append(n.Words, []api.Part{{Kind: api.PText, Text: x}})
		}
		return n
	}
	fails, says := simple("false"), simple("echo", "a")
	for i, x := range []struct {
		n    api.Node
		want string
		fuel int
	}{
		{api.Node{}, "0[]", 1}, {api.Node{Kind: 99, Kids: []api.Node{says}, Words: word("a")}, "0[]", 1}, {api.Node{Kind: -1}, "0[]", 1},
		{api.Node{Kind: api.CSimple}, "0[]", 1}, {api.Node{Kind: api.CSimple, Words: [][]api.Part{nil}}, "0[]", 1},
		{api.Node{Kind: api.CSimple, Not: true, Name: "x", Words: fails.Words}, "1[]", 1},
		{api.Node{Kind: api.CPipe}, "0[]", 1}, {api.Node{Kind: api.CPipe, Kids: []api.Node{says}}, "0[]", 1},
		{api.Node{Kind: api.CPipe, Not: true}, "0[]", 1}, {api.Node{Kind: api.CAnd}, "0[]", 1},
		{api.Node{Kind: api.CAnd, Kids: []api.Node{fails}}, "0[]", 1}, {api.Node{Kind: api.COr, Kids: []api.Node{fails, says, says}}, "0[]", 1},
		{api.Node{Kind: api.CSeq}, "0[]", 1}, {api.Node{Kind: api.CIf}, "0[]", 1}, {api.Node{Kind: api.CIf, Kids: []api.Node{says}}, "0[]", 1},
		{api.Node{Kind: api.CWhile}, "0[]", 1}, {api.Node{Kind: api.CUntil, Kids: []api.Node{says, says, says}}, "0[]", 1},
		{api.Node{Kind: api.CWhile, Kids: []api.Node{fails}}, "0[]", 3}, {api.Node{Kind: api.CGroup}, "0[]", 1},
		{api.Node{Kind: api.CShell}, "0[]", 1}, {api.Node{Kind: api.CGroup, Kids: []api.Node{says, says}}, "0[]", 1},
		{api.Node{Kind: api.CFor, Name: "x"}, "0[]", 1}, {api.Node{Kind: api.CFor, Name: "x", Words: word("a")}, "0[]", 2},
		{api.Node{Kind: api.CCase}, "0[]", 1},
		{api.Node{Kind: api.CCase, Arms: []api.Arm{{}, {Pats: [][]api.Part{nil}, Body: []api.Node{says}}}}, "0[a.]", 2},
		{api.Node{Kind: api.CFunc, Name: "x"}, "0[]", 1},
		{api.Node{Kind: api.CSimple, Words: says.Words, Redirs: []api.Redir{{Op: "<<", Word: word("f")[0]}}}, "0[]", 1},
		{api.Node{Kind: api.CSimple, Words: says.Words, Redirs: []api.Redir{{Op: ">"}}}, "1[]!sh: : error 1.", 1},
		{api.Node{Kind: api.CFor, Words: word("a"), Kids: []api.Node{says}}, "1[]!sh: : error 1.", 2},
		{api.Node{Kind: api.CSimple, Assigns: []api.Assign{{Name: "a b"}}}, "1[]!sh: a b: error 1.", 1},
		{api.Node{Kind: api.CSimple, Words: [][]api.Part{{{Kind: api.PSub, Text: ";"}}}}, "1[]!sh: : error 2.", 1},
		{api.Node{Kind: api.CSimple, Words: [][]api.Part{{{Kind: 9}}}}, "1[]!sh: : error 2.", 1},
		{api.Node{Kind: api.CSeq, Kids: []api.Node{says, fails}, Redirs: []api.Redir{{Op: ">", Word: word("/new")[0]}}}, "1[]", 3},
		{api.Node{Kind: api.CAnd,
			Kids: []api.Node{{Kind: api.CAnd, Kids: []api.Node{says, says}, Redirs: []api.Redir{{Op: ">", Word: word("/new")[0]}}}, says}},
			"0[a.]", 5},
	} {
		s := shell(lay(t))
		run(t, s, "false")
		r := s.Run([]api.Node{x.n}, nil)
		if got := told(r); got != x.want || 99999-r.Fuel != x.fuel {
			t.Errorf("P1601: %d: %s, fuel %d, not %s", i, got, 99999-r.Fuel, x.want)
		}
	}
	s := shell(lay(t))
	if got := told(s.Run([]api.Node{{Kind: api.CFunc, Name: "x"}, simple("x"), {Kind: api.CWhile, Kids: []api.Node{says}}}, nil)); got != "error 17" && got != "error 3" {
		t.Errorf("P1601: a loop without a body: %s", got)
	}
}

func TestCircles(t *testing.T) {
	ring := func(kind, n int) []api.Node {
		l := make([]api.Node, n)
		for i := range l {
			l[i] = api.Node{Kind: kind, Kids: l, Not: true}
		}
		return l
	}
	for kind := range 15 {
		for n := range 4 {
			New(nil, "/", nil, nil, 50000).Run(ring(kind, n), nil)
			if n == 1 {
				New(nil, "/", nil, nil, 50000).Run([]api.Node{{Kind: api.CFunc, Name: "f", Kids: ring(kind, 1)}}, nil)
			}
		}
	}
	w := make([]api.Part, 2)
	w[0] = api.Part{Kind: api.PVar, Name: "a", Op: "-", Word: w}
	w[1] = w[0]
	if got := told(New(nil, "/", nil, nil, 50).Run([]api.Node{{Kind: api.CSimple, Words: [][]api.Part{w}}}, nil)); got != "1[]!sh: : error 3." {
		t.Errorf("P1602: a word in itself: %s", got)
	}
}
