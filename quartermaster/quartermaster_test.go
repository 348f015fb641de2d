package quartermaster

import (
	"math/rand"
	"strings"
	"testing"

	"quartermaster/api"
	"quartermaster/gen"
)

// check plays lines, which are separated by ; here, and holds the lines of
// the output against what is wanted.
func check(t *testing.T, promise, script, want string) {
	t.Helper()
	text := strings.ReplaceAll(script, ";", "\n")
	if want != "" {
		want = strings.ReplaceAll(want, ";", "\n") + "\n"
	}
	for _, text := range []string{text, text + "\n"} {
		if got := Play(text); got != want {
			t.Errorf("%s: %q: %q, not %q", promise, text, got, want)
		}
	}
}

func TestExample(t *testing.T) {
	script := `|a: b
|	cat b >a
file makefile
make
|B
file b
make
make
make a
make -q b
make -n q
show a
make -x
`
	want := `ok
!make: b: error 19
status 2
ok
|cat b >a
status 0
|make: a is up to date.
status 0
|make: a is up to date.
status 0
status 0
!make: q: error 19
status 2
|B
!make: -x: error 1
status 2
`
	if got := Play(script); got != want {
		t.Errorf("P2801: the example: %s", got)
	}
}

func TestLimits(t *testing.T) {
	for i, x := range []struct{ text, want string }{
		{"", ""}, {"\n", ""}, {"\n\n", ""}, {strings.Repeat("\n", api.MaxLines), ""}, {strings.Repeat("\n", api.MaxLines+1), "error 3\n"},
		{strings.Repeat("\n", api.MaxLines-1) + "tree", ""}, {strings.Repeat("\n", api.MaxLines) + "#", "error 3\n"},
		{strings.Repeat("\n", api.MaxLines-1) + "x\n", "error 2\n"},
		{"#" + strings.Repeat("a", api.MaxText-1), ""}, {"#" + strings.Repeat("a", api.MaxText), "error 3\n"},
		{"fuel 1\n#" + strings.Repeat("a", api.MaxText), "error 3\n"},
	} {
		if got := Play(x.text); got != x.want {
			t.Errorf("P2801: %d: %.40q", i, got)
		}
	}
}

func TestSyntax(t *testing.T) {
	for _, line := range []string{
		"x", " tree", "tree ", "new  1 2", "new 1  2", " ", "  ", "tree x", "new", "new 1", "new 1 2 3", "new a 1", "new 1 a", "new 01 1",
		"new 1 00", "new -1 1", "new +1 1", "new 1234567 1", "new 1. 1", "fuel", "fuel 1 2", "fuel x", "fuel 0000001", "fuel 1000000", "file",
		"file a b", "dir", "dir a b", "rm", "rm -r a", "touch", "touch a b", "show", "show a b", "sh x", "make a b c", "make ", "make a ", "parse x",
		"Tree", "tree\t", "\ttree", "show\ta", "!x", "ok", "status 0", "new 1 2 ", " new 1 2",
	} {
		check(t, "P2802", "dir a;|t;"+line+";tree;file b;show b", "ok;error 2;/a dir 1;ok;|t")
	}
	check(t, "P2802", "fuel 0;fuel 999999;new 0 0;new 999999 999999;fuel 1;dir 0", "ok;ok;ok;ok;ok;ok")
	check(t, "P2802", "#tree;;# x;|;#;file a;show a", "ok;|")
	check(t, "P2802", "| a  b ;||;|#x;|\ty;file a;show a", "ok;| a  b ;||;|#x;|\ty")
	check(t, "P2802", "dir \x01\xff;dir a\tb;dir \x00;tree", "ok;ok;error 1;/\x01\xff dir 1;/a\tb dir 2")
}

func TestFiles(t *testing.T) {
	for _, x := range [][2]string{
		{"tree", ""}, {"|abc;file /a;dir d;|;file d/b;touch a;tree", "ok;ok;ok;ok;/a file 4 4;/d dir 2;/d/b file 1 3"},
		{"file a;show a;tree", "ok;/a file 0 1"}, {"show a", "error 6"},
		{"dir a;show a;file a;dir a;dir b/c;rm a;rm a;rm /", "ok;error 10;error 10;error 12;error 6;ok;error 6;error 1"},
		{"|x;file none/a;file b;show b", "error 6;ok"}, {"touch a;touch a;touch /;touch a/b;tree", "ok;ok;ok;error 11;/a file 0 2"},
		{"|x;file a;|y;|z;file a;show a", "ok;ok;|y;|z"},
		{"new 1 3;|ab;file a;|abc;file a;dir b;show a;new 1 3;tree", "ok;ok;error 13;error 13;|ab;ok"}, {"|x;new 2 2;file a;show a", "ok;ok;|x"},
		{"dir a;rm a;rm a", "ok;ok;error 6"}, {"dir a;dir a/b;rm a;rm a/b;rm a;tree", "ok;ok;error 14;ok;ok"},
		{"dir " + strings.Repeat("n", 61), "error 3"}, {"dir ..", "error 12"}, {"dir 1 2", "error 2"},
	} {
		check(t, "P2803", x[0], x[1])
	}
	var many, oks strings.Builder
	for i := range 201 {
		many.WriteString("touch f" + strings.Repeat("x", i%50) + strings.Repeat("y", i/50) + ";")
	}
	for range 200 {
		oks.WriteString("ok;")
	}
	check(t, "P2803", many.String()+"dir d", oks.String()+"error 13;error 13")
	check(t, "P2803", "|"+strings.Repeat("x", 19999)+";file a;|;file b", "ok;error 13")
}

func TestRuns(t *testing.T) {
	for _, x := range [][2]string{
		{"sh", "status 0"}, {"|echo a,printf b;sh", "|a,printf b;status 0"},
		{"|echo a;|printf 'b\\nc';|none;|false;sh", "|a;|b;|c;!sh: none: error 6;status 1"}, {"|printf '\\n\\n';sh", "|;|;status 0"},
		{"|exit 7;sh;sh", "status 7;status 0"}, {"|if;sh", "!sh: : error 2;status 2"}, {"|echo $0 $#;|pwd;|cat;sh", "|sh 0;|/;status 0"},
		{"|x=1;sh;|echo -$x;sh", "status 0;|-;status 0"}, {"|echo x >f;sh;show f;tree", "status 0;|x;/f file 2 2"},
		{"|printf 'none 2>&1';sh", "|none 2>&1;status 0"},
		{"|while true,do :,done;sh", "!sh: : error 2;status 2"}, {"|while true;|do :;|done;sh;sh", "error 17;status 0"},
		{"fuel 3;|echo a;|echo b;sh;fuel 2;|echo a;|echo b;sh", "ok;|a;|b;status 0;ok;error 17"}, {"fuel 0;sh;|:;sh", "ok;status 0;error 17"},
		{"fuel 1;|:;sh;|:;sh", "ok;status 0;status 0"}, {"|: " + strings.Repeat("a ", 500) + ";sh", "error 3"},
		{"|x=a;|while test ${#x} -lt 3333;|do x=a$x;|done;sh", "error 17"}, {"|x=a;|while test ${#x} -lt 1666;|do x=a$x;|done;sh", "status 0"},
		{"make", "!make: makefile: error 6;status 2"},
		{"|a:;|\t@echo $(X);file makefile;make;make X=1;make X=1 a;make a b;make -n X=2",
			"ok;|;status 0;|1;status 0;|1;status 0;|;!make: b: error 19;status 2;|echo 2;status 0"},
		{"|a:;file f;make -f f;make -f", "ok;status 0;!make: -f: error 1;status 2"},
		{"|a:;|\twhile :,do :,done;file makefile;make", "ok;|while :,do :,done;!sh: : error 2;!make: a: error 20;status 2"},
		{"fuel 1;|a:;|\t@:;|\t@:;file makefile;make", "ok;ok;error 17"}, {"|t;make;file a;show a", "!make: makefile: error 6;status 2;ok;|t"},
		{"parse", "ok"}, {"|a && b;parse", "ok"}, {"|if;parse;parse", "error 2;ok"}, {"|" + strings.Repeat("(", 41) + ";parse", "error 3"},
		{"|echo a >f;parse;tree", "ok"}, {"|t;tree;show x;rm x;touch y;dir z;new 9 9;fuel 9;file a;show a", "error 6;error 6;ok;ok;ok;ok;ok;|t"},
	} {
		check(t, "P2803", x[0], x[1])
	}
}

func TestAgain(t *testing.T) {
	r := rand.New(rand.NewSource(28))
	words := []string{"tree", "sh", "make", "parse", "show a", "file a", "file makefile", "dir d", "rm a", "touch a", "make -k", "make t1 -n",
		"new 20 900", "fuel 50", "fuel 5000", "", "#", "bad", "make t0 -f", "file s0", "file s1", "touch s2"}
	for i := range 2000 {
		var l []string
		for range r.Intn(25) {
			switch r.Intn(4) {
			case 0:
				l = append(l, strings.TrimSuffix("|"+strings.ReplaceAll(gen.Makefile(r.Intn(99), r.Intn(6)), "\n", "\n|"), "|"), "file makefile")
			case 1:
				l = append(l, strings.TrimSuffix("|"+strings.ReplaceAll(gen.Script(r.Intn(99), r.Intn(9)), "\n", "\n|"), "|"), "sh")
			default:
				l = append(l, words[r.Intn(len(words))])
			}
		}
		text := strings.Join(l, "\n") + "\n"
		whole := Play(text)
		if again := Play(text); again != whole {
			t.Fatalf("P2804: %d: two outputs of %q", i, text)
		}
		// What comes later changes nothing.
		cut := strings.Index(text[len(text)/2:], "\n") + len(text)/2 + 1
		if part := Play(text[:cut]); !strings.HasPrefix(whole, part) {
			t.Fatalf("P2804: %d: %q, and a part of it: %q", i, whole, part)
		}
	}
}
