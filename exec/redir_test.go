package exec

import (
	"testing"

	"quartermaster/vfs"
)

func TestRedirs(t *testing.T) {
	checks(t, "P1601", [][2]string{
		{"echo x >n; cat n", "0[x.]"}, {"echo x >n; echo y >n; cat n", "0[y.]"}, {"echo x >>n; echo y >>n; cat n", "0[x.y.]"}, {"cat <a", "0[A.]"},
		{"cat <a <b", "0[B]"}, {"cat <a >n; cat n", "0[A.]"}, {"echo x >n >m; cat m n", "0[x.]"}, {"echo x >m >n; cat m n", "0[x.]"},
		{"none 2>n; echo $?; cat n", "0[127.sh: none: error 6.]"}, {"none 2>n; none 2>>n; cat n", "0[sh: none: error 6.sh: none: error 6.]"},
		{"none >n; cat n", "0[]!sh: none: error 6."}, {"cat a none >n 2>m; echo $?; cat n; cat m", "0[1.A.cat: none: error 6.]"},
		{"cat a none >n 2>n; cat n", "0[cat: none: error 6.A.]"}, {"cat a none 2>>n >>n; cat n", "0[cat: none: error 6.A.]"},
		{">n; cat n; echo *", "0[a b n.]"}, {"echo a >a >>a; cat a", "0[a.]"}, {"cat <a >a; cat a", "0[A.]"}, {"cat a >a; cat a", "0[]"},
		{"cat a >>a; cat a", "0[A.A.]"},
		{"x='a b'; echo c >$x; echo *; cat 'a b'", "0[a a b b.c.]"}, {"echo c >*; ls=*; echo $ls; cat '*'", "0[* a b.c.]"},
		{"x=n; echo c >\"$x\"m; cat nm", "0[c.]"}, {"cd /g; echo x >y; cat /g/y", "0[x.]"}, {"{ cd /g; echo x; } >y; pwd; cat /d/y", "0[/g.x.]"},
		{"{ rm n; echo x; } >n; cat n", "0[x.]"}, {"{ echo x; rm n; } >n 2>m; cat n", "0[x.]"},
		{"cat <none; echo $?", "0[1.]!sh: none: error 6."}, {"cat <.; echo $?", "0[1.]!sh: .: error 10."},
		{"echo x >.; echo $?", "0[1.]!sh: .: error 10."}, {"echo x >''", "1[]!sh: : error 1."}, {"echo x >$none", "1[]!sh: : error 1."},
		{"echo x >no/n", "1[]!sh: no/n: error 6."}, {"echo x >n <none >m; echo *", "0[a b n.]!sh: none: error 6."},
		{"echo x 2>n <none; cat n", "0[]!sh: none: error 6."}, {"x=1 y=2 >no/n; echo $x$?", "0[1.]!sh: no/n: error 6."},
		{"x=1 echo a >no/n; echo $x$?", "0[1.]!sh: no/n: error 6."}, {"exit 3 <none; echo a", "0[a.]!sh: none: error 6."},
		{"break <none", "1[]!sh: none: error 6."}, {"{ cat <none; } 2>n; cat n", "0[sh: none: error 6.]"},
		{"{ echo a; echo b; } >n; cat n", "0[a.b.]"}, {"{ echo a; none; } 2>n; cat n", "0[a.sh: none: error 6.]"},
		{"{ echo a; { echo b; } >m; echo c; } >n; cat n m", "0[a.c.b.]"}, {"{ cat; cat; } <a", "0[A.A.]"}, {"(cat; echo x) <a >n; cat n", "0[A.x.]"},
		{"(x=1) >n; echo $x", "0[.]"}, {"if cat; then cat; fi <a", "0[A.A.]"},
		{"if none; then :; else echo x; fi >n 2>m; cat n m", "0[x.sh: none: error 6.]"}, {"for i in 1 2; do echo $i; done >n; cat n", "0[1.2.]"},
		{"for i in 1 2; do cat; done <a", "0[A.A.]"}, {"while cat; do break; done <a >n; cat n", "0[A.]"}, {"until cat; do :; done <a", "0[A.]"},
		{"case x in x) cat;; esac <a", "0[A.]"}, {"case $(cat; none) in '') echo x;; esac <a 2>n; cat n", "0[x.sh: none: error 6.]"},
		{"for i in $(none); do :; done 2>n; cat n", "0[sh: none: error 6.]"}, {"{ echo x; } <none; echo $?", "0[1.]!sh: none: error 6."},
		{"while echo x; do :; done <none; echo $?", "0[1.]!sh: none: error 6."},
		{"fn() { cat; echo x; } <a >n; fn; cat n; fn; cat n", "0[A.x.A.x.]"}, {"fn() { cat; echo x; }; fn <a >n; cat n", "0[A.x.]"},
		{"fn() { none; } 2>n; fn; cat n", "0[sh: none: error 6.]"}, {"fn() { return 3; } >n; fn", "3[]"},
		{"fn() { echo x; return 3; }; fn >n; echo $?; cat n", "0[3.x.]"}, {"for i in 1 2; do { echo $i; break; } >n; done; cat n; echo $i", "0[1.1.]"},
		{"for i in 1 2; do { echo $i; continue; } >>n; done; cat n", "0[1.2.]"},
		{"fn() { { echo x; return 3; } >n; echo y; }; fn; echo $?; cat n", "0[3.x.]"}, {"(echo x; exit 3) >n; echo $?; cat n", "0[3.x.]"},
		{"({ echo x; none; exit 3; } >n 2>m); echo $?; cat n m", "0[3.x.sh: none: error 6.]"},
		{"(set -e; { echo x; false; } >n); echo $?; cat n", "0[1.x.]"}, {"echo a | { cat; echo b; } >n; cat n", "0[a.b.]"},
		{"{ x=1; cd /; fn() { echo fn; }; } >n; echo $x; pwd; fn", "0[1./.fn.]"}, {"exit 3 >n", "3[]"}, {"pwd >n; cat n", "0[/d.]"},
		{"cd none 2>n; cat n", "0[sh: none: error 6.]"}, {"false >n; echo $?", "0[1.]"}, {"echo $(echo x >n)y; cat n", "0[y.x.]"},
		{"echo x >n$(echo m >m); echo *", "0[a b m n.]"},
	})
}

// What a command writes is kept in its file at its end; there may be no room.
func TestRedirsFull(t *testing.T) {
	for _, x := range [][3]string{
		{"echo xyz >n; echo $?", "0[1.]!sh: n: error 13.", ""}, {"printf x >n; echo $?", "0[0.]", "x"},
		{"{ echo xyz; none; } 2>m >n; echo $?", "0[1.]!sh: m: error 13.sh: n: error 13.", ""},
		{"echo xyz >n || echo no", "0[no.]!sh: n: error 13.", ""}, {"set -e; echo xyz >n; echo a", "1[]!sh: n: error 13.", ""},
		{"{ echo xyz >n; } 2>m; echo $?", "0[1.]!sh: m: error 13.", ""}, {"{ echo xyz; exit 3; } >n; echo a", "3[]!sh: n: error 13.", ""},
		{"(echo xyz; exit 3) >n; echo $?", "0[1.]!sh: n: error 13.", ""},
		{"for i in 1 2; do { echo xyz; break; } >n; done; echo $?$i", "0[11.]!sh: n: error 13.", ""},
		{"{ rm n; mkdir n; echo xyz; } >n; echo $?", "0[1.]!sh: n: error 10.", "error 10"},
	} {
		f := vfs.New(5, 5)
		f.Mkdir("/d")
		f.Write("/d/big", []byte("123"), false)
		if got := told(run(t, New(f, "/d", nil, nil, 100), x[0])); got != x[1] || read(f, "/d/n") != x[2] {
			t.Errorf("P1601: %s: %s, %s", x[0], got, read(f, "/d/n"))
		}
	}
}
