package gen

import (
	"math"
	"strconv"
	"strings"
	"testing"
)

func TestNext(t *testing.T) {
	l := New(0)
	for i, want := range []int{1013904223, 1196435762, 3519870697, 2868466484} {
		if got := l.Next(math.MaxInt); got != want>>8 {
			t.Errorf("P2701: number %d is %d, not %d", i, got, want>>8)
		}
	}
	for _, seed := range []int{0, 1, -1, 1 << 32, 1<<40 + 7, math.MinInt, math.MaxInt} {
		a, b := New(seed), New(seed&0xFFFFFFFF)
		state := seed & 0xFFFFFFFF
		for i := range 100 {
			n := []int{0, 1, 2, 7, -3, 1000, math.MaxInt, math.MinInt}[i%8]
			state = (state*1664525 + 1013904223) & 0xFFFFFFFF
			want := 0
			if n >= 1 {
				want = (state >> 8) % n
			}
			if x, y := a.Next(n), b.Next(n); x != want || y != want {
				t.Fatalf("P2701: seed %d: number %d below %d is %d and %d, not %d", seed, i, n, x, y, want)
			}
		}
	}
}

// The scripts and makefiles are drawn once more, by the words of the document.
func TestMakefile(t *testing.T) {
	for seed := range 200 {
		for _, n := range []int{-1, 0, 1, 2, 5, 50, 51, math.MaxInt, math.MinInt} {
			l := New(seed)
			want := ""
			most := min(max(n, 0), 50)
			for i := range most {
				want += "t" + strconv.Itoa(i) + ":"
				needs := l.Next(3)
				for range needs {
					x := i + 1 + l.Next(3)
					if x < most {
						want += " t" + strconv.Itoa(x)
					} else {
						want += " s" + strconv.Itoa(l.Next(3))
					}
				}
				if needs > 0 {
					want += "\n\tcat $^ > $@\n"
				} else {
					want += "\n\techo " + strconv.Itoa(i) + " > $@\n"
				}
			}
			if got := Makefile(seed, n); got != want {
				t.Fatalf("P2702: Makefile(%d, %d): %q, not %q", seed, n, got, want)
			}
		}
	}
	if got := Makefile(3, 3); got != "t0: s2 s0\n\tcat $^ > $@\nt1: s2\n\tcat $^ > $@\nt2: s1 s1\n\tcat $^ > $@\n" {
		t.Errorf("P2702: %q", got)
	}
}

func TestScript(t *testing.T) {
	for seed := range 200 {
		for _, n := range []int{-1, 0, 1, 7, 100, 101, math.MaxInt} {
			l := New(seed)
			var want []string
			for range min(max(n, 0), 100) {
				switch form := l.Next(6); form {
				case 5:
					want = append(want, "for i in 1 2; do echo $i; done\n")
				default:
					a := strconv.Itoa(l.Next(4))
					want = append(want, []string{"echo A\n", "x=A\n", "echo $x > fA\n", "cat fA\n", "test -e fA && echo y\n"}[form])
					want[len(want)-1] = strings.ReplaceAll(want[len(want)-1], "A", a)
				}
			}
			if got := Script(seed, n); got != strings.Join(want, "") {
				t.Fatalf("P2702: Script(%d, %d): %q, not %q", seed, n, got, want)
			}
		}
	}
}

func TestIndependent(t *testing.T) {
	a, b := New(5), New(5)
	a.Next(9)
	a.Next(9)
	if c := New(5); b.Next(1000) != c.Next(1000) {
		t.Error("P2703: two Lots aren't independent")
	}
	if Script(5, 20) != Script(5, 20) || Makefile(5, 20) != Makefile(5, 20) {
		t.Error("P2703: two answers")
	}
}
