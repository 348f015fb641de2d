package check

import (
	"math/rand"
	"strconv"
	"strings"
	"testing"

	"quartermaster/api"
	"quartermaster/vfs"
)

func lay(t *testing.T) *vfs.FS {
	f := vfs.New(9, 99)
	for _, err := range []api.Errno{f.Mkdir("/d"), f.Write("/d/old", []byte("x"), false), f.Write("/empty", nil, false),
		f.Write("/d/new", []byte("y"), false)} {
		if err != api.OK {
			t.Fatal(err)
		}
	}
	return f
}

func run(t *testing.T, f *vfs.FS, cwd string, want string, l ...string) {
	t.Helper()
	got, err := Test(f, cwd, l)
	said := strconv.FormatBool(got)
	if err != api.OK {
		if got {
			t.Errorf("P1401: Test of %q: true beside an error", l)
		}
		said = strconv.Itoa(int(err))
	}
	if said != want {
		t.Errorf("P1401: Test of %q: %s, not %s", l, said, want)
	}
}

func TestStrings(t *testing.T) {
	for _, x := range []struct {
		want string
		l    []string
	}{
		{"false", nil}, {"false", []string{""}}, {"true", []string{"a"}}, {"true", []string{"!"}}, {"true", []string{"-n"}}, {"true", []string{"]"}},
		{"true", []string{"!", ""}}, {"false", []string{"!", "a"}}, {"false", []string{"!", "!"}}, {"true", []string{"-n", "a"}},
		{"false", []string{"-n", ""}}, {"true", []string{"-z", ""}}, {"false", []string{"-z", "a"}}, {"2", []string{"-x", "a"}},
		{"2", []string{"a", "b"}}, {"2", []string{"", ""}}, {"2", []string{"=", "a"}},
		{"true", []string{"a", "=", "a"}}, {"false", []string{"a", "=", "b"}}, {"true", []string{"", "=", ""}}, {"true", []string{"a", "!=", "b"}},
		{"false", []string{"a", "!=", "a"}}, {"true", []string{"!", "=", "!"}}, {"false", []string{"!", "=", "a"}}, {"true", []string{"!", "!=", "a"}},
		{"false", []string{"-n", "=", "-z"}},
		{"2", []string{"a", "b", "c"}}, {"2", []string{"a", "==", "a"}}, {"2", []string{"a", "", "a"}}, {"true", []string{"!", "-n", ""}},
		{"false", []string{"!", "-z", ""}}, {"false", []string{"!", "!", ""}}, {"true", []string{"!", "!", "a"}}, {"2", []string{"!", "a", "b"}},
		{"2", []string{"-n", "a", "b"}},
		{"false", []string{"!", "a", "=", "a"}}, {"true", []string{"!", "a", "=", "b"}}, {"true", []string{"!", "!", "-z", ""}},
		{"2", []string{"!", "a", "b", "c"}}, {"2", []string{"a", "b", "c", "d"}}, {"2", []string{"!", "a", "-eq", "1"}},
		{"2", []string{"a", "=", "a", "b"}}, {"true", []string{"!", "!", "=", "a"}},
		{"2", []string{"!", "!", "a", "=", "a"}}, {"2", []string{"a", "=", "a", "-o", "b"}}, {"2", []string{"", "", "", "", "", ""}},
	} {
		run(t, nil, "/", x.want, x.l...)
	}
}

func TestPaths(t *testing.T) {
	f := lay(t)
	long := strings.Repeat("n", 61)
	for _, x := range []struct {
		arg, want string // a letter for each of efds that holds
	}{{"/d", "ed"}, {"/", "ed"}, {"old", "efs"}, {"./../empty", "ef"}, {"/none", ""}, {"none/x", ""}, {"old/x", ""}, {"", ""}, {"a\x00", ""},
		{long, ""}, {"..", "ed"}} {
		for _, op := range []string{"e", "f", "d", "s"} {
			run(t, f, "/d", strconv.FormatBool(strings.Contains(x.want, op)), "-"+op, x.arg)
		}
	}
	run(t, nil, "/", "true", "-d", "/")
	run(t, nil, "/", "false", "-e", "/a")
	run(t, f, "\x00", "false", "-e", "/d")
	run(t, f, long, "true", "-e", "/d")
	for _, x := range [][3]string{{"new", "old", "true"}, {"old", "new", "false"}, {"old", "old", "false"}, {"old", "none", "true"},
		{"none", "old", "false"}, {"none", "none", "false"}, {"/", "none", "false"}, {"", "old", "false"}, {"old", "", "true"}, {"/d", "/", "true"},
		{"old", "/d", "true"}, {"a\x00", long, "false"}} {
		run(t, f, "/d", x[2], x[0], "-nt", x[1])
	}
	if f.Clock() != 4 {
		t.Error("P1402: the file system was changed")
	}
}

func TestIntegers(t *testing.T) {
	ops := []string{"-eq", "-ne", "-lt", "-le", "-gt", "-ge"}
	holds := func(a, b int64) []bool { return []bool{a == b, a != b, a < b, a <= b, a > b, a >= b} }
	check := func(a, b string) {
		x, _ := strconv.ParseInt(a, 10, 64)
		y, _ := strconv.ParseInt(b, 10, 64)
		for i, op := range ops {
			run(t, nil, "/", strconv.FormatBool(holds(x, y)[i]), a, op, b)
		}
	}
	numbers := []string{"0", "-0", "00", "1", "-1", "10", "9", "-9", "007", "999999999", "1000000000", "-999999999", "-1000000000",
		"999999999999999999", "-999999999999999999", "999999999999999998", "100000000000000000", "000000000000000001", "123456789012345678",
		"123456789012345679", "123456788999999999"}
	for _, a := range numbers {
		for _, b := range numbers {
			check(a, b)
		}
	}
	r := rand.New(rand.NewSource(14))
	for range 3000 {
		a := r.Int63n(2e18-1) - (1e18 - 1)
		check(strconv.FormatInt(a, 10), strconv.FormatInt(max(-(1e18-1), a-int64(r.Intn(3))), 10))
	}
	for _, s := range []string{"", "-", "a", "1a", "+1", " 1", "1 ", "--1", "1.0", "1000000000000000000", "0000000000000000001",
		"-0000000000000000001", "0x1", "inf"} {
		for _, op := range ops {
			run(t, nil, "/", "2", s, op, "1")
			run(t, nil, "/", "2", "1", op, s)
		}
	}
}

func TestKept(t *testing.T) {
	l := []string{"!", "a", "=", "b"}
	run(t, nil, "/", "true", l...)
	if l[0] != "!" || l[3] != "b" {
		t.Error("P1402: the arguments were changed")
	}
}
