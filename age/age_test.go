package age

import (
	"slices"
	"strings"
	"testing"

	"quartermaster/api"
	"quartermaster/rules"
	"quartermaster/vfs"
)

// lay makes /d with old, q, mid, new (in this order) and the directory dir.
func lay(t *testing.T) *vfs.FS {
	t.Helper()
	f := vfs.New(9, 99)
	f.Mkdir("/d")
	for _, p := range []string{"/d/old", "/d/q", "/d/mid", "/d/new"} {
		if err := f.Write(p, nil, false); err != api.OK {
			t.Fatal(err)
		}
	}
	f.Mkdir("/d/dir")
	return f
}

func TestNewer(t *testing.T) {
	f := lay(t)
	for _, x := range []struct{ target, needs, want string }{
		{"none", "old q", "old q"}, {"none", "", ""}, {"none", "none x x", "none x x"}, {"mid", "old q new", "new"},
		{"mid", "new dir old new", "new dir new"}, {"mid", "mid none", ""}, {"old", "new none q mid", "new q mid"}, {"new", "old q mid", ""},
		{"dir", "new", ""}, {"new", "dir", "dir"}, {"/", "old none", "old"}, {"old", "/ .", ""}, {"./mid", "../d/new", "../d/new"},
		{strings.Repeat("n", 61), "old", "old"}, {"mid", strings.Repeat("n", 61), ""}, {"old/x", "q", "q"},
	} {
		if got := strings.Join(Newer(f, "/d", x.target, strings.Fields(x.needs)), " "); got != x.want {
			t.Errorf("P2301: Newer of %.20s and %s: %s, not %s", x.target, x.needs, got, x.want)
		}
	}
	if got := Newer(f, "\x00", "old", []string{"q"}); !slices.Equal(got, []string{"q"}) {
		t.Errorf("P2302: a directory that can't be: %s", got)
	}
	if got := Newer(nil, "/", "a", []string{"q"}); !slices.Equal(got, []string{"q"}) {
		t.Errorf("P2301: without a file system: %s", got)
	}
}

func TestOld(t *testing.T) {
	f := lay(t)
	for _, x := range []struct {
		makefile, target, needs, made string
		want                          bool
	}{
		{"", "none", "", "", true}, {"", "none", "old", "old", true}, {"", "mid", "", "", false}, {"", "mid", "old q", "", false},
		{"", "mid", "old new", "", true}, {"", "mid", "old", "old", false}, {"", "mid", "none", "", false}, {"", "mid", "none", "none", true},
		{"", "mid", "old none", "x none", true}, {"", "mid", "old", "none", false},
		{"", "mid", strings.Repeat("n", 61), strings.Repeat("n", 61), true}, {"", "mid", "./old", "old", false},
		{".PHONY: mid", "mid", "", "", true}, {".PHONY: old", "mid", "old", "", false}, {".PHONY: old", "mid", "old", "old", true},
		{".PHONY: old", "mid", "q", "old", false}, {".PHONY:", "mid", "", "", true}, {".PHONY: x", "mid", "old", "old", false},
		{"", "dir", "new", "", false}, {"", "/", "new", "", true}, {"", "/", "", "", false}, {"", strings.Repeat("n", 61), "", "", true},
		{"", "", "", "", true},
	} {
		m, err := rules.Read(nil, "/", x.makefile, nil)
		if err != api.OK || Old(m, f, "/d", x.target, strings.Fields(x.needs), strings.Fields(x.made)) != x.want {
			t.Errorf("P2301: %q: Old of %.20s and %s, made %s", x.makefile, x.target, x.needs, x.made)
		}
	}
	if !Old(api.Makefile{}, nil, "/", "a", nil, nil) || !Old(api.Makefile{}, f, "\x00", "old", nil, nil) || Old(api.Makefile{}, f, "", "/d/old", nil, nil) {
		t.Error("P2302: places that aren't there")
	}
}

func TestKept(t *testing.T) {
	f := lay(t)
	needs := []string{"old", "new"}
	got := Newer(f, "/d", "none", needs)
	got[0] = "x"
	Old(api.Makefile{}, f, "/d", "mid", needs, needs)
	if needs[0] != "old" || f.Clock() != 6 {
		t.Error("P2302: an argument was changed")
	}
}
