package path

import (
	"slices"
	"strings"
	"testing"

	"quartermaster/api"
)

func TestParts(t *testing.T) {
	for _, x := range []struct {
		cwd, p string
		want   []string
	}{
		{"/a/b", "c/./d//e/", []string{"a", "b", "c", "d", "e"}}, {"/a/b", "/c", []string{"c"}}, {"/a/b", "..", []string{"a"}},
		{"/a", "../../../b", []string{"b"}},
		{"a//./b/../c", "d", []string{"a", "c", "d"}}, {"../a", "b", []string{"a", "b"}}, {"/a", "", []string{"a"}}, {"", "", nil}, {"/", "/", nil},
		{"/x", "/..", nil}, {"/a", "...", []string{"a", "..."}},
		{"/a", "b/../../c/..", nil}, {"/a", " /\x00", []string{"a", " ", "\x00"}},
	} {
		if got := Parts(x.cwd, x.p); !slices.Equal(got, x.want) {
			t.Errorf("P301: Parts(%q, %q) = %q", x.cwd, x.p, got)
		}
	}
}

func TestAbs(t *testing.T) {
	name := strings.Repeat("n", api.MaxName)
	deep := strings.Repeat("/d", api.MaxDepth)
	long := "/" + name + "/" + name + "/" + name + "/" // 184 bytes
	for _, x := range []struct {
		cwd, p, want string
		err          api.Errno
	}{
		{"/a", "../b", "/b", 0}, {"/a", ".", "/a", 0}, {"", "a", "/a", 0}, {"/a", "/", "/", 0}, {"/", "../..", "/", 0}, {"a", "b//c/", "/a/b/c", 0},
		{"/a", "", "", api.ErrArg}, {"/a\x00", "/b", "", api.ErrArg}, {"/", "a\x00b", "", api.ErrArg},
		{"/", name, "/" + name, 0}, {"/", name + "n", "", api.ErrLong}, {"/", name + "n/..", "/", 0}, {"/" + name + "n", "/a", "/a", 0},
		{"/" + name + "n", "a", "", api.ErrLong},
		{"/", deep, deep, 0}, {deep, "e", "", api.ErrLong}, {deep, "../e", deep[2:] + "/e", 0},
		{"/", long + strings.Repeat("x", api.MaxPath-len(long)), long + strings.Repeat("x", api.MaxPath-len(long)), 0},
		{"/", long + strings.Repeat("x", api.MaxPath-len(long)+1), "", api.ErrLong},
		{name + "n", "a\x00", "", api.ErrArg},
	} {
		if got, err := Abs(x.cwd, x.p); got != x.want || err != x.err {
			t.Errorf("P302: Abs(%q, %q) = %q, %d", x.cwd, x.p, got, err)
		}
	}
}

func TestDirBase(t *testing.T) {
	for _, x := range [][3]string{{"/a/b", "/a", "b"}, {"/a", "/", "a"}, {"/", "/", ""}, {"", "/", ""}, {"a/b/../c/.", "/a", "c"},
		{"..", "/", ""}, {"x//y//", "/x", "y"}} {
		if Dir(x[0]) != x[1] || Base(x[0]) != x[2] {
			t.Errorf("P302: Dir and Base of %q: %q, %q", x[0], Dir(x[0]), Base(x[0]))
		}
	}
}

func TestWithin(t *testing.T) {
	for _, x := range []struct {
		p, q string
		want bool
	}{{"/a", "/ab", false}, {"/a", "/a/b", true}, {"/a", "a", true}, {"/", "/a", true}, {"", "", true}, {"/a/b", "/a", false},
		{"/a/./b", "/a/b/c/../d", true}, {"/a", "/a/..", false}} {
		if Within(x.p, x.q) != x.want {
			t.Errorf("P302: Within(%q, %q)", x.p, x.q)
		}
	}
}

func TestPartsIsNew(t *testing.T) {
	a := Parts("/a", "b")
	a[0] = "x"
	if got := Parts("/a", "b"); got[0] != "a" {
		t.Errorf("P303: %q", got)
	}
}
