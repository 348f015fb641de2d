package vfs

import (
	"bytes"
	"reflect"
	"slices"
	"strings"
	"testing"

	"quartermaster/api"
)

func is(t *testing.T, promise string, got, want api.Errno) {
	t.Helper()
	if got != want {
		t.Errorf("%s: error %d, not %d", promise, got, want)
	}
}

// tree lays files (a path and its bytes) and directories (a path that ends with /).
func tree(t *testing.T, f *FS, l ...string) *FS {
	t.Helper()
	for _, x := range l {
		p, data, file := strings.Cut(x, "=")
		var err api.Errno
		if file {
			err = f.Write(p, []byte(data), false)
		} else {
			err = f.Mkdir(p)
		}
		is(t, x, err, api.OK)
	}
	return f
}

func paths(f *FS) string {
	var l []string
	for _, e := range f.All() {
		p := e.Path
		if e.Dir {
			p += "/"
		} else {
			p += "=" + string(e.Data)
		}
		l = append(l, p)
	}
	return strings.Join(l, " ")
}

func TestNew(t *testing.T) {
	f := New(5, 5)
	if f.Clock() != 0 || f.Kind("/") != 2 || f.Time("/") != 0 || len(f.All()) != 0 {
		t.Error("P401: a new file system")
	}
	f = New(-1, -1)
	is(t, "P401", f.Write("/a", nil, false), api.ErrFull)
	is(t, "P401", f.Mkdir("/a"), api.ErrFull)
	f = New(1, -3)
	is(t, "P401", f.Write("/a", nil, false), api.OK)
	is(t, "P401", f.Write("/a", []byte("x"), false), api.ErrFull)
	f = New(1<<40, 1<<40)
	is(t, "P401", f.Write("/a", make([]byte, 1<<20), false), api.OK)
	is(t, "P401", f.Write("/a", []byte{1}, true), api.ErrFull)
	for i := range 99 {
		is(t, "P401", f.Mkdir("/"+strings.Repeat("d", i%60+1)+strings.Repeat("/e", i/60)), api.OK)
	}
}

func TestMostNodes(t *testing.T) {
	f := New(1<<30, 0)
	made := 0
	for a := 'a'; a <= 'z'; a++ {
		for b := 'a'; b <= 'z'; b++ {
			for c := 'a'; c <= 'p'; c++ {
				if f.Write("/"+string([]rune{a, b, c}), nil, false) == api.OK {
					made++
				}
			}
		}
	}
	if made != 10000 {
		t.Errorf("P401: %d nodes", made)
	}
}

func TestKindReadList(t *testing.T) {
	f := tree(t, New(9, 99), "/d", "/d/f=xy", "/d/b=", "/e")
	for p, want := range map[string]int{"/": 2, "": 0, "/d": 2, "d/../d/f": 1, "/x": 0, "/x/y": 0, "/d/f/g": 0, "/a\x00": 0,
		"/" + strings.Repeat("n", 61): 0} {
		if f.Kind(p) != want {
			t.Errorf("P401: Kind(%q) = %d", p, f.Kind(p))
		}
	}
	for p, want := range map[string]api.Errno{"/": api.ErrDir, "": api.ErrArg, "/d": api.ErrDir, "/x": api.ErrNone, "/x/y": api.ErrNone,
		"/d/f/g": api.ErrNotDir, "/d/f/g/h": api.ErrNotDir, "/x/d/f/g": api.ErrNone, "/" + strings.Repeat("n", 61): api.ErrLong} {
		b, err := f.Read(p)
		if is(t, "P401: Read "+p, err, want); b != nil {
			t.Error("P401: bytes beside an error")
		}
	}
	for p, want := range map[string]api.Errno{"/d/f": api.ErrNotDir, "": api.ErrArg, "/x": api.ErrNone, "/d/f/g": api.ErrNotDir} {
		l, err := f.List(p)
		if is(t, "P401: List "+p, err, want); l != nil {
			t.Error("P401: names beside an error")
		}
	}
	b, err := f.Read("/d/f")
	if err != api.OK || string(b) != "xy" {
		t.Errorf("P401: Read: %q, %d", b, err)
	}
	b[0] = 'z'
	if b, _ := f.Read("/d/f"); string(b) != "xy" {
		t.Error("P405: Read hands out its own bytes")
	}
	if l, err := f.List("/d"); err != api.OK || !slices.Equal(l, []string{"b", "f"}) {
		t.Errorf("P401: List: %q, %d", l, err)
	}
	if l, err := f.List("/"); err != api.OK || !slices.Equal(l, []string{"d", "e"}) {
		t.Errorf("P401: List: %q, %d", l, err)
	}
}

func TestTimes(t *testing.T) {
	f := New(9, 99)
	steps := []struct {
		do   func() api.Errno
		p    string
		time int
	}{
		{func() api.Errno { return f.Write("/a", []byte("x"), false) }, "/a", 1},
		{func() api.Errno { return f.Write("/a", []byte("x"), false) }, "/a", 2},
		{func() api.Errno { return f.Write("/a", nil, true) }, "/a", 3},
		{func() api.Errno { return f.Mkdir("/d") }, "/d", 4},
		{func() api.Errno { return f.Write("/d/x", nil, false) }, "/d/x", 5},
		{func() api.Errno { return f.Touch("/d") }, "/d", 6},
		{func() api.Errno { return f.Touch("/d/y") }, "/d/y", 7},
		{func() api.Errno { return f.Move("/d", "/e") }, "/e", 8},
		{func() api.Errno { return f.Remove("/e/x") }, "/e", 8},
	}
	for i, s := range steps {
		is(t, "P402", s.do(), api.OK)
		if f.Clock() != i+1 || f.Time(s.p) != s.time {
			t.Errorf("P402: step %d: clock %d, time of %s %d", i, f.Clock(), s.p, f.Time(s.p))
		}
	}
	if f.Time("/e/y") != 7 || f.Time("/") != 0 || f.Time("/none") != 0 || f.Time("") != 0 || f.Time("/a/b") != 0 {
		t.Error("P401: times")
	}
	is(t, "P402", f.Touch("/"), api.OK)
	is(t, "P404", f.Move("/a", "/./a"), api.OK)
	is(t, "P402", f.Write("/", nil, false), api.ErrDir)
	if f.Clock() != 9 || f.Time("/") != 0 {
		t.Error("P402: the clock went on for nothing")
	}
}

func TestAll(t *testing.T) {
	f := tree(t, New(9, 99), "/a", "/a/b=1", "/a!c=22", "/a.d=")
	want := []api.Entry{{Path: "/a", Dir: true, Time: 1}, {Path: "/a!c", Data: []byte("22"), Time: 3}, {Path: "/a.d", Time: 4},
		{Path: "/a/b", Data: []byte("1"), Time: 2}}
	got := f.All()
	for i := range got {
		if len(got[i].Data) == 0 {
			got[i].Data = nil
		}
	}
	if !reflect.DeepEqual(got, want) {
		t.Errorf("P401: All: %v", got)
	}
	got[1].Data[0] = 'x'
	if b, _ := f.Read("/a!c"); string(b) != "22" {
		t.Error("P405: All hands out its own bytes")
	}
}

func TestCopy(t *testing.T) {
	f := tree(t, New(4, 4), "/d", "/d/a=12")
	c := f.Copy()
	if !reflect.DeepEqual(c.All(), f.All()) || c.Clock() != f.Clock() {
		t.Error("P401: Copy is another")
	}
	is(t, "P401", c.Write("/d/a", []byte("34"), true), api.OK)
	is(t, "P401", c.Write("/d/a", []byte("5"), true), api.ErrFull)
	is(t, "P401", c.Write("/d/b", nil, true), api.OK)
	is(t, "P401", c.Mkdir("/e"), api.OK)
	is(t, "P401", c.Mkdir("/g"), api.ErrFull)
	is(t, "P401", f.Write("/z", []byte("zz"), true), api.OK)
	if paths(f) != "/d/ /d/a=12 /z=zz" || paths(c) != "/d/ /d/a=1234 /d/b= /e/" || f.Clock() != 3 || c.Clock() != 5 {
		t.Errorf("P405: %s; %s", paths(f), paths(c))
	}
}

func TestWrite(t *testing.T) {
	f := tree(t, New(3, 5), "/d", "/a=123")
	is(t, "P402", f.Write("", nil, false), api.ErrArg)
	is(t, "P402", f.Write("/x/y", []byte("123456"), false), api.ErrNone)
	is(t, "P402", f.Write("/a/y", nil, false), api.ErrNotDir)
	is(t, "P402", f.Write("/d", []byte("123456"), false), api.ErrDir)
	is(t, "P402", f.Write("/a", []byte("456"), true), api.ErrFull)
	is(t, "P402", f.Write("/a", []byte("45"), true), api.OK)
	is(t, "P402", f.Write("/a", []byte("54321"), false), api.OK)
	is(t, "P402", f.Write("/a", []byte("543210"), false), api.ErrFull)
	is(t, "P402", f.Write("/b", []byte("1"), false), api.ErrFull)
	if f.Clock() != 4 || paths(f) != "/a=54321 /d/" {
		t.Errorf("P402: %s", paths(f))
	}
	is(t, "P402", f.Write("/b", nil, true), api.OK)
	is(t, "P402", f.Write("/c", nil, true), api.ErrFull)
	b := []byte("xy")
	is(t, "P402", f.Write("/a", nil, false), api.OK)
	is(t, "P402", f.Write("/b", b, false), api.OK)
	b[0] = 'z'
	if paths(f) != "/a= /b=xy /d/" {
		t.Errorf("P405: %s", paths(f))
	}
}

func TestMkdirTouch(t *testing.T) {
	f := tree(t, New(2, 5), "/d")
	is(t, "P402", f.Mkdir("/d"), api.ErrThere)
	is(t, "P402", f.Mkdir("/"), api.ErrThere)
	is(t, "P402", f.Mkdir("\x00"), api.ErrArg)
	is(t, "P402", f.Mkdir("/x/y"), api.ErrNone)
	is(t, "P402", f.Touch("/x/y"), api.ErrNone)
	is(t, "P402", f.Touch(""), api.ErrArg)
	is(t, "P402", f.Touch("/d/a"), api.OK)
	is(t, "P402", f.Touch("/d/a/b"), api.ErrNotDir)
	is(t, "P402", f.Mkdir("/d/a"), api.ErrThere)
	is(t, "P402", f.Mkdir("/d/a/b"), api.ErrNotDir)
	is(t, "P402", f.Mkdir("/e"), api.ErrFull)
	is(t, "P402", f.Touch("/e"), api.ErrFull)
	if f.Clock() != 2 || paths(f) != "/d/ /d/a=" {
		t.Errorf("P402: %s", paths(f))
	}
}

func TestRemove(t *testing.T) {
	f := tree(t, New(2, 5), "/d", "/d/a=12345")
	is(t, "P403", f.Remove("/"), api.ErrArg)
	is(t, "P403", f.Remove(""), api.ErrArg)
	is(t, "P403", f.Remove("/x"), api.ErrNone)
	is(t, "P403", f.Remove("/x/y"), api.ErrNone)
	is(t, "P403", f.Remove("/d/a/b"), api.ErrNotDir)
	is(t, "P403", f.Remove("/d"), api.ErrUsed)
	is(t, "P403", f.Remove("/d/a"), api.OK)
	is(t, "P403", f.Remove("/d"), api.OK)
	if len(f.All()) != 0 || f.Clock() != 4 {
		t.Errorf("P403: %s", paths(f))
	}
	tree(t, f, "/e", "/b=54321")
}

func TestMoveErrors(t *testing.T) {
	f := tree(t, New(20, 50), "/d", "/d/a=1", "/e", "/b=2", "/g", "/g/h")
	clock := f.Clock()
	long := strings.Repeat("n", 61)
	for _, x := range []struct {
		a, b string
		err  api.Errno
	}{
		{"", long, api.ErrArg}, {"/x/y", long, api.ErrLong}, {long, "", api.ErrLong}, {"/x/y", "", api.ErrArg},
		{"/x/y", "/b/c", api.ErrNone}, {"/b/y", "/x/c", api.ErrNotDir}, {"/x", "/b/c", api.ErrNone}, {"/", "/x/y", api.ErrArg},
		{"/d", "/x/y", api.ErrNone}, {"/d", "/b/y", api.ErrNotDir}, {"/d", "/d/", api.OK}, {"/b", "/", api.ErrArg}, {"/d", "/d/x", api.ErrArg},
		{"/d", "/d/a", api.ErrArg},
		{"/b", "/e", api.ErrDir}, {"/d/a", "/d", api.ErrDir}, {"/e", "/b", api.ErrNotDir}, {"/e", "/d", api.ErrUsed}, {"/g/h", "/g", api.ErrUsed},
		{"/", "/", api.ErrArg},
	} {
		is(t, "P404: "+x.a+" to "+x.b, f.Move(x.a, x.b), x.err)
	}
	if f.Clock() != clock || paths(f) != "/b=2 /d/ /d/a=1 /e/ /g/ /g/h/" {
		t.Errorf("P404: %s", paths(f))
	}
}

func TestMove(t *testing.T) {
	f := tree(t, New(6, 6), "/d", "/d/a=123", "/e", "/b=456", "/c=")
	is(t, "P404", f.Move("/d", "/e"), api.OK)
	is(t, "P404", f.Move("/b", "/e/a"), api.OK)
	if paths(f) != "/c= /e/ /e/a=456" || f.Time("/e") != 6 || f.Time("/e/a") != 7 {
		t.Errorf("P404: %s", paths(f))
	}
	is(t, "P404", f.Move("/e", "/x"), api.OK)
	if paths(f) != "/c= /x/ /x/a=456" || f.Time("/x/a") != 7 || f.Time("/x") != 8 {
		t.Errorf("P404: %s", paths(f))
	}
	// What was moved over is gone from the counts too.
	tree(t, f, "/1=123", "/2", "/3")
	is(t, "P404", f.Mkdir("/4"), api.ErrFull)
}

func TestMoveLong(t *testing.T) {
	f := New(99, 9)
	deep := ""
	for range 10 {
		deep += "/d"
		tree(t, f, deep)
	}
	tree(t, f, "/e", "/e/e", "/e/e/f=")
	top := deep
	for range 8 {
		top += "/d"
		tree(t, f, top)
	}
	is(t, "P404", f.Move("/e", top+"/e"), api.ErrLong)
	is(t, "P404", f.Move("/e/e", top+"/e"), api.OK)
	name := strings.Repeat("n", 60)
	l := "/" + name
	tree(t, f, l, l+l, l+l+l, "/m", "/m/0123456789=")
	is(t, "P404", f.Move("/m", l+l+l+"/012345"), api.ErrLong)
	is(t, "P404", f.Move("/m", l+l+l+"/01234"), api.OK)
}

func TestNil(t *testing.T) {
	var f *FS
	for _, f := range []*FS{f, {}, New(0, 0)} {
		is(t, "P401", f.Write("/a", nil, false), api.ErrFull)
		is(t, "P401", f.Write("/", nil, false), api.ErrDir)
		is(t, "P401", f.Mkdir("/a"), api.ErrFull)
		is(t, "P401", f.Mkdir("/"), api.ErrThere)
		is(t, "P401", f.Touch("/a"), api.ErrFull)
		is(t, "P401", f.Touch("/"), api.OK)
		is(t, "P401", f.Remove("/"), api.ErrArg)
		is(t, "P401", f.Move("/a", "/b"), api.ErrNone)
		if l, err := f.List("/"); err != api.OK || len(l) != 0 || f.Kind("/") != 2 || f.Kind("/a") != 0 || f.Clock() != 0 || len(f.All()) != 0 || f.Time("/") != 0 || f.Copy().Clock() != 0 {
			t.Error("P401: the file system without room")
		}
	}
}

func TestWriteKeepsNothing(t *testing.T) {
	f := New(3, 99)
	b := make([]byte, 2, 50)
	is(t, "P405", f.Write("/a", b, false), api.OK)
	is(t, "P405", f.Write("/a", []byte("cd"), true), api.OK)
	if !bytes.Equal(b[:4], []byte{0, 0, 0, 0}) {
		t.Error("P405: Write writes into its argument")
	}
}
