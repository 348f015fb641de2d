package vars

import (
	"math/rand"
	"slices"
	"strconv"
	"strings"
	"testing"

	"quartermaster/api"
)

func TestName(t *testing.T) {
	long := strings.Repeat("n", api.MaxName)
	for s, want := range map[string]bool{"a": true, "_": true, "Az_09": true, long: true, long + "n": false, "": false, "9a": false, "a-b": false,
		"a b": false, "a.": false, "\xe9": false, "a\x00": false, "@": false, "a\n": false} {
		if Name(s) != want {
			t.Errorf("P601: Name(%q)", s)
		}
	}
}

func TestSet(t *testing.T) {
	var v Vars
	long := strings.Repeat("x", api.MaxWord)
	for _, x := range []struct {
		name, value string
		want        api.Errno
	}{
		{"1", "", api.ErrArg}, {"", "", api.ErrArg}, {"a", "\x00", api.ErrArg}, {"a", long + "\x00", api.ErrArg}, {"1", long + "x", api.ErrArg},
		{"a", long + "x", api.ErrLong},
		{"a", long, 0}, {"b", "1", 0}, {"b", "2", 0}, {"c", "", 0}, {"d", "\n\xff", 0},
	} {
		if got := v.Set(x.name, x.value); got != x.want {
			t.Errorf("P602: Set(%q, %.9q): error %d", x.name, x.value, got)
		}
	}
	for name, want := range map[string]string{"a": long, "b": "2", "c": "", "d": "\n\xff"} {
		if got, ok := v.Get(name); !ok || got != want {
			t.Errorf("P602: Get(%q) = %.9q, %v", name, got, ok)
		}
	}
	for _, name := range []string{"", "1", "e", "ab"} {
		if got, ok := v.Get(name); ok || got != "" {
			t.Errorf("P602: Get(%q) = %q, %v", name, got, ok)
		}
	}
}

func TestSetKeepsOnError(t *testing.T) {
	var v Vars
	v.Set("a", "1")
	v.Set("a", strings.Repeat("x", api.MaxWord+1))
	v.Set("a", "\x00")
	if got, _ := v.Get("a"); got != "1" {
		t.Errorf("P602: %q", got)
	}
}

func TestMost(t *testing.T) {
	var v Vars
	for i := range 500 {
		if err := v.Set("v"+strconv.Itoa(i), ""); err != api.OK {
			t.Fatalf("P602: %d: error %d", i, err)
		}
	}
	if v.Set("w", "") != api.ErrLong || v.Set("v499", "x") != api.OK || v.Set("9", "") != api.ErrArg {
		t.Error("P602: more than 500 variables")
	}
	v.Unset("none")
	if v.Set("w", "") != api.ErrLong {
		t.Error("P602: Unset of a variable that isn't set")
	}
	v.Unset("v7")
	if v.Set("w", "") != api.OK || v.Set("v7", "") != api.ErrLong || len(v.All()) != 500 {
		t.Error("P602: Unset")
	}
}

func TestAll(t *testing.T) {
	var v Vars
	if len(v.All()) != 0 {
		t.Error("P602: the zero Vars has variables")
	}
	r := rand.New(rand.NewSource(6))
	want := map[string]string{}
	for i := range 3000 {
		name := string([]byte{"ABab_"[r.Intn(5)], "09Zz_"[r.Intn(5)], "ab"[r.Intn(2)]})
		if r.Intn(3) == 0 {
			v.Unset(name)
			delete(want, name)
		} else {
			v.Set(name, strconv.Itoa(i))
			want[name] = strconv.Itoa(i)
		}
	}
	l := v.All()
	if len(l) != len(want) || !slices.IsSortedFunc(l, func(a, b api.Pair) int { return strings.Compare(a.Name, b.Name) }) {
		t.Errorf("P602: All: %v", l)
	}
	for _, p := range l {
		if want[p.Name] != p.Value {
			t.Errorf("P602: All: %v", p)
		}
	}
	l[0].Value = "other"
	if got, _ := v.Get(l[0].Name); got == "other" {
		t.Error("P603: All hands out its own list")
	}
}

func TestCopy(t *testing.T) {
	var v Vars
	v.Set("a", "1")
	v.Set("b", "2")
	c := v.Copy()
	c.Unset("a")
	c.Set("b", "3")
	v.Set("c", "4")
	if a, ok := v.Get("a"); !ok || a != "1" {
		t.Error("P602: Unset on a copy changes the original")
	}
	if b, _ := v.Get("b"); b != "2" {
		t.Error("P603: Set on a copy changes the original")
	}
	if _, ok := c.Get("c"); ok {
		t.Error("P603: Set on the original changes the copy")
	}
}
