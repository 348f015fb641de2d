package vfs

import (
	"math/rand"
	"slices"
	"strings"
	"testing"

	"quartermaster/api"
	"quartermaster/path"
)

// flat is the document's file system as a flat list of paths.
type flat struct {
	nodes, bytes, clock int
	at                  map[string]api.Entry
}

func (m *flat) kind(p string) int {
	e, ok := m.at[p]
	switch {
	case p == "/" || ok && e.Dir:
		return 2
	case ok:
		return 1
	}
	return 0
}

func (m *flat) way(p string) api.Errno {
	at := ""
	names := path.Parts("/", p)
	for i := 0; i < len(names)-1; i++ {
		at += "/" + names[i]
		switch m.kind(at) {
		case 0:
			return api.ErrNone
		case 1:
			return api.ErrNotDir
		}
	}
	return api.OK
}

func (m *flat) below(p string) (l []string) {
	for q := range m.at {
		if strings.HasPrefix(q, strings.TrimSuffix(p, "/")+"/") {
			l = append(l, q)
		}
	}
	return l
}

func (m *flat) set(e api.Entry) {
	m.clock++
	e.Time = m.clock
	m.at[e.Path] = e
}

func (m *flat) size() (n int) {
	for _, e := range m.at {
		n += len(e.Data)
	}
	return n
}

func (m *flat) write(p string, b []byte, more bool) api.Errno {
	if err := m.way(p); err != api.OK {
		return err
	}
	if m.kind(p) == 2 {
		return api.ErrDir
	}
	e := m.at[p]
	old := len(e.Data)
	if more {
		b = append(slices.Clone(e.Data), b...)
	}
	if m.kind(p) == 0 && len(m.at) >= m.nodes || m.size()-old+len(b) > m.bytes {
		return api.ErrFull
	}
	m.set(api.Entry{Path: p, Data: b})
	return api.OK
}

func (m *flat) mkdir(p string) api.Errno {
	switch {
	case m.way(p) != api.OK:
		return m.way(p)
	case m.kind(p) != 0:
		return api.ErrThere
	case len(m.at) >= m.nodes:
		return api.ErrFull
	}
	m.set(api.Entry{Path: p, Dir: true})
	return api.OK
}

func (m *flat) touch(p string) api.Errno {
	if m.way(p) == api.OK && m.kind(p) != 0 {
		if p != "/" {
			m.set(m.at[p])
		}
		return api.OK
	}
	return m.write(p, nil, true)
}

func (m *flat) remove(p string) api.Errno {
	switch {
	case m.way(p) != api.OK:
		return m.way(p)
	case m.kind(p) == 0:
		return api.ErrNone
	case p == "/":
		return api.ErrArg
	case len(m.below(p)) > 0:
		return api.ErrUsed
	}
	delete(m.at, p)
	m.clock++
	return api.OK
}

func (m *flat) move(a, b string) api.Errno {
	switch {
	case m.way(a) != api.OK:
		return m.way(a)
	case m.kind(a) == 0:
		return api.ErrNone
	case a == "/":
		return api.ErrArg
	case m.way(b) != api.OK:
		return m.way(b)
	case a == b:
		return api.OK
	case b == "/" || path.Within(a, b):
		return api.ErrArg
	case m.kind(b) == 2 && m.kind(a) == 1:
		return api.ErrDir
	case m.kind(b) == 1 && m.kind(a) == 2:
		return api.ErrNotDir
	case m.kind(b) == 2 && len(m.below(b)) > 0:
		return api.ErrUsed
	}
	below := m.below(a)
	for _, q := range below {
		if _, err := path.Abs("/", b+q[len(a):]); err != api.OK {
			return api.ErrLong
		}
	}
	for _, q := range below {
		e := m.at[q]
		delete(m.at, q)
		e.Path = b + q[len(a):]
		m.at[e.Path] = e
	}
	e := m.at[a]
	delete(m.at, a)
	e.Path = b
	m.set(e)
	return api.OK
}

func (m *flat) same(f *FS) bool {
	l := f.All()
	if len(l) != len(m.at) || f.Clock() != m.clock || !slices.IsSortedFunc(l, func(a, b api.Entry) int { return strings.Compare(a.Path, b.Path) }) {
		return false
	}
	for _, e := range l {
		x, ok := m.at[e.Path]
		if !ok || x.Dir != e.Dir || string(x.Data) != string(e.Data) || x.Time != e.Time || f.Time(e.Path) != e.Time || f.Kind(e.Path) != m.kind(e.Path) {
			return false
		}
	}
	return true
}

func TestModel(t *testing.T) {
	r := rand.New(rand.NewSource(4))
	name := func() string {
		p := ""
		for range r.Intn(4) {
			p += "/" + []string{"a", "b", "c!", "d"}[r.Intn(4)]
		}
		return max(p, "/")
	}
	for range 60 {
		f, m := New(12, 30), &flat{nodes: 12, bytes: 30, at: map[string]api.Entry{}}
		for range 400 {
			p, q, b, more := name(), name(), []byte("0123456789")[:r.Intn(9)], r.Intn(2) == 0
			var got, want api.Errno
			switch r.Intn(7) {
			case 0, 1:
				got, want = f.Write(p, b, more), m.write(p, b, more)
			case 2, 3:
				got, want = f.Mkdir(p), m.mkdir(p)
			case 4:
				got, want = f.Touch(p), m.touch(p)
			case 5:
				got, want = f.Remove(p), m.remove(p)
			case 6:
				got, want = f.Move(p, q), m.move(p, q)
			}
			if got != want || !m.same(f) {
				t.Fatalf("P402 to P404: %s %s: error %d, not %d; %s", p, q, got, want, paths(f))
			}
		}
	}
}
