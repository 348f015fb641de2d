package vfs

import (
	"slices"

	"quartermaster/api"
	"quartermaster/path"
)

// Write sets the bytes of a file, which it makes where there is no node, or
// appends to them.
func (f *FS) Write(p string, b []byte, more bool) api.Errno {
	s, err := f.find(p)
	if err != api.OK {
		return err
	}
	f = f.here()
	n, fresh := s.node, s.node == nil
	var kept []byte
	switch {
	case fresh:
		n = &node{file: true}
	case !n.file:
		return api.ErrDir
	case more:
		kept = n.data
	}
	if fresh && f.count >= f.nodes || len(b) > f.bytes-(f.size-len(n.data)+len(kept)) {
		return api.ErrFull
	}
	if fresh {
		f.add(s, n)
	}
	f.size -= len(n.data)
	n.data = append(kept, b...)
	f.size += len(n.data)
	f.stamp(n)
	return api.OK
}

// Mkdir makes a directory.
func (f *FS) Mkdir(p string) api.Errno {
	s, err := f.find(p)
	f = f.here()
	switch {
	case err != api.OK:
		return err
	case s.node != nil:
		return api.ErrThere
	case f.count >= f.nodes:
		return api.ErrFull
	}
	n := &node{}
	f.add(s, n)
	f.stamp(n)
	return api.OK
}

// Touch sets the time of a node; where there is none it makes an empty file.
func (f *FS) Touch(p string) api.Errno {
	s, err := f.find(p)
	switch {
	case err != api.OK:
		return err
	case s.node == nil:
		return f.Write(p, nil, true)
	case s.dir != nil:
		f.stamp(s.node)
	}
	return api.OK
}

// Remove removes a file or an empty directory.
func (f *FS) Remove(p string) api.Errno {
	s, err := f.present(p)
	switch {
	case err != api.OK:
		return err
	case s.dir == nil:
		return api.ErrArg
	case len(s.node.kids) > 0:
		return api.ErrUsed
	}
	f.drop(s)
	f.clock++
	return api.OK
}

// Move moves the node at a, with everything below it, to b.
func (f *FS) Move(a, b string) api.Errno {
	for _, p := range []string{a, b} {
		if _, err := path.Abs("/", p); err != api.OK {
			return err
		}
	}
	from, err := f.present(a)
	switch {
	case err != api.OK:
		return err
	case from.dir == nil:
		return api.ErrArg
	}
	to, err := f.find(b)
	switch {
	case err != api.OK:
		return err
	case slices.Equal(from.names, to.names):
		return api.OK
	}
	if err := movable(from, to, path.Within(a, b)); err != api.OK {
		return err
	}
	if to.node != nil {
		f.drop(to)
	}
	delete(from.dir.kids, from.name)
	to.dir.put(to.name, from.node)
	f.stamp(from.node)
	return api.OK
}

// movable tells why a node can't be moved to another place.
func movable(from, to spot, inside bool) api.Errno {
	switch {
	case to.dir == nil || inside:
		return api.ErrArg
	case to.node != nil && !to.node.file && from.node.file:
		return api.ErrDir
	case to.node != nil && to.node.file && !from.node.file:
		return api.ErrNotDir
	case to.node != nil && len(to.node.kids) > 0:
		return api.ErrUsed
	}
	depth, length := from.node.reach()
	for _, name := range to.names {
		depth++
		length += 1 + len(name)
	}
	if depth > api.MaxDepth || length > api.MaxPath {
		return api.ErrLong
	}
	return api.OK
}

// stamp counts a change, and makes n the node that was changed last.
func (f *FS) stamp(n *node) {
	f.clock++
	n.time = f.clock
}

func (f *FS) add(s spot, n *node) {
	s.dir.put(s.name, n)
	f.count++
}

func (f *FS) drop(s spot) {
	delete(s.dir.kids, s.name)
	f.count--
	f.size -= len(s.node.data)
}
