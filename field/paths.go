package field

import (
	"cmp"
	"slices"
	"strings"

	"quartermaster/api"
	"quartermaster/glob"
	"quartermaster/path"
	"quartermaster/vfs"
)

// found is a node on the way of a pattern: its path as the pattern writes it,
// and where it is.
type found struct{ written, at string }

// Paths returns the paths of the nodes that match the pattern of a field, or
// the field itself.
func Paths(f *vfs.FS, cwd string, l []api.Part) []string {
	p := Pattern(l)
	if s, ok := glob.Plain(p); ok {
		return []string{s}
	}
	start := found{written: "/", at: "/"}
	if !strings.HasPrefix(p, "/") {
		at, err := path.Abs("/", cwd)
		if err != api.OK {
			return []string{Text(l)}
		}
		start = found{at: at}
	}
	names := slices.DeleteFunc(strings.Split(p, "/"), func(name string) bool { return name == "" })
	nodes := []found{start}
search:
	for i, name := range names {
		var next []found
		for _, dir := range nodes {
			next = append(next, matching(f, dir, name, i < len(names)-1)...)
		}
		slices.SortFunc(next, func(a, b found) int { return cmp.Compare(a.written, b.written) })
		nodes = next[:min(len(next), api.MaxFields)]
		if len(nodes) == 0 {
			break search
		}
	}
	if len(nodes) == 0 {
		return []string{Text(l)}
	}
	paths := make([]string, len(nodes))
	for i, x := range nodes {
		paths[i] = x.written
	}
	return paths
}

// matching returns what a name stands for in a directory.
func matching(f *vfs.FS, dir found, name string, onlyDirs bool) []found {
	switch s, _ := glob.Plain(name); s {
	case ".":
		return []found{{dir.below(".").written, dir.at}}
	case "..":
		return []found{{dir.below("..").written, path.Dir(dir.at)}}
	}
	all, err := f.List(dir.at)
	if err != api.OK {
		return nil
	}
	var l []found
	for _, s := range glob.Names(name, all) {
		if x := dir.below(s); !onlyDirs || f.Kind(x.at) == 2 {
			l = append(l, x)
		}
	}
	return l
}

// below returns the node with the given name in a directory.
func (d found) below(name string) found {
	x := found{written: d.written + "/" + name, at: d.at + "/" + name}
	if d.written == "" || d.written == "/" {
		x.written = d.written + name
	}
	if d.at == "/" {
		x.at = "/" + name
	}
	return x
}
