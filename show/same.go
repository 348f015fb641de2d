package show

import "quartermaster/api"

// Same reports whether a and b are the same commands.
func Same(a, b []api.Node) bool {
	c := comparison{same: true, nodesSeen: map[span[api.Node]]int{}, partsSeen: map[span[api.Part]]int{}}
	c.nodes(a, b)
compare:
	for c.same {
		switch {
		case len(c.openNodes) > 0:
			next := c.openNodes[len(c.openNodes)-1]
			c.openNodes = c.openNodes[:len(c.openNodes)-1]
			for i := range next.a {
				c.node(&next.a[i], &next.b[i])
			}
		case len(c.openParts) > 0:
			next := c.openParts[len(c.openParts)-1]
			c.openParts = c.openParts[:len(c.openParts)-1]
			for i := range next.a {
				c.part(&next.a[i], &next.b[i])
			}
		default:
			break compare
		}
	}
	return c.same
}

// both is two lists of the same length that are yet to be compared.
type both[T any] struct{ a, b []T }

// span is where two such lists lie.
type span[T any] struct {
	a, b *T
	n    int
}

// comparison holds the lists that are yet to be compared, and notes those
// that needn't be a second time: commands may have themselves.
type comparison struct {
	same      bool
	openNodes []both[api.Node]
	openParts []both[api.Part]
	nodesSeen map[span[api.Node]]int
	partsSeen map[span[api.Part]]int
}

// again notes that two lists are compared, and reports whether they were
// before.
func again[T any](seen map[span[T]]int, a, b []T) bool {
	key := span[T]{&a[0], &b[0], len(a)}
	seen[key]++
	return seen[key] > 1
}

func (c *comparison) nodes(a, b []api.Node) {
	c.alike(len(a) == len(b))
	if c.same && len(a) > 0 && !again(c.nodesSeen, a, b) {
		c.openNodes = append(c.openNodes, both[api.Node]{a, b})
	}
}

func (c *comparison) parts(a, b []api.Part) {
	c.alike(len(a) == len(b))
	if c.same && len(a) > 0 && !again(c.partsSeen, a, b) {
		c.openParts = append(c.openParts, both[api.Part]{a, b})
	}
}

func (c *comparison) words(a, b [][]api.Part) {
	c.alike(len(a) == len(b))
	for i := 0; c.same && i < len(a); i++ {
		c.parts(a[i], b[i])
	}
}

// alike notes a difference, if there is one.
func (c *comparison) alike(is bool) {
	c.same = c.same && is
}

func (c *comparison) node(a, b *api.Node) {
	c.alike(a.Kind == b.Kind && a.Not == b.Not && a.Name == b.Name)
	c.alike(len(a.Assigns) == len(b.Assigns) && len(a.Redirs) == len(b.Redirs) && len(a.Arms) == len(b.Arms))
	if !c.same {
		return
	}
	c.words(a.Words, b.Words)
	for i, x := range a.Assigns {
		c.alike(x.Name == b.Assigns[i].Name)
		c.parts(x.Word, b.Assigns[i].Word)
	}
	for i, x := range a.Redirs {
		c.alike(x.Op == b.Redirs[i].Op)
		c.parts(x.Word, b.Redirs[i].Word)
	}
	for i, x := range a.Arms {
		c.words(x.Pats, b.Arms[i].Pats)
		c.nodes(x.Body, b.Arms[i].Body)
	}
	c.nodes(a.Kids, b.Kids)
}

func (c *comparison) part(a, b *api.Part) {
	c.alike(a.Kind == b.Kind && a.Text == b.Text && a.Name == b.Name && a.Op == b.Op && a.Quoted == b.Quoted)
	c.parts(a.Word, b.Word)
}
