package exec

import "quartermaster/api"

// mostCopied is how many commands and parts a function may have: more than
// those of any script, but not without an end, as commands that have
// themselves.
const mostCopied = 1 << 20

// copier copies commands, until there are too many or they are too deep.
type copier struct{ left int }

func (c *copier) enter(depth int) bool {
	c.left--
	if depth > 2*mostDepth {
		c.left = -1
	}
	return c.left >= 0
}

func (c *copier) node(n api.Node, depth int) api.Node {
	if !c.enter(depth) {
		return api.Node{}
	}
	n.Words = c.words(n.Words, depth)
	n.Assigns = each(n.Assigns, func(a api.Assign) api.Assign {
		return api.Assign{Name: a.Name, Word: c.word(a.Word, depth)}
	})
	n.Redirs = each(n.Redirs, func(r api.Redir) api.Redir {
		return api.Redir{Op: r.Op, Word: c.word(r.Word, depth)}
	})
	n.Kids = c.nodes(n.Kids, depth)
	n.Arms = each(n.Arms, func(a api.Arm) api.Arm {
		return api.Arm{Pats: c.words(a.Pats, depth), Body: c.nodes(a.Body, depth)}
	})
	return n
}

func (c *copier) nodes(l []api.Node, depth int) []api.Node {
	return each(l, func(n api.Node) api.Node { return c.node(n, depth+1) })
}

func (c *copier) words(l [][]api.Part, depth int) [][]api.Part {
	return each(l, func(w []api.Part) []api.Part { return c.word(w, depth) })
}

func (c *copier) word(w []api.Part, depth int) []api.Part {
	return each(w, func(x api.Part) api.Part {
		if !c.enter(depth) {
			return api.Part{}
		}
		x.Word = c.word(x.Word, depth+1)
		return x
	})
}

// each returns what do makes of each element.
func each[T any](l []T, do func(T) T) []T {
	copied := make([]T, len(l))
	for i, x := range l {
		copied[i] = do(x)
	}
	return copied
}
