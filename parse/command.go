package parse

import (
	"quartermaster/api"
	"quartermaster/chars"
	"quartermaster/vars"
)

// command reads a command that is nested depth deep.
func (p *parser) command(depth int) (api.Node, api.Errno) {
	switch {
	case !p.begins():
		return api.Node{}, api.ErrSyntax
	case depth > api.MaxNest:
		return api.Node{}, api.ErrLong
	case p.isFunction():
		return p.function(depth)
	case !p.isCompound():
		return p.simple(depth)
	}
	n, err := p.compound(depth)
	for err == api.OK && p.isRedir() {
		err = p.redir(&n, depth)
	}
	return n, err
}

// isFunction reports whether the definition of a function comes next.
func (p *parser) isFunction() bool {
	if p.reserved() != "" || !vars.Name(p.plain()) || p.at+1 == len(p.tokens) {
		return false
	}
	next := p.tokens[p.at+1]
	return next.Kind == api.TOp && next.Text == "("
}

func (p *parser) function(depth int) (api.Node, api.Errno) {
	name := p.plain()
	p.at += 2
	if !p.takeOp(")") {
		return api.Node{}, api.ErrSyntax
	}
	p.newlines()
	if !p.isCompound() {
		return api.Node{}, api.ErrSyntax
	}
	body, err := p.command(depth + 1)
	return api.Node{Kind: api.CFunc, Name: name, Kids: []api.Node{body}}, err
}

// simple reads redirections, assignments and words.
func (p *parser) simple(depth int) (api.Node, api.Errno) {
	n := api.Node{Kind: api.CSimple}
elements:
	for {
		switch {
		case p.isRedir():
			if err := p.redir(&n, depth); err != api.OK {
				return n, err
			}
		case p.isWord():
			w, err := p.word(depth)
			if err != api.OK {
				return n, err
			}
			add(&n, w)
		default:
			break elements
		}
	}
	return n, api.OK
}

// add adds a word to a simple command, to the assignments if it is one.
func add(n *api.Node, w []api.Part) {
	if len(n.Words) == 0 {
		if a, ok := assignment(w); ok {
			n.Assigns = append(n.Assigns, a)
			return
		}
	}
	n.Words = append(n.Words, w)
}

// assignment returns the assignment that a word is, if it has the form of one.
// The word becomes a part of it.
func assignment(w []api.Part) (api.Assign, bool) {
	text := w[0].Text
	n := chars.Name(text)
	if w[0].Kind != api.PText || !vars.Name(text[:n]) || n == len(text) || text[n] != '=' {
		return api.Assign{}, false
	}
	a := api.Assign{Name: text[:n]}
	switch w[0].Text = text[n+1:]; {
	case w[0].Text != "":
		a.Word = w
	case len(w) > 1:
		a.Word = w[1:]
	}
	return a, true
}

// redir reads a redirection of n.
func (p *parser) redir(n *api.Node, depth int) api.Errno {
	op := p.op()
	p.at++
	w, err := p.word(depth)
	if err == api.OK {
		n.Redirs = append(n.Redirs, api.Redir{Op: op, Word: w})
	}
	return err
}

// word reads a word of a command that is nested depth deep.
func (p *parser) word(depth int) ([]api.Part, api.Errno) {
	if !p.isWord() {
		return nil, api.ErrSyntax
	}
	w, err := parts(p.token().Word, depth, 0)
	p.at++
	return w, err
}

// mostWords is how deep words may be nested in each other: far deeper than any
// tokens of a script, but not without an end, as in a word that has itself.
const mostWords = 10000

// parts copies the parts of a word, and examines the scripts in it.
func parts(w []api.Part, depth, nested int) ([]api.Part, api.Errno) {
	if nested > mostWords {
		return nil, api.ErrLong
	}
	if len(w) == 0 {
		return nil, api.OK
	}
	l := make([]api.Part, len(w))
	for i, x := range w {
		if x.Kind == api.PSub {
			if _, err := script(x.Text, depth+1); err != api.OK {
				return nil, err
			}
		}
		inner, err := parts(x.Word, depth, nested+1)
		if err != api.OK {
			return nil, err
		}
		x.Word = inner
		l[i] = x
	}
	return l, api.OK
}
