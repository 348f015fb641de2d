package parse

import (
	"quartermaster/api"
	"quartermaster/vars"
)

// compound reads a command that is neither simple nor the definition of a
// function, without its redirections.
func (p *parser) compound(depth int) (api.Node, api.Errno) {
	switch {
	case p.takeOp("("):
		n, err := p.inner(depth)
		if err == api.OK && !p.takeOp(")") {
			err = api.ErrSyntax
		}
		return api.Node{Kind: api.CShell, Kids: []api.Node{n}}, err
	case p.takeReserved("{"):
		n, err := p.enclosed("}", depth)
		return api.Node{Kind: api.CGroup, Kids: []api.Node{n}}, err
	case p.takeReserved("if"):
		return p.choice(depth)
	case p.takeReserved("while"):
		return p.loop(api.CWhile, depth)
	case p.takeReserved("until"):
		return p.loop(api.CUntil, depth)
	case p.takeReserved("for"):
		return p.each(depth)
	case p.takeReserved("case"):
		return p.cases(depth)
	}
	return api.Node{}, api.ErrSyntax
}

// enclosed reads a list and the reserved word behind it.
func (p *parser) enclosed(end string, depth int) (api.Node, api.Errno) {
	n, err := p.inner(depth)
	if err == api.OK {
		err = p.need(end)
	}
	return n, err
}

// choice reads what stands behind if.
func (p *parser) choice(depth int) (api.Node, api.Errno) {
	n := api.Node{Kind: api.CIf}
branches:
	for {
		condition, err := p.enclosed("then", depth)
		if err != api.OK {
			return n, err
		}
		body, err := p.inner(depth)
		if err != api.OK {
			return n, err
		}
		n.Kids = append(n.Kids, condition, body)
		switch {
		case p.takeReserved("elif"):
			continue branches
		case p.takeReserved("else"):
			body, err := p.enclosed("fi", depth)
			n.Kids = append(n.Kids, body)
			return n, err
		default:
			break branches
		}
	}
	return n, p.need("fi")
}

// loop reads what stands behind while and until.
func (p *parser) loop(kind, depth int) (api.Node, api.Errno) {
	condition, err := p.enclosed("do", depth)
	if err != api.OK {
		return api.Node{}, err
	}
	body, err := p.enclosed("done", depth)
	return api.Node{Kind: kind, Kids: []api.Node{condition, body}}, err
}

// each reads what stands behind for.
func (p *parser) each(depth int) (api.Node, api.Errno) {
	n := api.Node{Kind: api.CFor, Name: p.plain()}
	if !vars.Name(n.Name) {
		return n, api.ErrSyntax
	}
	p.at++
	p.newlines()
	if p.takeReserved("in") {
		for p.isWord() {
			w, err := p.word(depth)
			if err != api.OK {
				return n, err
			}
			n.Words = append(n.Words, w)
		}
		if !p.takeOp(";") && !p.takeOp("\n") {
			return n, api.ErrSyntax
		}
	} else {
		n.Words = [][]api.Part{{{Kind: api.PVar, Name: "@", Quoted: true}}}
		p.takeOp(";")
	}
	p.newlines()
	if err := p.need("do"); err != api.OK {
		return n, err
	}
	body, err := p.enclosed("done", depth)
	n.Kids = []api.Node{body}
	return n, err
}

// cases reads what stands behind case.
func (p *parser) cases(depth int) (api.Node, api.Errno) {
	w, err := p.word(depth)
	if err != api.OK {
		return api.Node{}, err
	}
	n := api.Node{Kind: api.CCase, Words: [][]api.Part{w}}
	p.newlines()
	if err := p.need("in"); err != api.OK {
		return n, err
	}
	p.newlines()
	for !p.takeReserved("esac") {
		arm, last, err := p.arm(depth)
		if err != api.OK {
			return n, err
		}
		n.Arms = append(n.Arms, arm)
		if last {
			return n, p.need("esac")
		}
	}
	return n, api.OK
}

// arm reads an arm of a case, and tells whether it must be the last one.
func (p *parser) arm(depth int) (a api.Arm, last bool, err api.Errno) {
	p.takeOp("(")
	for {
		w, err := p.word(depth)
		if err != api.OK {
			return a, false, err
		}
		a.Pats = append(a.Pats, w)
		if !p.takeOp("|") {
			break
		}
	}
	if !p.takeOp(")") {
		return a, false, api.ErrSyntax
	}
	p.newlines()
	if p.op() != ";;" && p.reserved() != "esac" {
		body, err := p.list(depth + 1)
		if err != api.OK {
			return a, false, err
		}
		a.Body = []api.Node{body}
	}
	last = !p.takeOp(";;")
	p.newlines()
	return a, last, api.OK
}
