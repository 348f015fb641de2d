package parse

import (
	"quartermaster/api"
)

// parser reads tokens from the left.
type parser struct {
	tokens []api.Token
	at     int
}

func (p *parser) atEnd() bool {
	return p.at == len(p.tokens)
}

// token returns the token that comes next; at the end it has no kind.
func (p *parser) token() api.Token {
	if p.atEnd() {
		return api.Token{}
	}
	return p.tokens[p.at]
}

// op returns the operator that comes next, or nothing.
func (p *parser) op() string {
	if t := p.token(); t.Kind == api.TOp {
		return t.Text
	}
	return ""
}

// plain returns the text of the unquoted word that comes next, or nothing.
func (p *parser) plain() string {
	t := p.token()
	if t.Kind == api.TWord && len(t.Word) == 1 && t.Word[0].Kind == api.PText {
		return t.Word[0].Text
	}
	return ""
}

// reserved returns the reserved word that comes next, or nothing.
func (p *parser) reserved() string {
	switch s := p.plain(); s {
	case "if", "then", "elif", "else", "fi", "while", "until", "do", "done", "for", "in", "case", "esac", "{", "}", "!":
		return s
	}
	return ""
}

// takeOp goes past an operator, if it comes next.
func (p *parser) takeOp(op string) bool {
	if p.op() != op {
		return false
	}
	p.at++
	return true
}

// takeReserved goes past a reserved word, if it comes next.
func (p *parser) takeReserved(word string) bool {
	if p.reserved() != word {
		return false
	}
	p.at++
	return true
}

// need is takeReserved of a word that must come next.
func (p *parser) need(word string) api.Errno {
	if !p.takeReserved(word) {
		return api.ErrSyntax
	}
	return api.OK
}

func (p *parser) newlines() {
	for p.takeOp("\n") {
	}
}

// isWord reports whether a word comes next.
func (p *parser) isWord() bool {
	t := p.token()
	return t.Kind == api.TWord && len(t.Word) > 0
}

// isRedir reports whether a redirection comes next.
func (p *parser) isRedir() bool {
	switch p.op() {
	case "<", ">", ">>", "2>", "2>>":
		return true
	}
	return false
}

// isCompound reports whether a command comes next that is neither simple nor
// the definition of a function.
func (p *parser) isCompound() bool {
	switch p.reserved() {
	case "if", "while", "until", "for", "case", "{":
		return true
	}
	return p.op() == "("
}

// begins reports whether what comes next can begin a command.
func (p *parser) begins() bool {
	return p.isCompound() || p.isRedir() || p.isWord() && p.reserved() == ""
}
