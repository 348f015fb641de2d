package lex

import "quartermaster/api"

// parts collects the parts of a word. Bytes of the same kind that follow one
// another become a single part.
type parts struct {
	list  []api.Part
	kind  int // of the bytes that are no part yet
	bytes []byte
	// quotes: there were quotation marks, so that the word is one even if
	// there is nothing between them.
	quotes bool
}

// put adds bytes of a PText or a PQuote.
func (p *parts) put(kind int, s string) {
	if s == "" {
		return
	}
	if kind != p.kind {
		p.flush()
	}
	p.kind = kind
	p.bytes = append(p.bytes, s...)
}

// add adds a part of another kind.
func (p *parts) add(x api.Part) {
	p.flush()
	p.list = append(p.list, x)
}

func (p *parts) flush() {
	if len(p.bytes) > 0 {
		p.list = append(p.list, api.Part{Kind: p.kind, Text: string(p.bytes)})
	}
	p.bytes = p.bytes[:0]
}

func (p *parts) all() []api.Part {
	p.flush()
	if len(p.list) == 0 && p.quotes {
		p.list = []api.Part{{Kind: api.PQuote}}
	}
	return p.list
}
