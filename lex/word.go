package lex

import (
	"strings"

	"quartermaster/api"
)

// Where a word, or what stands between ", ends.
const (
	atEnd       = iota // of the script
	atSeparator        // or at the end
	atBrace            // at the } that closes a ${
	atQuote            // at the " that closes it
)

// word reads a word up to its end. quoted: it stands in a ${ between "; depth:
// how many ${ are around it.
func (r *reader) word(end int, quoted bool, depth int) ([]api.Part, api.Errno) {
	var p parts
	if err := r.read(&p, end, quoted, depth); err != api.OK {
		return nil, err
	}
	return p.all(), api.OK
}

// read reads up to an end, which it leaves to the caller. What is quoted has
// the same rules directly between " and in a ${ there.
func (r *reader) read(p *parts, end int, quoted bool, depth int) api.Errno {
	kind := api.PText
	if quoted {
		kind = api.PQuote
	}
	err := api.OK
bytes:
	for r.at < len(r.s) && err == api.OK {
		c := r.s[r.at]
		switch {
		case ends(end, c):
			break bytes
		case c == '\\':
			r.escape(p, quoted)
		case c == '\'' && !quoted:
			err = r.single(p)
		case c == '"' && !quoted:
			err = r.double(p, depth)
		case c == '$':
			err = r.dollar(p, quoted, depth)
		case c == '"', c == '`':
			err = api.ErrSyntax
		default:
			p.put(kind, r.s[r.at:r.at+1])
			r.at++
		}
	}
	return err
}

// ends reports whether c is what an end is at.
func ends(end int, c byte) bool {
	switch end {
	case atSeparator:
		return separates(c)
	case atBrace:
		return c == '}'
	case atQuote:
		return c == '"'
	}
	return false
}

// escape reads a \ and the byte after it, unless the \ is itself: what is
// quoted has few bytes that a \ does anything to.
func (r *reader) escape(p *parts, quoted bool) {
	next := r.s[r.at+1 : min(r.at+2, len(r.s))]
	if quoted && !strings.Contains("$\"\\`\n", next) {
		next = ""
	}
	r.at += 1 + len(next)
	switch next {
	case "":
		p.put(api.PQuote, `\`)
	case "\n":
	default:
		p.put(api.PQuote, next)
	}
}

// single reads what stands between '.
func (r *reader) single(p *parts) api.Errno {
	text, _, ok := strings.Cut(r.s[r.at+1:], "'")
	if !ok {
		return api.ErrSyntax
	}
	p.quotes = true
	p.put(api.PQuote, text)
	r.at += len(text) + 2
	return api.OK
}

// double reads what stands between ".
func (r *reader) double(p *parts, depth int) api.Errno {
	p.quotes = true
	r.at++
	if err := r.read(p, atQuote, true, depth); err != api.OK {
		return err
	}
	if r.rest() == "" {
		return api.ErrSyntax
	}
	r.at++
	return api.OK
}
