package src

import (
	"slices"

	"folio/api"
)

// paragraph is one whose tokens are taken one behind the other.
type paragraph struct {
	pieces []api.Inline
	open   []api.InlineKind // the pieces whose InClose has not come yet, the innermost last
}

// pieces answers those of a paragraph; it throws the first fault.
func pieces(tokens []api.Token) []api.Inline {
	var p paragraph
	for len(tokens) > 0 {
		tokens = tokens[p.take(tokens):]
	}
	return p.pieces
}

// take takes the first of the tokens with those that belong to it, and answers how many they are.
func (p *paragraph) take(l []api.Token) int {
	t := l[0]
	switch t.Kind {
	case api.TokOpen:
		return p.brace(l)
	case api.TokRun:
		p.put(api.Inline{Kind: api.InText, Text: t.Text}, t)
	case api.TokClose:
		p.close(t)
	default:
		must(false, api.ErrBrace, t)
	}
	return 1
}

// brace takes an opening brace with those that belong to it.
func (p *paragraph) brace(l []api.Token) int {
	switch t := l[0]; t.Name {
	case "tab":
		return p.sign(api.InTab, l)
	case "br":
		return p.sign(api.InBreak, l)
	case "link":
		return p.link(api.InLink, l)
	case "note":
		return p.link(api.InNote, l)
	default:
		p.enter(api.InStyle, t.Name, t)
		return 1
	}
}

// sign takes a brace that has nothing within.
func (p *paragraph) sign(kind api.InlineKind, l []api.Token) int {
	must(kindAt(l, 1) == api.TokClose, api.ErrBrace, l[0])
	p.put(api.Inline{Kind: kind}, l[0])
	return 2
}

// link takes a link's or a note's brace, its name, and the bar or the closing brace behind.
func (p *paragraph) link(kind api.InlineKind, l []api.Token) int {
	must(!p.linked() && kindAt(l, 1) == api.TokRun, api.ErrBrace, l[0])
	name := joined(l[1].Text)
	ahead := kindAt(l, 2)
	must(fits(name, api.MaxName) && (ahead == api.TokBar || ahead == api.TokClose), api.ErrBrace, l[0])
	p.enter(kind, name, l[0])
	if ahead == api.TokClose {
		p.put(api.Inline{Kind: api.InText, Text: name}, l[1])
		p.close(l[2])
	}
	return 3
}

// linked answers whether a link or a note is open.
func (p *paragraph) linked() bool {
	found := false
look:
	for _, kind := range slices.Backward(p.open) {
		switch kind {
		case api.InLink, api.InNote:
			found = true
			break look
		}
	}
	return found
}

// enter puts down a piece that stays open.
func (p *paragraph) enter(kind api.InlineKind, name string, t api.Token) {
	p.put(api.Inline{Kind: kind, Name: name}, t)
	p.open = append(p.open, kind)
}

// close closes the piece that was opened last.
func (p *paragraph) close(t api.Token) {
	p.put(api.Inline{Kind: api.InClose}, t)
	p.open = p.open[:len(p.open)-1]
}

// put puts down a piece, at the place of a token.
func (p *paragraph) put(piece api.Inline, t api.Token) {
	piece.Line, piece.Col = t.Line, t.Col
	p.pieces = append(p.pieces, piece)
}

// kindAt answers the kind of a token; 0: there is none.
func kindAt(l []api.Token, i int) int {
	if i < len(l) {
		return l[i].Kind
	}
	return 0
}
