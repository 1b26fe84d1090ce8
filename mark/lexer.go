package mark

import (
	"folio/api"
	"folio/fault"
)

// place is where something stands; the zero place: nowhere.
type place struct{ line, col int }

// lexer takes lines one by one. What it keeps from one to the next is the paragraph that is open.
type lexer struct {
	tokens []api.Token
	line   int         // the number of the line that was taken last
	open   []api.Token // the braces that are open
	run    []byte      // characters of which no token has been made yet
	begin  place       // of the run
	gap    place       // of the blank that is a character if anything of the paragraph follows
	parts  bool        // a blank would part something here: not at a paragraph's begin, nor behind a brace's name
}

// take takes a line.
func (x *lexer) take(line string) error {
	if err := fit(line); err != nil {
		return err
	}
	switch {
	case blank(line):
		return x.between(api.Token{Kind: api.TokPara})
	case line[0] == '#':
		return nil
	case line[0] == '.':
		name, arg, err := directive(line)
		if err != nil {
			return err
		}
		return x.between(api.Token{Kind: api.TokDirective, Name: name, Text: arg})
	}
	return x.characters(line)
}

// characters takes those of a line of a paragraph, and its end.
func (x *lexer) characters(line string) error {
	next := 0 // behind what a character took with it: a brace its name, a backslash another character
	for i, r := range line {
		if i < next {
			continue
		}
		col := i + 1
		switch r {
		case ' ', '\t':
			x.blank(col)
		case '\\':
			sign, err := escaped(line[col:], col)
			if err != nil {
				return err
			}
			x.character(sign, col)
			next = col + len(sign)
		case '{':
			name, err := x.openBrace(line[col:], col)
			if err != nil {
				return err
			}
			next = col + len(name)
		case '}':
			if err := x.closeBrace(col); err != nil {
				return err
			}
		case '|':
			if len(x.open) > 0 {
				x.within(api.Token{Kind: api.TokBar}, col)
				break
			}
			fallthrough
		default:
			x.character(string(r), col)
		}
	}
	x.blank(len(line) + 1)
	return nil
}

func (x *lexer) openBrace(rest string, col int) (string, error) {
	name, err := brace(rest, col)
	if err != nil {
		return "", err
	}
	if len(x.open) == api.MaxNest {
		return "", wrong(api.ErrNest, col, name)
	}
	t := api.Token{Kind: api.TokOpen, Name: name, Line: x.line, Col: col}
	x.open = append(x.open, t)
	x.within(t, col)
	x.parts = false
	return name, nil
}

func (x *lexer) closeBrace(col int) error {
	last := len(x.open) - 1
	if last < 0 {
		return wrong(api.ErrClose, col, "")
	}
	x.open = x.open[:last]
	x.within(api.Token{Kind: api.TokClose}, col)
	return nil
}

// blank takes a blank or a line's end: of several side by side the first one stands for all.
func (x *lexer) blank(col int) {
	if x.parts && x.gap == (place{}) {
		x.gap = place{x.line, col}
	}
}

// character takes a character that is itself.
func (x *lexer) character(s string, col int) {
	x.fillGap()
	x.gather(s, place{x.line, col})
}

// within puts down a token that stands within a paragraph.
func (x *lexer) within(t api.Token, col int) {
	x.fillGap()
	x.put(t, col)
	x.parts = true
}

// between puts down a token that is a whole line, and ends a paragraph.
func (x *lexer) between(t api.Token) error {
	if err := x.endParagraph(); err != nil {
		return err
	}
	x.put(t, 1)
	return nil
}

func (x *lexer) endParagraph() error {
	if last := len(x.open) - 1; last >= 0 {
		t := x.open[last]
		return fault.New(api.ErrUnclosed, 0, t.Line, t.Col, t.Name)
	}
	x.endRun()
	x.gap, x.parts = place{}, false
	return nil
}

// fillGap makes a character of the blank ahead, for something follows it.
func (x *lexer) fillGap() {
	if x.gap != (place{}) {
		x.gather(" ", x.gap)
		x.gap = place{}
	}
}

func (x *lexer) gather(s string, at place) {
	if len(x.run) == 0 {
		x.begin = at
	}
	x.run = append(x.run, s...)
	x.parts = true
}

func (x *lexer) endRun() {
	if len(x.run) == 0 {
		return
	}
	x.tokens = append(x.tokens, api.Token{Kind: api.TokRun, Text: string(x.run), Line: x.begin.line, Col: x.begin.col})
	x.run = x.run[:0]
}

// put puts down a token that stands in the line that was taken last, behind the run that ends ahead of it.
func (x *lexer) put(t api.Token, col int) {
	x.endRun()
	t.Line, t.Col = x.line, col
	x.tokens = append(x.tokens, t)
}
