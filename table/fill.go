package table

import (
	"slices"

	"folio/api"
)

// The Texts that mean something.
const (
	blank   = " "
	tab     = "\t"
	newline = "\n"
)

// tooWide is put down in the place of a sign that is wider than a line.
const tooWide = "?"

// filling is a flow of which some glyphs have come to stand in lines.
type filling struct {
	wide    int           // of a line, at most
	lines   [][]api.Glyph // that were told
	line    []api.Glyph   // that is being filled
	used    int           // its Wide
	waiting []api.Glyph   // the blank that waits, if one does
}

// take takes what a flow begins with, a word as a whole, and answers how many glyphs that is.
func (f *filling) take(flow []api.Glyph) int {
	switch g := flow[0]; g.Text {
	case blank:
		f.wait(g)
	case tab:
		stop := f.used/api.TabStop*api.TabStop + api.TabStop
		if stop < f.wide {
			f.goOn(g, stop)
			break
		}
		fallthrough // where no stop is left on the line a tab does what a break does
	case newline:
		f.end()
	default:
		word := beginning(flow)
		f.putWord(word)
		return len(word)
	}
	return 1
}

func (f *filling) wait(g api.Glyph) {
	if len(f.line) > 0 && len(f.waiting) == 0 {
		f.waiting = []api.Glyph{blankLike(g)}
	}
}

// goOn fills the line up to a stop with blanks that look like the tab.
func (f *filling) goOn(g api.Glyph, stop int) {
	f.waiting = nil
	for f.used < stop {
		f.put(blankLike(g))
	}
}

// putWord puts a word on the line, if it fits there, else on lines of its own.
func (f *filling) putWord(word []api.Glyph) {
	if f.used+Wide(f.waiting)+f.wideOf(word) > f.wide {
		f.endUsed()
	}
	for _, g := range f.waiting {
		f.put(g)
	}
	f.waiting = nil
lineByLine:
	for {
		for i, g := range word {
			g = f.fitting(g)
			if f.used+g.Wide > f.wide {
				f.end()
				word = word[i:]
				continue lineByLine
			}
			f.put(g)
		}
		return
	}
}

func (f *filling) put(g api.Glyph) {
	f.line = append(f.line, g)
	f.used += g.Wide
}

// end ends the line, empty or not.
func (f *filling) end() {
	f.lines = append(f.lines, f.line)
	f.line, f.used, f.waiting = nil, 0, nil
}

// endUsed ends the line, unless it is empty.
func (f *filling) endUsed() {
	if len(f.line) > 0 {
		f.end()
	}
}

func (f *filling) wideOf(word []api.Glyph) int {
	wide := 0
	for _, g := range word {
		wide += f.fitting(g).Wide
	}
	return wide
}

// fitting is a sign as it is put down: one that no line could take has another in its place.
func (f *filling) fitting(g api.Glyph) api.Glyph {
	if g.Wide > f.wide {
		g.Text, g.Wide = tooWide, 1
	}
	return g
}

// beginning is the word that a flow begins with.
func beginning(flow []api.Glyph) []api.Glyph {
	end := slices.IndexFunc(flow, isNoSign)
	if end < 0 {
		return flow
	}
	return flow[:end]
}

func isNoSign(g api.Glyph) bool { return g.Text == blank || g.Text == tab || g.Text == newline }

func mayNotBe(g api.Glyph) bool { return !isNoSign(g) && (g.Text == "" || !within(g.Wide, 1, 2)) }

// blankLike is the blank that a line gets for a blank or a tab, whose own Wide counts for nothing.
func blankLike(g api.Glyph) api.Glyph {
	return api.Glyph{Text: blank, Wide: 1, Look: g.Look, Link: g.Link}
}
