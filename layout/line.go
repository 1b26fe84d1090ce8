package layout

import (
	"slices"
	"strings"

	"folio/api"
)

// rectsOf answers where links stand in one line.
func rectsOf(row int, line []api.Glyph) []api.Rect {
	var rects []api.Rect
	col, ahead := 0, 0 // ahead: the Link of the glyph ahead
	for _, g := range line {
		if g.Link != 0 && g.Link != ahead {
			rects = append(rects, api.Rect{Row: row, Col: col, Link: g.Link})
		}
		if g.Link != 0 {
			rects[len(rects)-1].Wide += g.Wide
		}
		col += g.Wide
		ahead = g.Link
	}
	return rects
}

// within answers whether a cell is one of so many from the first on. How far it lies behind the first is held in a uint, for it
// may be more than an int holds, as may be the sum of first and wide.
func within(cell, first, wide int) bool {
	return cell >= first && wide > 0 && uint(cell)-uint(first) < uint(wide)
}

func textOf(line []api.Glyph) string {
	var b strings.Builder
	for _, g := range line {
		b.WriteString(g.Text)
	}
	return b.String()
}

// blanks answers so many blanks that no text has.
func blanks(n int) []api.Glyph {
	return slices.Repeat([]api.Glyph{{Text: " ", Wide: 1, Look: plain()}}, n)
}
