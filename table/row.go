package table

import (
	"slices"

	"folio/api"
)

// plainColor is the color of the plain look.
const plainColor = 7

// standApart answers whether columns may be those of a row.
func standApart(columns []api.Column) bool {
	end := 0 // of the one ahead
	for _, c := range columns {
		if !within(c.Wide, 1, api.MaxWidth) || !within(c.At, end, api.MaxWidth-c.Wide) {
			return false
		}
		end = c.At + c.Wide
	}
	return true
}

// putBeside puts a column's lines behind what a row has of the columns ahead of it.
func putBeside(row, lines [][]api.Glyph, at int) [][]api.Glyph {
	if more := len(lines) - len(row); more > 0 {
		row = append(row, make([][]api.Glyph, more)...)
	}
	plain := blankLike(api.Glyph{Look: api.Look{Color: plainColor}})
	for i, line := range lines {
		gap := slices.Repeat([]api.Glyph{plain}, at-Wide(row[i]))
		row[i] = slices.Concat(row[i], gap, line)
	}
	return row
}
