package layout

import (
	"strconv"

	"folio/api"
)

// list is a list that is open.
type list struct {
	numbered bool
	place    int // the margin where it began
	items    int // that have begun
}

// signs answers the signs of the marker of the item that has begun last.
func (l list) signs() string {
	if !l.numbered {
		return "*"
	}
	return strconv.Itoa(l.items) + "."
}

// marker is what stands ahead of an item's first line. It waits for that line.
type marker struct {
	signs string // none: no marker waits
	place int    // of the first of them
}

func (m *marker) waits() bool { return m.signs != "" }

// release answers the beginning of a line with the marker that waits, which waits no more then; nothing, if none waits.
func (m *marker) release() []api.Glyph {
	lead := blanks(m.place)
	for i := range len(m.signs) {
		lead = append(lead, api.Glyph{Text: m.signs[i : i+1], Wide: 1, Look: plain()})
	}
	*m = marker{}
	return lead
}
