package layout

import (
	"slices"

	"folio/api"
	"folio/style"
	"folio/table"
	"folio/text"
)

// The Texts of what parts words in a flow and is no blank.
const (
	tab     = "\t"
	newline = "\n"
)

// leastRoom is how many cells a margin leaves of a line.
const leastRoom = 4

// laying is a topic of which some operations have been laid out.
type laying struct {
	marker  // of an item that has no line so far
	width   int
	changes []api.Change // of the sheet's styles, with what they inherit
	lines   [][]api.Glyph
	more    bool // there were lines beyond MaxLines
	links   []api.Target
	link    int // that is open; 0: none
	looks   looks
	margin  int
	lists   [api.MaxDepth]list // that are open, the innermost last
	depth   int                // how many they are
	columns []api.Column       // of the table that is open; none: none is
	cells   [][]api.Glyph      // flows of its last row
	flow    []api.Glyph        // of the paragraph that is open
	ahead   api.OpKind         // the operation that was taken last
}

// begin answers a topic of which nothing has been laid out.
func begin(sheet []api.Style, width int) *laying {
	y := &laying{width: width}
	for _, s := range sheet { // once for all operations: to find a style's whole change is dear
		c, _ := style.Whole(sheet, s.Name)
		y.changes = append(y.changes, c)
	}
	y.looks.lay(plain(), false)
	return y
}

// take lays one operation out, the next one of a list that ir.Check takes.
func (y *laying) take(o api.Op) {
	switch o.Kind {
	case api.OpPara:
		y.beginPara(o.N)
	case api.OpText:
		y.putText(o.Text)
	case api.OpTab:
		y.put(tab, 1)
	case api.OpBreak:
		y.put(newline, 1)
	case api.OpStyle:
		y.looks.lay(y.styled(o.N), false)
	case api.OpLink:
		y.beginLink(api.Target{Kind: api.KindTopic, N: o.N})
	case api.OpNote:
		y.beginLink(api.Target{Kind: api.KindNote, N: o.N})
	case api.OpClose:
		y.close()
	case api.OpDone:
		y.endPara()
	case api.OpList:
		y.beginList(o.N)
	case api.OpItem:
		y.beginItem()
	case api.OpTable:
		y.columns, _ = table.Columns(o.Widths, y.width)
	case api.OpRow:
		y.tellRow()
	case api.OpEnd:
		y.end()
	}
	y.ahead = o.Kind
}

// tell lays a line of these parts behind the others, unless it would be cut off at the end.
func (y *laying) tell(parts ...[]api.Glyph) {
	if len(y.lines) == api.MaxLines {
		y.more = true
		return
	}
	y.lines = append(y.lines, slices.Concat(parts...))
}

// tellMarker tells a marker that waits as a line of its own.
func (y *laying) tellMarker() {
	if y.waits() {
		y.tell(y.release())
	}
}

func (y *laying) inTable() bool { return len(y.columns) > 0 }

// beginPara begins a paragraph. A marker never waits behind an OpDone, so that only a table can keep the empty line away.
func (y *laying) beginPara(n int) {
	if y.ahead == api.OpDone && !y.inTable() {
		y.tell()
	}
	y.flow = nil
	y.looks.lay(y.styled(n), false)
}

func (y *laying) endPara() {
	y.looks.takeOff()
	if y.inTable() {
		y.cells = append(y.cells, y.flow)
		return
	}
	lines, _ := table.Fill(y.flow, y.width-y.margin)
	if len(lines) == 0 {
		y.tellMarker()
	}
	margin := blanks(y.margin)
	for _, line := range lines {
		lead := y.release()
		y.tell(lead, margin[len(lead):], line)
	}
}

func (y *laying) putText(s string) {
	for _, c := range text.Cells(s) {
		y.put(c.Text, c.Wide)
	}
}

func (y *laying) put(s string, wide int) {
	y.flow = append(y.flow, api.Glyph{Text: s, Wide: wide, Look: y.looks.top(), Link: y.link})
}

// styled answers the top look as a style changes it; n below 0: no style does.
func (y *laying) styled(n int) api.Look {
	if n < 0 {
		return y.looks.top()
	}
	return style.Apply(y.looks.top(), y.changes[n])
}

func (y *laying) beginLink(to api.Target) {
	y.links = append(y.links, to)
	y.link = len(y.links)
	y.looks.lay(y.looks.top(), true)
}

func (y *laying) close() {
	if y.looks.takeOff() {
		y.link = 0
	}
}

func (y *laying) beginList(kind int) {
	y.tellMarker()
	y.lists[y.depth] = list{numbered: kind != 0, place: y.margin}
	y.depth++
}

func (y *laying) beginItem() {
	y.tellMarker()
	in := &y.lists[y.depth-1]
	in.items++
	signs := in.signs()
	y.margin = min(in.place+len(signs)+1, y.width-leastRoom)
	signs = signs[max(0, len(signs)-y.margin):]
	y.marker = marker{signs: signs, place: min(in.place, y.margin-len(signs))}
}

// tellRow tells a table's row, if one is open. One that ends has a cell at least, for a table has a column at least.
func (y *laying) tellRow() {
	if len(y.cells) == 0 {
		return
	}
	lines, _ := table.Row(y.columns, y.cells)
	for _, line := range lines {
		y.tell(line)
	}
	y.cells = nil
}

// end ends the table that is open, or else the innermost list.
func (y *laying) end() {
	if y.inTable() {
		y.tellRow()
		y.columns = nil
		return
	}
	y.tellMarker()
	y.depth--
	y.margin = y.lists[y.depth].place
}
