package layout_test

import (
	"slices"
	"strconv"
	"strings"
	"testing"

	"folio/api"
	"folio/ir"
	"folio/layout"
	"folio/style"
	"folio/table"
	words "folio/text"
)

// A second reckoning of 13.1: block by block, each with what stands in it, by the margin that is handed down to it.

type reckoner struct {
	sheet []api.Style
	width int
	l     []api.Op
	at    int // the operation that comes next
	links []api.Target
}

func (r *reckoner) next() api.OpKind {
	if r.at == len(r.l) {
		return 0
	}
	return r.l[r.at].Kind
}

func (r *reckoner) take() api.Op {
	r.at++
	return r.l[r.at-1]
}

// flow answers a paragraph's glyphs: the look of each is the nesting of all that is open there.
func (r *reckoner) flow() []api.Glyph {
	var flow []api.Glyph
	open, link := []api.Op{r.take()}, 0
	put := func(s string, wide int) {
		var nest []string
		for _, o := range open {
			if (o.Kind == api.OpStyle || o.Kind == api.OpPara) && o.N >= 0 {
				nest = append(nest, r.sheet[o.N].Name)
			}
		}
		look, _, _ := style.Nest(r.sheet, nest)
		flow = append(flow, api.Glyph{Text: s, Wide: wide, Look: look, Link: link})
	}
	for len(open) > 0 {
		switch o := r.take(); o.Kind {
		case api.OpText:
			for _, c := range words.Cells(o.Text) {
				put(c.Text, c.Wide)
			}
		case api.OpTab:
			put("\t", 1)
		case api.OpBreak:
			put("\n", 1)
		case api.OpStyle:
			open = append(open, o)
		case api.OpLink, api.OpNote:
			open = append(open, o)
			r.links = append(r.links, api.Target{Kind: int(o.Kind - api.OpLink), N: o.N})
			link = len(r.links)
		default: // an OpClose, an OpDone
			if open[len(open)-1].Kind != api.OpStyle {
				link = 0
			}
			open = open[:len(open)-1]
		}
	}
	return flow
}

func plainText(s string) []api.Glyph { return glyphs(s, plain, 0) }

func pad(n int) []api.Glyph { return plainText(strings.Repeat(" ", n)) }

// blocks answers the lines of all blocks up to an item, an end, or the last operation; lead: how the first of them begins, if it
// isn't just the margin.
func (r *reckoner) blocks(margin int, lead []api.Glyph) [][]api.Glyph {
	var lines [][]api.Glyph
	if lead != nil && r.next() != api.OpPara {
		lines = append(lines, lead)
	}
	behind := false // a paragraph
	for {
		kind := r.next()
		switch kind {
		case api.OpPara:
			if behind {
				lines = append(lines, nil)
			}
			lines = append(lines, r.paragraph(margin, lead)...)
		case api.OpList:
			lines = append(lines, r.list(margin)...)
		case api.OpTable:
			lines = append(lines, r.table()...)
		default:
			return lines
		}
		lead, behind = nil, kind == api.OpPara
	}
}

func (r *reckoner) paragraph(margin int, lead []api.Glyph) [][]api.Glyph {
	filled, _ := table.Fill(r.flow(), r.width-margin)
	if lead != nil && len(filled) == 0 {
		return [][]api.Glyph{lead}
	}
	var lines [][]api.Glyph
	for _, l := range filled {
		lines = append(lines, line(lead, pad(margin-len(lead)), l))
		lead = nil
	}
	return lines
}

func (r *reckoner) list(place int) [][]api.Glyph {
	var lines [][]api.Glyph
	numbered := r.take().N == 1
	for n := 1; r.next() == api.OpItem; n++ {
		r.take()
		signs := "*"
		if numbered {
			signs = strconv.Itoa(n) + "."
		}
		margin := min(place+len(signs)+1, r.width-4)
		before := min(place, margin-len(signs))
		lines = append(lines, r.blocks(margin, line(pad(before), plainText(signs)))...)
	}
	r.take()
	return lines
}

func (r *reckoner) table() [][]api.Glyph {
	var lines [][]api.Glyph
	columns, _ := table.Columns(r.take().Widths, r.width)
	for r.next() == api.OpRow {
		r.take()
		var cells [][]api.Glyph
		for range columns {
			cells = append(cells, r.flow())
		}
		row, _ := table.Row(columns, cells)
		lines = append(lines, row...)
	}
	r.take()
	return lines
}

// reckonedRects puts cells with one link together.
func reckonedRects(lines [][]api.Glyph) []api.Rect {
	var rects []api.Rect
	for row, l := range lines {
		var links []int // of the cells
		for _, g := range l {
			links = append(links, slices.Repeat([]int{g.Link}, g.Wide)...)
		}
		for col, n := range links {
			if n != 0 && (col == 0 || links[col-1] != n) {
				end := slices.IndexFunc(append(links[col:], 0), func(m int) bool { return m != n })
				rects = append(rects, api.Rect{Row: row, Col: col, Wide: end, Link: n})
			}
		}
	}
	return rects
}

func reckoned(sheet []api.Style, l []api.Op, width int) api.Laid {
	r := reckoner{sheet: sheet, width: width, l: l}
	lines := r.blocks(0, nil)
	kept := lines[:min(len(lines), api.MaxLines)]
	return api.Laid{Lines: kept, Rects: reckonedRects(kept), Links: r.links, More: len(lines) > len(kept)}
}

// wantAsReckoned asks for P13.1, P13.6 and P13.7 of operations.
func wantAsReckoned(t *testing.T, sheet []api.Style, l []api.Op, width int) api.Laid {
	t.Helper()
	d, e := layout.Layout(sheet, l, 10, width)
	if so := reckoned(sheet, l, width); e != api.OK || !layout.Same(d, so) {
		t.Fatalf("Layout of %v at %d: %v, %d, want %v", l, width, d, e, so)
	}
	wantFits(t, l, d, width)
	wantClicks(t, d)
	return d
}

// wantFits asks for P13.6.
func wantFits(t *testing.T, l []api.Op, d api.Laid, width int) {
	t.Helper()
	if len(d.Lines) > api.MaxLines {
		t.Fatalf("Layout of %v at %d: %d lines", l, width, len(d.Lines))
	}
	for _, line := range d.Lines {
		if table.Wide(line) > width {
			t.Fatalf("Layout of %v at %d: %q is too wide", l, width, layout.Show(d))
		}
	}
	for n, r := range d.Rects {
		if r.Row < 0 || r.Row >= len(d.Lines) || r.Col < 0 || r.Wide < 1 || r.Col+r.Wide > table.Wide(d.Lines[r.Row]) || r.Link < 1 || r.Link > len(d.Links) {
			t.Fatalf("Layout of %v at %d: the rect %v lies in no line of %q, or has no link", l, width, r, layout.Show(d))
		}
		if n > 0 && (r.Row < d.Rects[n-1].Row || r.Row == d.Rects[n-1].Row && r.Col < d.Rects[n-1].Col+d.Rects[n-1].Wide) {
			t.Fatalf("Layout of %v at %d: the rect %v stands ahead of %v", l, width, d.Rects[n-1], r)
		}
	}
	if len(ir.Links(l)) != len(d.Links) {
		t.Fatalf("Layout of %v at %d: the links are %v", l, width, d.Links)
	}
}

// wantClicks asks for P13.7, and for no hit beside the lines.
func wantClicks(t *testing.T, d api.Laid) {
	t.Helper()
	click := func(row, col, link int) {
		if n, ok := layout.Hit(d, row, col); n != link || ok != (link != 0) {
			t.Fatalf("Hit of %q, %v, at %d, %d: %d, %t, want %d", layout.Show(d), d.Rects, row, col, n, ok, link)
		}
	}
	for row, line := range d.Lines {
		col := 0
		click(row, -1, 0)
		for _, g := range line {
			for range g.Wide {
				click(row, col, g.Link)
				col++
			}
		}
		click(row, col, 0)
	}
	click(-1, 0, 0)
	click(len(d.Lines), 0, 0)
}

// All short lists of operations.

// eachList hands over all lists of up to so many of these operations that ir.Check takes.
func eachList(next []api.Op, most int, try func(l []api.Op)) {
	var grow func(l []api.Op)
	grow = func(l []api.Op) {
		at, e := ir.Check(l, len(sheet()), 10)
		if e == api.OK {
			try(slices.Clone(l))
		} else if at < len(l) {
			return
		}
		if len(l) < most {
			for _, o := range next {
				grow(append(l, o))
			}
		}
	}
	grow(nil)
}

// kinds is an operation of each kind.
func kinds() []api.Op {
	return []api.Op{
		text("aa \u4e2d\u4e2d bbb"), opN(api.OpStyle, 2), opN(api.OpLink, 1), opN(api.OpNote, 2), op(api.OpClose), op(api.OpTab), op(api.OpBreak),
		opN(api.OpPara, -1), op(api.OpDone), opN(api.OpList, 1), op(api.OpItem), {Kind: api.OpTable, Widths: []int{0}}, op(api.OpRow), op(api.OpEnd),
	}
}

// behind answers which operations may stand behind one of that Kind, by 11.3; behind none: all that may begin a list.
func behind(kind api.OpKind) []api.OpKind {
	inPara := []api.OpKind{api.OpText, api.OpStyle, api.OpLink, api.OpNote, api.OpClose, api.OpTab, api.OpBreak, api.OpDone}
	block := []api.OpKind{api.OpPara, api.OpList, api.OpTable}
	switch kind {
	case 0:
		return block
	case api.OpPara:
		return slices.DeleteFunc(inPara, func(k api.OpKind) bool { return k == api.OpClose })
	case api.OpText:
		return inPara[1:]
	case api.OpLink, api.OpNote:
		return []api.OpKind{api.OpText, api.OpStyle, api.OpClose, api.OpTab, api.OpBreak}
	case api.OpStyle:
		return inPara[:7]
	case api.OpClose, api.OpTab, api.OpBreak:
		return inPara
	case api.OpDone, api.OpEnd:
		return append(block, api.OpItem, api.OpRow, api.OpEnd)
	case api.OpList:
		return []api.OpKind{api.OpItem, api.OpEnd}
	case api.OpItem:
		return []api.OpKind{api.OpPara, api.OpList, api.OpItem, api.OpEnd}
	case api.OpTable:
		return []api.OpKind{api.OpRow, api.OpEnd}
	case api.OpRow:
		return []api.OpKind{api.OpPara}
	}
	return nil
}

// TestShortLists goes over all short lists, in which each operation stands behind each other one behind which it may.
func TestShortLists(t *testing.T) {
	type pair struct{ ahead, behind api.OpKind }
	seen := map[pair]int{}
	try := func(l []api.Op) {
		for _, width := range []int{10, 11, 17} {
			wantAsReckoned(t, sheet(), l, width)
		}
		var ahead api.OpKind
		for _, o := range l {
			seen[pair{ahead, o.Kind}]++
			ahead = o.Kind
		}
	}
	eachList(kinds(), 8, try)
	blocks := ops(kinds()[7:], []api.Op{kinds()[0], opN(api.OpList, 0)})
	eachList(blocks, 11, try)
	for _, o := range append(kinds(), op(0)) {
		for _, next := range behind(o.Kind) {
			if o.Kind == api.OpEnd && next == api.OpRow { // a table's rows stand in no other table
				continue
			}
			if seen[pair{o.Kind, next}] == 0 {
				t.Errorf("%d behind %d was not tried", next, o.Kind)
			}
		}
	}
}

// Lists of operations that are thrown.

// dice throws numbers that are the same each time.
type dice uint64

func (d *dice) throw(n int) int {
	*d = *d*6364136223846793005 + 1442695040888963407
	return int(*d>>33) % n
}

func (d *dice) width() int {
	return []int{10, 11, 12, 13, 15, 16, 17, 20, 24, 25, 40, 199, 200}[d.throw(13)]
}

func (d *dice) text() string {
	parts := []string{"a", "bb", "ccc", "dddddddd", "eeeeeeeeeeeeeeee", " ", " ", " ", "  ", "\u4e2d", "\u4e2d\u4e2d\u4e2d\u4e2d\u4e2d", "e\u0301", "\u0301", " \u0301", "."}
	var b strings.Builder
	for range 1 + d.throw(8) {
		b.WriteString(parts[d.throw(len(parts))])
	}
	return b.String()
}

// pieces throws what may stand in a paragraph.
func (d *dice) pieces(nest int, linked bool, styles int) []api.Op {
	var l []api.Op
	for range d.throw(7) {
		switch n := d.throw(12); {
		case n < 5:
			if len(l) == 0 || l[len(l)-1].Kind != api.OpText {
				l = append(l, text(d.text()))
			}
		case n < 6:
			l = append(l, op(api.OpTab))
		case n < 7:
			l = append(l, op(api.OpBreak))
		case nest == 0:
		case n < 10 && styles > 0:
			l = append(l, in(api.OpStyle, d.throw(styles), d.pieces(nest-1, linked, styles)...)...)
		case !linked:
			l = append(l, in(api.OpLink+api.OpKind(n%2), d.throw(10), d.pieces(nest-1, true, styles)...)...)
		}
	}
	return l
}

func (d *dice) para(styles int) []api.Op {
	l := para(d.pieces(d.throw(4), false, styles)...)
	if d.throw(3) == 0 {
		l[0].N = d.throw(styles+1) - 1
	}
	return l
}

func (d *dice) list(depth, styles int) []api.Op {
	var items [][]api.Op
	many := d.throw(4)
	if depth == 1 && d.throw(4) == 0 {
		many += 9
	}
	inner := d.throw(2) // how many lists there may be in the items
	for range many {
		var item []api.Op
		for range d.throw(4) {
			if depth > 1 && inner < 2 && d.throw(2) == 0 {
				inner++
				item = append(item, d.list(depth-1, styles)...)
			} else {
				item = append(item, d.para(styles)...)
			}
		}
		items = append(items, item)
	}
	return list(d.throw(2), items...)
}

func (d *dice) table(styles int) []api.Op {
	widths := make([]int, 1+d.throw(api.MaxColumns))
	for n := range widths {
		if d.throw(2) == 0 {
			widths[n] = d.throw([]int{2, 5, 101}[d.throw(3)])
		}
	}
	var rows [][]api.Op
	for range d.throw(4) {
		var row []api.Op
		for range widths {
			row = append(row, d.para(styles)...)
		}
		rows = append(rows, row)
	}
	return grid(widths, rows...)
}

// topic throws a topic's blocks, not too long.
func (d *dice) topic(styles int) [][]api.Op {
	var blocks [][]api.Op
	for range d.throw(7) {
		if len(ir.Text(ops(blocks...))) > 1000 {
			break
		}
		switch d.throw(5) {
		case 0:
			blocks = append(blocks, d.list(1+d.throw(api.MaxDepth), styles))
		case 1:
			blocks = append(blocks, d.table(styles))
		default:
			blocks = append(blocks, d.para(styles))
		}
	}
	return blocks
}

// change throws a style's change.
func (d *dice) change() api.Change {
	on := d.throw(128)
	return api.Change{On: on, Off: d.throw(128) &^ on, Color: d.throw(17) - 1}
}

// styles throws a sheet.
func (d *dice) styles() []api.Style {
	var l []api.Style
	for n := range d.throw(6) {
		s := api.Style{Name: string(rune('a' + n)), Own: d.change()}
		if n > 0 && d.throw(2) == 0 {
			s.Parent = l[d.throw(n)].Name
		}
		l = append(l, s)
	}
	return l
}

// P13.1, P13.6, P13.7

func TestTopicsAreAsReckoned(t *testing.T) {
	d := dice(1)
	for range 2500 {
		styles := d.styles()
		wantAsReckoned(t, styles, ops(d.topic(len(styles))...), d.width())
	}
}

func TestLongTopicsAreAsReckoned(t *testing.T) {
	d := dice(2)
	for range 12 {
		var l []api.Op
		for len(ir.Text(l)) < api.MaxText/2 {
			l = append(l, ops(d.topic(3)...)...)
			l = append(l, para(breaks(d.throw(200))...)...)
		}
		laid := wantAsReckoned(t, sheet(), l, 10)
		if !laid.More {
			t.Error("nothing is cut off")
		}
	}
}

// P13.8

func isSign(g api.Glyph) bool { return !strings.Contains(" \t\n", g.Text) }

func TestNothingIsLost(t *testing.T) {
	d := dice(3)
	for range 1000 {
		styles := d.styles()
		var l []api.Op
		for range d.throw(6) {
			l = append(l, d.para(len(styles))...)
		}
		var told, signs []api.Glyph
		r := reckoner{sheet: styles, l: l}
		for r.next() == api.OpPara {
			signs = append(signs, r.flow()...)
		}
		signs = slices.DeleteFunc(signs, func(g api.Glyph) bool { return !isSign(g) })
		for _, line := range wantAsReckoned(t, styles, l, d.width()).Lines {
			told = append(told, line...)
		}
		told = slices.DeleteFunc(told, func(g api.Glyph) bool { return !isSign(g) })
		if !slices.Equal(told, signs) {
			t.Fatalf("the signs of %v are %v", l, told)
		}
	}
}

// P13.9

func TestBeginnings(t *testing.T) {
	d := dice(4)
	for range 500 {
		blocks, width := d.topic(3), d.width()
		whole := laid(t, ops(blocks...), width)
		for n := range blocks {
			part := laid(t, ops(blocks[:n]...), width)
			end := len(part.Lines)
			if end > len(whole.Lines) || !slices.EqualFunc(part.Lines, whole.Lines[:end], slices.Equal) {
				t.Fatalf("%v at %d begins otherwise than %v", blocks, width, blocks[:n])
			}
			if !slices.Equal(part.Links, whole.Links[:len(part.Links)]) {
				t.Fatalf("%v at %d: links %v, behind %d blocks %v", blocks, width, whole.Links, n, part.Links)
			}
		}
	}
}

// P13.10

func TestStylesOnlyColor(t *testing.T) {
	d := dice(5)
	for range 500 {
		styles := d.styles()
		other := slices.Clone(styles)
		for n := range other {
			other[n].Own = d.change()
		}
		l, width := ops(d.topic(len(styles))...), d.width()
		a, b := wantAsReckoned(t, styles, l, width), wantAsReckoned(t, other, l, width)
		for _, line := range slices.Concat(a.Lines, b.Lines) {
			for n := range line {
				line[n].Look = plain
			}
		}
		if !layout.Same(a, b) {
			t.Fatalf("%v at %d differs by styles", l, width)
		}
	}
}

// P13.11

func TestWiderIsNoLonger(t *testing.T) {
	d := dice(6)
	for range 1000 {
		s := d.text() + d.text() + d.text()
		least := 0
		for _, w := range words.Words(strings.ReplaceAll(s, " \u0301", "x")) { // a blank with a mark is a sign
			least = max(least, w.Wide)
		}
		lines := api.MaxLines
		for width := max(least, api.MinWidth); width < least+60; width++ {
			now := len(laid(t, paras(s), width).Lines)
			if now > lines {
				t.Fatalf("%q has %d lines at %d, but %d at one less", s, now, width, lines)
			}
			lines = now
		}
	}
}
