package layout_test

import (
	"math"
	"slices"
	"strings"
	"testing"

	"folio/api"
	"folio/layout"
)

// Operations, put together.

func text(s string) api.Op { return api.Op{Kind: api.OpText, Text: s} }

func op(kind api.OpKind) api.Op { return api.Op{Kind: kind} }

func opN(kind api.OpKind, n int) api.Op { return api.Op{Kind: kind, N: n} }

// in is pieces within a style, a link or a note.
func in(kind api.OpKind, n int, pieces ...api.Op) []api.Op {
	return slices.Concat([]api.Op{opN(kind, n)}, pieces, []api.Op{op(api.OpClose)})
}

func link(n int, s string) []api.Op { return in(api.OpLink, n, text(s)) }

// para is a paragraph without a style.
func para(pieces ...api.Op) []api.Op {
	return slices.Concat([]api.Op{opN(api.OpPara, -1)}, pieces, []api.Op{op(api.OpDone)})
}

// paras are paragraphs of one text each.
func paras(texts ...string) []api.Op {
	var l []api.Op
	for _, s := range texts {
		l = append(l, para(text(s))...)
	}
	return l
}

// list is a list with an item of each of the parts.
func list(n int, items ...[]api.Op) []api.Op {
	l := []api.Op{opN(api.OpList, n)}
	for _, part := range items {
		l = append(append(l, op(api.OpItem)), part...)
	}
	return append(l, op(api.OpEnd))
}

// grid is a table with a row of each of the parts.
func grid(widths []int, rows ...[]api.Op) []api.Op {
	l := []api.Op{{Kind: api.OpTable, Widths: widths}}
	for _, part := range rows {
		l = append(append(l, op(api.OpRow)), part...)
	}
	return append(l, op(api.OpEnd))
}

func ops(parts ...[]api.Op) []api.Op { return slices.Concat(parts...) }

func breaks(n int) []api.Op { return slices.Repeat([]api.Op{op(api.OpBreak)}, n) }

// sheet has styles that put, take and color, one of them with parents: its last.
func sheet() []api.Style {
	return []api.Style{
		{Name: "bold", Own: api.Change{On: api.AttrBold, Color: -1}},
		{Name: "warn", Own: api.Change{On: api.AttrUnder, Color: 1}},
		{Name: "deep", Parent: "warn", Own: api.Change{On: api.AttrMono, Off: api.AttrBold, Color: -1}},
	}
}

var plain = api.Look{Color: 7}

// glyphs is a text's characters, all of one look and one link, those from U+1100 on of Wide 2.
func glyphs(s string, look api.Look, link int) []api.Glyph {
	var l []api.Glyph
	for _, r := range s {
		wide := 1
		if r >= 0x1100 {
			wide = 2
		}
		l = append(l, api.Glyph{Text: string(r), Wide: wide, Look: look, Link: link})
	}
	return l
}

func line(parts ...[]api.Glyph) []api.Glyph { return slices.Concat(parts...) }

// laid lays out what must be taken, with ten topics.
func laid(t *testing.T, l []api.Op, width int) api.Laid {
	t.Helper()
	d, e := layout.Layout(sheet(), l, 10, width)
	if e != api.OK {
		t.Fatalf("Layout of %v at %d: %d", l[:min(len(l), 20)], width, e)
	}
	return d
}

// want asks for the Texts of lines.
func want(t *testing.T, l []api.Op, width int, lines ...string) api.Laid {
	t.Helper()
	d := laid(t, l, width)
	if got := layout.Show(d); !slices.Equal(got, lines) || d.More {
		t.Errorf("Layout of %v at %d: %q, more: %t, want %q", l, width, got, d.More, lines)
	}
	return d
}

// wantLines asks for lines with their looks and links.
func wantLines(t *testing.T, l []api.Op, width int, lines ...[]api.Glyph) {
	t.Helper()
	if d := laid(t, l, width); !slices.EqualFunc(d.Lines, lines, slices.Equal) {
		t.Errorf("Layout of %v at %d: %v, want %v", l, width, d.Lines, lines)
	}
}

func wantRects(t *testing.T, d api.Laid, rects ...api.Rect) {
	t.Helper()
	if !slices.Equal(d.Rects, rects) {
		t.Errorf("rects of %q: %v, want %v", layout.Show(d), d.Rects, rects)
	}
}

func wantLinks(t *testing.T, d api.Laid, links ...api.Target) {
	t.Helper()
	if !slices.Equal(d.Links, links) {
		t.Errorf("links: %v, want %v", d.Links, links)
	}
}

func wantError(t *testing.T, sheet []api.Style, l []api.Op, topics, width int, want api.Errno) {
	t.Helper()
	d, e := layout.Layout(sheet, l, topics, width)
	if e != want || d.More || len(d.Lines)+len(d.Rects)+len(d.Links) > 0 {
		t.Errorf("Layout of %v, %d topics, at %d: %v, %d, want %d", l[:min(len(l), 20)], topics, width, d, e, want)
	}
}

// The chapter's examples.

func TestExamples(t *testing.T) {
	want(t, paras("ab cd", "ef"), 20, "ab cd", "", "ef")
	want(t, list(0, paras("x"), paras("y z")), 20, "* x", "* y z")
	want(t, list(1, paras("x"), paras("y z")), 20, "1. x", "2. y z")
	want(t, list(0, ops(paras("x"), list(0, paras("y"), paras("z")))), 20, "* x", "  * y", "  * z")
	want(t, list(1, ops(paras("x"), list(0, paras("y")))), 20, "1. x", "   * y")
	want(t, list(0, nil), 20, "*")

	d := want(t, para(ops([]api.Op{text("see the ")}, link(4, "go on"))...), 10, "see the go", "on")
	wantRects(t, d, api.Rect{Row: 0, Col: 8, Wide: 2, Link: 1}, api.Rect{Row: 1, Col: 0, Wide: 2, Link: 1})
	wantLinks(t, d, api.Target{N: 4})
}

// P13.2

func TestWidths(t *testing.T) {
	l := paras("one two three")
	want(t, l, api.MinWidth, "one two", "three")
	want(t, l, api.MaxWidth, "one two three")
	want(t, paras(strings.Repeat("x", 401)), api.MaxWidth, strings.Repeat("x", 200), strings.Repeat("x", 200), "x")
	for _, width := range []int{api.MinWidth - 1, api.MaxWidth + 1, 0, -1, -20, math.MinInt, math.MaxInt} {
		wantError(t, sheet(), l, 1, width, api.ErrRange)
	}
}

func TestErrorsOfSheets(t *testing.T) {
	twice := append(sheet(), sheet()[0])
	wantError(t, twice, nil, 1, 20, api.ErrStyleTwice)
	wantError(t, []api.Style{{Name: "x", Parent: "y", Own: api.Change{Color: -1}}}, nil, 1, 20, api.ErrStyleParent)
	wantError(t, make([]api.Style, api.MaxStyles+1), nil, 1, 20, api.ErrLong)
	wantError(t, []api.Style{{}}, nil, 1, 20, api.ErrStyleName)
}

func TestErrorsOfOperations(t *testing.T) {
	for _, l := range [][]api.Op{
		{op(api.OpDone)},
		{op(api.OpPara)},
		para(text("")),
		para(text("a\nb")),
		para(text("a"), text("b")),
		para(in(api.OpStyle, 3)...),
		para(in(api.OpLink, 10)...),
		para(in(api.OpNote, -1)...),
		{opN(api.OpPara, 3), op(api.OpDone)},
		{opN(api.OpPara, -2), op(api.OpDone)},
		grid([]int{1, 2}, paras("x")),
		grid(nil),
		list(2),
		{op(0)},
		{op(15)},
	} {
		wantError(t, sheet(), l, 10, 20, api.ErrOp)
	}
	wantError(t, sheet(), paras(strings.Repeat("x", api.MaxText+1)), 10, 20, api.ErrLong)
	wantError(t, nil, para(in(api.OpStyle, 0)...), 10, 20, api.ErrOp)
}

func TestTopics(t *testing.T) {
	l := para(link(api.MaxTopics-1, "x")...)
	if d, e := layout.Layout(nil, l, api.MaxTopics, 20); e != api.OK || len(d.Links) != 1 {
		t.Error(d, e)
	}
	wantError(t, nil, l, api.MaxTopics+1, 20, api.ErrLong)
	wantError(t, nil, nil, math.MaxInt, 20, api.ErrLong)
	wantError(t, nil, l, api.MaxTopics-1, 20, api.ErrOp)
	for _, topics := range []int{0, -1, math.MinInt} { // no topic is asked for
		if d, e := layout.Layout(nil, paras("x"), topics, 20); e != api.OK || len(d.Lines) != 1 {
			t.Error(topics, d, e)
		}
	}
}

// TestFirstError holds each two errors against each other.
func TestFirstError(t *testing.T) {
	bad, wrong, many := []api.Style{{}}, []api.Op{op(api.OpDone)}, api.MaxTopics+1
	wantError(t, bad, nil, 1, 9, api.ErrRange)
	wantError(t, nil, wrong, 1, 9, api.ErrRange)
	wantError(t, nil, nil, many, 201, api.ErrRange)
	wantError(t, bad, wrong, 1, 20, api.ErrStyleName)
	wantError(t, bad, nil, many, 20, api.ErrStyleName)
	wantError(t, nil, wrong, many, 20, api.ErrOp)
	wantError(t, bad, wrong, many, 0, api.ErrRange)
	wantError(t, bad, wrong, many, 20, api.ErrStyleName)
}

// P13.2, P13.6: what is cut off.

func TestMaxLines(t *testing.T) {
	lines := func(n int) []api.Op { // of n lines, the last of them a link
		return para(ops([]api.Op{text("x")}, breaks(n-1), link(3, "y"))...)
	}
	d := laid(t, lines(api.MaxLines), 10)
	if shown := layout.Show(d); len(shown) != api.MaxLines || d.More || shown[api.MaxLines-1] != "y" {
		t.Error(len(shown), d.More)
	}
	wantRects(t, d, api.Rect{Row: api.MaxLines - 1, Wide: 1, Link: 1})
	wantLinks(t, d, api.Target{N: 3})

	d = laid(t, lines(api.MaxLines+1), 10)
	if len(d.Lines) != api.MaxLines || !d.More {
		t.Error(len(d.Lines), d.More)
	}
	wantRects(t, d)
	wantLinks(t, d, api.Target{N: 3})
}

// TestOneLineMore lays one line more behind MaxLines of them, of each kind that there is.
func TestOneLineMore(t *testing.T) {
	full := para(breaks(api.MaxLines)...)
	for _, l := range [][]api.Op{
		paras("x"),
		para(), // whose line is the empty one ahead of it
		list(0, nil),
		list(0, nil, nil),
		list(0, list(0)),
		list(0, paras("x")),
		list(1, para()),
		grid([]int{0}, paras("x")),
		grid([]int{0, 0}, ops(para(), paras("x"))),
	} {
		d := laid(t, ops(full, l), 10)
		if len(d.Lines) != api.MaxLines || !d.More {
			t.Errorf("behind MaxLines lines %v: %d lines, more: %t", l, len(d.Lines), d.More)
		}
	}
	for _, l := range [][]api.Op{nil, list(0), grid([]int{0}), grid([]int{0, 0}, ops(para(), para()))} {
		d := laid(t, ops(full, l), 10)
		if len(d.Lines) != api.MaxLines || d.More {
			t.Errorf("behind MaxLines lines %v: %d lines, more: %t", l, len(d.Lines), d.More)
		}
	}
}

func TestLinksOfLinesThatAreCut(t *testing.T) {
	row := paras("x")
	for range 3 {
		row = append(row, para(ops(link(1, "in"), breaks(api.MaxLines), in(api.OpNote, 2, text("out")))...)...)
	}
	d := laid(t, ops(paras("a"), grid([]int{0, 0, 0, 0}, row, row)), 40)
	if len(d.Lines) != api.MaxLines || !d.More {
		t.Error(len(d.Lines), d.More)
	}
	wantRects(t, d, api.Rect{Row: 1, Col: 11, Wide: 2, Link: 1}, api.Rect{Row: 1, Col: 21, Wide: 2, Link: 3}, api.Rect{Row: 1, Col: 31, Wide: 2, Link: 5})
	wantLinks(t, d, slices.Repeat([]api.Target{{Kind: api.KindTopic, N: 1}, {Kind: api.KindNote, N: 2}}, 6)...)
}

// TestMostOperations lays out lists that are as long as may be.
func TestMostOperations(t *testing.T) {
	rest := api.MaxOps - 20
	tabs := slices.Repeat([]api.Op{op(api.OpTab)}, rest)
	links := slices.Repeat(in(api.OpLink, 1), rest/2)
	long := func(pieces []api.Op) []api.Op { return ops(paras("x"), para(pieces...)) }
	last := func(pieces []api.Op) []api.Op {
		return grid([]int{0, 1}, ops(para(), para(pieces...)))
	}
	for _, width := range []int{api.MinWidth, api.MaxWidth} {
		for _, l := range [][]api.Op{long(breaks(rest)), long(tabs), long(links), last(breaks(rest)), last(tabs), last(links)} {
			d := laid(t, l, width)
			if lines := len(d.Lines); lines > api.MaxLines || d.More != (lines == api.MaxLines) {
				t.Error(lines, d.More)
			}
		}
	}
	d := laid(t, list(1, make([][]api.Op, api.MaxOps-2)...), 10)
	if shown := layout.Show(d); len(shown) != api.MaxLines || !d.More || shown[api.MaxLines-1] != "2000." {
		t.Error(len(shown), d.More)
	}
	words := laid(t, paras(strings.Repeat("a", api.MaxText)), 10)
	if len(words.Lines) != api.MaxText/10+1 || words.More {
		t.Error(len(words.Lines), words.More)
	}
}

// P2

// withMore answers a list that has something behind its length.
func withMore[T any](l []T, behind T) []T {
	return append(slices.Clone(l), behind)[:len(l)]
}

func TestNothingHandedInIsChanged(t *testing.T) {
	everything := func() []api.Op {
		cells := ops(para(in(api.OpStyle, 1, text("x y"))...), para(link(2, "\u4e2d z")...))
		return ops(paras("one two"), list(1, paras("a"), nil), grid([]int{3, 0}, cells, cells))
	}
	widths := withMore([]int{3, 0}, 9)
	l := everything()
	at := slices.IndexFunc(l, func(o api.Op) bool { return o.Kind == api.OpTable })
	l[at].Widths = widths
	l = withMore(l, op(api.OpDone))
	styles := withMore(sheet(), api.Style{Name: "more"})
	d, e := layout.Layout(styles, l, 10, 12)
	if e != api.OK {
		t.Fatal(e)
	}
	spoil(d)
	sameOp := func(a, b api.Op) bool {
		return a.Kind == b.Kind && a.N == b.N && a.Text == b.Text && slices.Equal(a.Widths, b.Widths)
	}
	if !slices.EqualFunc(l[:len(l)+1], append(everything(), op(api.OpDone)), sameOp) || widths[:3][2] != 9 {
		t.Errorf("the operations are now %v", l[:len(l)+1])
	}
	if !slices.Equal(styles[:len(styles)+1], append(sheet(), api.Style{Name: "more"})) {
		t.Errorf("the sheet is now %v", styles[:len(styles)+1])
	}
	again, _ := layout.Layout(sheet(), everything(), 10, 12)
	if fresh := laid(t, everything(), 12); !layout.Same(again, fresh) {
		t.Error("what was spoilt comes back")
	}
}

// spoil writes over all that was told, and over what lies behind it.
func spoil(d api.Laid) {
	bad := api.Glyph{Text: "bad", Wide: 99, Link: 99}
	for i := range d.Lines {
		whole := d.Lines[i][:cap(d.Lines[i])]
		for k := range whole {
			whole[k] = bad
		}
	}
	for i := range d.Rects {
		d.Rects[i] = api.Rect{Row: 99}
	}
	for i := range d.Links {
		d.Links[i] = api.Target{Kind: 99}
	}
}

// TestLinesAreOfTheirOwn spoils one line after the other: those behind it stay.
func TestLinesAreOfTheirOwn(t *testing.T) {
	lists := list(0, ops(paras("a b c d e f g h i j"), list(0, nil, paras("\u4e2d\u4e2d\u4e2d\u4e2d\u4e2d"))), nil)
	cell := ops(paras("one two"), para(append(breaks(3), text("x"))...))
	l := ops(para(ops(breaks(2), link(1, "long long words"))...), lists, grid([]int{0, 0}, cell, cell))
	d, fresh := laid(t, l, 12), laid(t, l, 12)
	for i := range d.Lines {
		spoil(api.Laid{Lines: d.Lines[i : i+1]})
		if !slices.EqualFunc(d.Lines[i+1:], fresh.Lines[i+1:], slices.Equal) {
			t.Fatalf("line %d shares memory with one behind it", i)
		}
	}
	for i := range slices.Backward(fresh.Lines) {
		before := layout.Show(api.Laid{Lines: fresh.Lines[:i]})
		spoil(api.Laid{Lines: fresh.Lines[i : i+1]})
		if !slices.Equal(layout.Show(api.Laid{Lines: fresh.Lines[:i]}), before) {
			t.Fatalf("line %d shares memory with one ahead of it", i)
		}
	}
}

// P3

func TestNothing(t *testing.T) {
	for _, l := range [][]api.Op{nil, {}} {
		for _, styles := range [][]api.Style{nil, {}, sheet()} {
			d, e := layout.Layout(styles, l, 0, 10)
			if e != api.OK || d.More || len(d.Lines)+len(d.Rects)+len(d.Links) > 0 {
				t.Error(d, e)
			}
		}
	}
}
