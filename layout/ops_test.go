package layout_test

import (
	"slices"
	"strconv"
	"strings"
	"testing"

	"folio/api"
	"folio/layout"
)

// P13.1: paragraphs and what stands in them.

func TestParagraphs(t *testing.T) {
	want(t, para(), 10)
	want(t, paras("a"), 10, "a")
	want(t, paras("a", "b", "c"), 10, "a", "", "b", "", "c")
	want(t, ops(para(), para()), 10, "")
	want(t, ops(para(), para(), paras("a")), 10, "", "", "a")
	want(t, ops(paras("a"), para(), paras("b")), 10, "a", "", "", "b")
	want(t, ops(paras("a"), list(0), paras("b")), 10, "a", "b")
	want(t, ops(paras("a"), list(0, paras("x")), paras("b", "c")), 10, "a", "* x", "b", "", "c")
	want(t, ops(paras("a"), grid([]int{0}), paras("b")), 10, "a", "b")
	want(t, ops(paras("a"), grid([]int{0}, paras("x")), paras("b", "c")), 10, "a", "x", "b", "", "c")
	want(t, ops(grid([]int{0}, paras("x")), list(1, paras("y"))), 10, "x", "1. y")
}

func TestEmptyLineHasNothing(t *testing.T) {
	item := paras("a", "b")
	wantLines(t, list(0, item), 10, line(glyphs("* ", plain, 0), glyphs("a", plain, 0)), nil, glyphs("  b", plain, 0))
}

func TestTexts(t *testing.T) {
	want(t, paras("  a   b  "), 10, "a b")
	want(t, paras(" "), 10)
	want(t, paras("\u4e2d\u4e2d\u4e2d\u4e2d\u4e2d\u4e2d"), 11, "\u4e2d\u4e2d\u4e2d\u4e2d\u4e2d", "\u4e2d")
	want(t, paras("ab \u4e2d\u4e2d\u4e2d\u4e2d"), 10, "ab", "\u4e2d\u4e2d\u4e2d\u4e2d")
	want(t, para(text("a"), op(api.OpBreak), text("b")), 10, "a", "b")
	want(t, para(text("a"), op(api.OpTab), text("b")), 10, "a       b")
	want(t, para(text("a"), op(api.OpTab), text("b"), op(api.OpTab), text("c")), 20, "a       b       c")
	want(t, para(op(api.OpBreak)), 10, "")
	want(t, para(text("a "), op(api.OpBreak), op(api.OpBreak), text(" b")), 10, "a", "", "b")
	want(t, para(ops([]api.Op{text("a")}, in(api.OpStyle, 0, text("b")), []api.Op{text(" c")})...), 10, "ab c")
}

// TestCells asks for a glyph of each cell, not of each character.
func TestCells(t *testing.T) {
	wantLines(t, paras("e\u0301\u4e2d"), 10, []api.Glyph{
		{Text: "e\u0301", Wide: 1, Look: plain},
		{Text: "\u4e2d", Wide: 2, Look: plain},
	})
	wantLines(t, paras("\u0301\u0302a"), 10, []api.Glyph{
		{Text: "\u0301\u0302", Wide: 1, Look: plain},
		{Text: "a", Wide: 1, Look: plain},
	})
	wantLines(t, paras("a \u0301"), 10, []api.Glyph{ // no blank
		{Text: "a", Wide: 1, Look: plain},
		{Text: " \u0301", Wide: 1, Look: plain},
	})
}

// TestGapsHaveLooksAndLinks asks for those of the blanks that a blank and a tab become.
func TestGapsHaveLooksAndLinks(t *testing.T) {
	bold := api.Look{Attr: api.AttrBold, Color: 7}
	l := para(ops([]api.Op{text("a"), opN(api.OpStyle, 0)}, in(api.OpLink, 1, text("b c"), op(api.OpTab), text("d")), []api.Op{op(api.OpClose)})...)
	wantLines(t, l, 10, line(glyphs("a", plain, 0), glyphs("b c    d", bold, 1)[:3], glyphs("    d", bold, 1)))
	l = para(ops([]api.Op{text("a")}, in(api.OpStyle, 0, op(api.OpTab)), in(api.OpNote, 1, op(api.OpTab)), []api.Op{text("b")})...)
	wantLines(t, l, 20, line(glyphs("a", plain, 0), glyphs("       ", bold, 0), glyphs("        ", plain, 1), glyphs("b", plain, 0)))
	wantRects(t, laid(t, l, 20), api.Rect{Row: 0, Col: 8, Wide: 8, Link: 1})
}

// P13.1: looks

func TestStyles(t *testing.T) {
	warn := api.Look{Attr: api.AttrUnder, Color: 1}
	deep := api.Look{Attr: api.AttrUnder | api.AttrMono, Color: 1}
	l := para(ops([]api.Op{text("a")}, in(api.OpStyle, 1, text("b"), opN(api.OpStyle, 0), text("c"), opN(api.OpStyle, 2), text("d"), op(api.OpClose), text("e"), op(api.OpClose), text("f")), []api.Op{text("g")})...)
	both := api.Look{Attr: api.AttrUnder | api.AttrBold, Color: 1}
	wantLines(t, l, 10, line(glyphs("a", plain, 0), glyphs("b", warn, 0), glyphs("c", both, 0), glyphs("d", deep, 0), glyphs("e", both, 0), glyphs("f", warn, 0), glyphs("g", plain, 0)))
	wantLines(t, para(in(api.OpStyle, 2, text("x"))...), 10, glyphs("x", deep, 0)) // the sheet's last, with its parent's
}

func TestStylesOfParagraphs(t *testing.T) {
	warn := api.Look{Attr: api.AttrUnder, Color: 1}
	l := ops([]api.Op{opN(api.OpPara, 1), text("a")}, in(api.OpStyle, 0, text("b")), []api.Op{text("c"), op(api.OpDone)}, paras("d"))
	wantLines(t, l, 10, line(glyphs("a", warn, 0), glyphs("b", api.Look{Attr: api.AttrUnder | api.AttrBold, Color: 1}, 0), glyphs("c", warn, 0)), nil, glyphs("d", plain, 0))
	first := ops([]api.Op{opN(api.OpPara, 0), text("a"), op(api.OpDone)})
	wantLines(t, list(0, first), 10, line(glyphs("* ", plain, 0), glyphs("a", api.Look{Attr: api.AttrBold, Color: 7}, 0)))
	wantLines(t, grid([]int{0, 0}, ops(first, paras("b"))), 11, line(glyphs("a", api.Look{Attr: api.AttrBold, Color: 7}, 0), glyphs("     ", plain, 0), glyphs("b", plain, 0)))
}

func TestDeepestNest(t *testing.T) {
	var l []api.Op
	for n := range api.MaxNest {
		l = append(l, opN(api.OpStyle, n%2))
	}
	l = append(l, text("x"))
	l = append(l, slices.Repeat([]api.Op{op(api.OpClose)}, api.MaxNest)...)
	l = append(l, text("y"))
	l[api.MaxNest-1] = opN(api.OpLink, 3)
	look := api.Look{Attr: api.AttrBold | api.AttrUnder, Color: 1}
	wantLines(t, para(l...), 10, line(glyphs("x", look, 1), glyphs("y", plain, 0)))
}

// P13.1: links

func TestLinks(t *testing.T) {
	d := want(t, para(ops(link(3, "a"), link(1, "b"), []api.Op{text("c")}, in(api.OpNote, 3, text("d")))...), 10, "abcd")
	wantRects(t, d, api.Rect{Col: 0, Wide: 1, Link: 1}, api.Rect{Col: 1, Wide: 1, Link: 2}, api.Rect{Col: 3, Wide: 1, Link: 3})
	wantLinks(t, d, api.Target{Kind: api.KindTopic, N: 3}, api.Target{Kind: api.KindTopic, N: 1}, api.Target{Kind: api.KindNote, N: 3})
	wantLines(t, para(link(0, "a")...), 10, glyphs("a", plain, 1)) // a link by itself has no look
}

func TestLinksOfSeveralParagraphs(t *testing.T) {
	d := want(t, ops(para(link(0, "a")...), para(in(api.OpNote, 1, text("b"))...), para(text("c"))), 10, "a", "", "b", "", "c")
	wantRects(t, d, api.Rect{Row: 0, Wide: 1, Link: 1}, api.Rect{Row: 2, Wide: 1, Link: 2})
	wantLinks(t, d, api.Target{N: 0}, api.Target{Kind: api.KindNote, N: 1})
}

// TestStylesInLinks asks that the end of a style is not that of the link around it, nor the link's end that of a style around it.
func TestStylesInLinks(t *testing.T) {
	bold := api.Look{Attr: api.AttrBold, Color: 7}
	inside := in(api.OpLink, 2, text("a"), opN(api.OpStyle, 0), text("b"), op(api.OpClose), text("c"))
	wantLines(t, para(append(inside, text("d"))...), 10, line(glyphs("a", plain, 1), glyphs("b", bold, 1), glyphs("c", plain, 1), glyphs("d", plain, 0)))
	around := in(api.OpStyle, 0, text("a"), opN(api.OpLink, 2), text("b"), op(api.OpClose), text("c"))
	wantLines(t, para(append(around, text("d"))...), 10, line(glyphs("a", bold, 0), glyphs("b", bold, 1), glyphs("c", bold, 0), glyphs("d", plain, 0)))
}

func TestLinkWithoutText(t *testing.T) {
	d := want(t, para(ops([]api.Op{text("a")}, in(api.OpLink, 5), link(6, "b"))...), 10, "ab")
	wantRects(t, d, api.Rect{Col: 1, Wide: 1, Link: 2})
	wantLinks(t, d, api.Target{N: 5}, api.Target{N: 6})
	d = want(t, para(in(api.OpLink, 5)...), 10)
	wantRects(t, d)
	wantLinks(t, d, api.Target{N: 5})
}

func TestLinksOverLines(t *testing.T) {
	d := want(t, para(link(0, "aaaaaaaaa bbbbbbbbb ccccccccccccc")...), 10, "aaaaaaaaa", "bbbbbbbbb", "cccccccccc", "ccc")
	wantRects(t, d, api.Rect{Row: 0, Wide: 9, Link: 1}, api.Rect{Row: 1, Wide: 9, Link: 1}, api.Rect{Row: 2, Wide: 10, Link: 1}, api.Rect{Row: 3, Wide: 3, Link: 1})
	d = want(t, para(in(api.OpLink, 0, text("a"), op(api.OpBreak), op(api.OpBreak), text("\u4e2db"))...), 10, "a", "", "\u4e2db")
	wantRects(t, d, api.Rect{Row: 0, Wide: 1, Link: 1}, api.Rect{Row: 2, Wide: 3, Link: 1})
}

func TestLinksInListsAndTables(t *testing.T) {
	d := want(t, list(1, para(link(1, "one two three")...)), 10, "1. one two", "   three")
	wantRects(t, d, api.Rect{Row: 0, Col: 3, Wide: 7, Link: 1}, api.Rect{Row: 1, Col: 3, Wide: 5, Link: 1})
	d = want(t, grid([]int{4, 4}, ops(para(link(1, "a b c")...), para(link(2, "d e")...))), 10, "a b  d e", "c")
	wantRects(t, d, api.Rect{Row: 0, Col: 0, Wide: 3, Link: 1}, api.Rect{Row: 0, Col: 5, Wide: 3, Link: 2}, api.Rect{Row: 1, Col: 0, Wide: 1, Link: 1})
	wantLinks(t, d, api.Target{N: 1}, api.Target{N: 2})
}

// P13.1: lists

func TestLists(t *testing.T) {
	want(t, list(0), 10)
	want(t, list(1), 10)
	want(t, list(0, nil, nil), 10, "*", "*")
	want(t, list(1, nil, nil, nil), 10, "1.", "2.", "3.")
	want(t, list(0, para()), 10, "*")
	want(t, list(1, para(), paras("a"), para()), 10, "1.", "2. a", "3.")
	want(t, list(0, paras("a", "b")), 10, "* a", "", "  b")
	want(t, list(0, ops(para(), paras("b"))), 10, "*", "", "  b")
	want(t, list(1, paras("aaaa bbbb cccc")), 10, "1. aaaa", "   bbbb", "   cccc")
	want(t, ops(list(1, paras("a")), list(1, paras("b"))), 10, "1. a", "1. b")
	want(t, list(0, para(op(api.OpBreak), text("a"))), 10, "* ", "  a")
	want(t, list(0, para(text("a"), op(api.OpBreak), op(api.OpBreak), text("b"))), 10, "* a", "  ", "  b")
	want(t, list(0, paras("\u4e2d\u4e2d\u4e2d\u4e2d\u4e2d")), 10, "* \u4e2d\u4e2d\u4e2d\u4e2d", "  \u4e2d")
}

// TestMarkersLook asks for plain glyphs, one of each sign, whatever stands behind them.
func TestMarkersLook(t *testing.T) {
	l := list(1, []api.Op{opN(api.OpPara, 1), opN(api.OpLink, 1), text("x"), op(api.OpBreak), text("y"), op(api.OpClose), op(api.OpDone)})
	look := api.Look{Attr: api.AttrUnder, Color: 1}
	wantLines(t, l, 10, line(glyphs("1. ", plain, 0), glyphs("x", look, 1)), line(glyphs("   ", plain, 0), glyphs("y", look, 1)))
	wantLines(t, list(0, list(1, nil)), 10, glyphs("*", plain, 0), glyphs("  1.", plain, 0))
}

func TestListsInItems(t *testing.T) {
	inner := list(1, paras("a"), nil, paras("b"))
	want(t, list(0, inner), 10, "*", "  1. a", "  2.", "  3. b")
	want(t, list(1, list(0, inner)), 20, "1.", "   *", "     1. a", "     2.", "     3. b")
	want(t, list(0, ops(inner, paras("c"))), 10, "*", "  1. a", "  2.", "  3. b", "  c")
	want(t, list(0, ops(inner, paras("c", "d")), paras("e")), 10, "*", "  1. a", "  2.", "  3. b", "  c", "", "  d", "* e")
	want(t, list(0, ops(inner, inner)), 10, "*", "  1. a", "  2.", "  3. b", "  1. a", "  2.", "  3. b")
	want(t, list(0, list(0)), 10, "*")
	want(t, list(0, ops(list(0), paras("c"))), 10, "*", "  c")
	want(t, list(1, list(1, nil), nil), 10, "1.", "   1.", "2.")
	want(t, ops(list(1, list(1, nil)), paras("x")), 10, "1.", "   1.", "x")
}

// TestNumbers asks for the markers of numbers of one, two, three and more digits, and for the margins behind them.
func TestNumbers(t *testing.T) {
	items := make([][]api.Op, 1001)
	for _, n := range []int{1, 9, 10, 99, 100, 999, 1000} {
		items[n-1] = ops(para(text("x"), op(api.OpBreak), text("y")), list(0, paras("z")))
	}
	var lines []string
	for n := 1; n <= len(items); n++ {
		marker := strconv.Itoa(n) + "."
		margin := strings.Repeat(" ", len(marker)+1)
		lines = append(lines, marker)
		if items[n-1] != nil {
			lines[len(lines)-1] += " x"
			lines = append(lines, margin+"y", margin+"* z")
		}
	}
	want(t, list(1, items...), 12, lines...)
}

// nested is lists of these kinds, one in the other, with a paragraph in each item.
func nested(kinds ...int) []api.Op {
	if len(kinds) == 0 {
		return nil
	}
	return list(kinds[0], ops(paras("ab cd"), nested(kinds[1:]...)))
}

// TestMarginsAreCut has lists so deep that the margin comes to the width less 4, and beyond.
func TestMarginsAreCut(t *testing.T) {
	want(t, nested(0, 0, 0), 10, "* ab cd", "  * ab cd", "    * ab", "      cd")
	want(t, nested(0, 0, 0, 0, 0), 10, "* ab cd", "  * ab cd", "    * ab", "      cd", "     *ab", "      cd", "     *ab", "      cd")
	want(t, nested(1, 1, 1, 1), 10, "1. ab cd", "   1. ab", "      cd", "    1.ab", "      cd", "    1.ab", "      cd")
	want(t, nested(0, 1, 0, 1), 10, "* ab cd", "  1. ab cd", "     *ab", "      cd", "    1.ab", "      cd")
	deep := nested(1, 1, 1, 1, 1, 1, 1, 1)
	d := want(t, deep, 200, "1. ab cd", "   1. ab cd", "      1. ab cd", "         1. ab cd", "            1. ab cd", "               1. ab cd", "                  1. ab cd", "                     1. ab cd")
	for n, line := range d.Lines {
		if !slices.Equal(line, glyphs(layout.Show(d)[n], plain, 0)) {
			t.Error(line)
		}
	}
	want(t, nested(0, 0, 0), 11, "* ab cd", "  * ab cd", "    * ab cd")
	want(t, nested(0, 0, 0, 0), 12, "* ab cd", "  * ab cd", "    * ab cd", "      * ab", "        cd")
}

// TestMarkersAloneAreCut has markers whose place is cut by the margin on lines of their own.
func TestMarkersAloneAreCut(t *testing.T) {
	var l []api.Op
	for range api.MaxDepth {
		l = list(1, l)
	}
	want(t, l, 10, "1.", "   1.", "    1.", "    1.", "    1.", "    1.", "    1.", "    1.")
	many := make([][]api.Op, 12)
	want(t, list(0, list(0, list(0, list(0, list(1, many...))))), 10, "*", "  *", "    *", "     *",
		"    1.", "    2.", "    3.", "    4.", "    5.", "    6.", "    7.", "    8.", "    9.", "   10.", "   11.", "   12.")
}

// P13.1: tables

func TestTables(t *testing.T) {
	want(t, grid([]int{0}), 10)
	want(t, grid([]int{0}, para()), 10)
	want(t, grid([]int{0}, paras("one two three")), 10, "one two", "three")
	want(t, grid([]int{3}, paras("one two three")), 10, "one", "two", "thr", "ee")
	want(t, grid([]int{0, 0}, paras("a b", "c d")), 11, "a b   c d")
	want(t, grid([]int{0, 0}, paras("a", "b"), paras("c", "d")), 11, "a     b", "c     d")
	want(t, grid([]int{0, 0}, ops(para(), paras("b")), ops(paras("c"), para())), 11, "      b", "c")
	want(t, grid([]int{0, 0}, ops(para(), para()), paras("c", "d")), 11, "c     d")
	want(t, grid([]int{1, 0}, paras("\u4e2da", "b")), 11, "? b", "a")
	want(t, grid(make([]int, api.MaxColumns), paras("a", "b", "c", "d", "e", "f", "g", "h")), 10, "a b cdefgh")
	want(t, grid(make([]int, api.MaxColumns), paras("a", "b", "c", "d", "e", "f", "g", "h")), 15, "a b c d e f g h")
	want(t, ops(grid([]int{0}, paras("a")), grid([]int{0, 0}, paras("b", "c"))), 11, "a", "b     c")
	want(t, ops(grid([]int{0, 0}, paras("a", "b")), paras("c", "d"), grid([]int{0}, paras("e"))), 11, "a     b", "c", "", "d", "e")
}

func TestRowsAreAsWideAsTheWidth(t *testing.T) {
	want(t, ops(list(0, paras("x")), grid([]int{100, 0}, paras("a", "b"))), 200, "* x", "a"+strings.Repeat(" ", 100)+"b")
	want(t, grid([]int{100, 100}, paras("a", "b")), 10, "a     b")
}

func TestCellsHaveLooksAndLinks(t *testing.T) {
	bold := api.Look{Attr: api.AttrBold, Color: 7}
	cells := ops(
		para(in(api.OpStyle, 0, text("a"), op(api.OpBreak), opN(api.OpLink, 2), text("b"), op(api.OpClose))...),
		para(in(api.OpNote, 3, text("c d"))...),
	)
	l := grid([]int{2, 3}, cells)
	wantLines(t, l, 10,
		line(glyphs("a", bold, 0), glyphs("  ", plain, 0), glyphs("c d", plain, 2)),
		line(glyphs("b", bold, 1)))
	wantLinks(t, laid(t, l, 10), api.Target{N: 2}, api.Target{Kind: api.KindNote, N: 3})
}
