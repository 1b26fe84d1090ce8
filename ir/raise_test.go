package ir_test

import (
	"math"
	"slices"
	"strings"
	"testing"

	"folio/api"
	"folio/ir"
)

// P11.4

func wantRaise(t *testing.T, l []api.Op, want ...api.Block) {
	t.Helper()
	got, e := ir.Raise(theSheet(), namesOf(theDir()), l)
	if e != api.OK || !sameBlocks(got, want) {
		t.Errorf("Raise of %v: %v, %d, want %v", short(l), short(got), e, short(want))
	}
}

func wantNoRaise(t *testing.T, sheet []api.Style, names []string, l []api.Op) {
	t.Helper()
	if got, e := ir.Raise(sheet, names, l); len(got) != 0 || e != api.ErrRange {
		t.Errorf("Raise of %v with %d styles and %d names: %v, %d, want ErrRange", short(l), len(sheet), len(names), short(got), e)
	}
}

func TestRaise(t *testing.T) {
	item, row, end := block(api.BlockItem), block(api.BlockRow), block(api.BlockEnd)
	wantRaise(t, nil)
	wantRaise(t, []api.Op{})
	wantRaise(t, paragraph(), paraOf())
	wantRaise(t, plainOps(opN(api.OpPara, 0), api.OpDone, opN(api.OpPara, 2), "a", api.OpDone, paragraph("b")),
		api.Block{Kind: api.BlockPara, Style: "b"}, api.Block{Kind: api.BlockPara, Style: "warn", Text: []api.Inline{inText("a")}}, paraOf(inText("b")))
	wantRaise(t, paragraph("a", opN(api.OpStyle, 2), api.OpTab, opN(api.OpLink, 2), "b", api.OpClose, api.OpBreak, api.OpClose, opN(api.OpNote, 1), api.OpClose, api.OpStyle, api.OpClose), paraOf(
		inText("a"), named(api.InStyle, "warn", 0, 0), in(api.InTab), named(api.InLink, "Help me", 0, 0), inText("b"), in(api.InClose), in(api.InBreak), in(api.InClose),
		named(api.InNote, "Tip", 0, 0), in(api.InClose), named(api.InStyle, "b", 0, 0), in(api.InClose)))
	wantRaise(t, plainOps(api.OpList, api.OpItem, opN(api.OpList, 1), api.OpEnd, paragraph(), api.OpItem, api.OpEnd, opTable(3, 100), api.OpRow, paragraph("a"), paragraph(), api.OpEnd),
		block(api.BlockList), item, api.Block{Kind: api.BlockList, N: 1}, end, paraOf(), item, end,
		api.Block{Kind: api.BlockTable, Widths: []int{3, 100}}, row, paraOf(inText("a")), paraOf(), end)
}

// TestRaiseOfAnyNames has names that could not be: they are told as they are. A link may be to what is a note.
func TestRaiseOfAnyNames(t *testing.T) {
	sheet, names := sheetOf("", "B 1", "\xff"), []string{"", " A\n", strings.Repeat("x", 1000), "same", "same"}
	got, e := ir.Raise(sheet, names, plainOps(opN(api.OpPara, 2), opN(api.OpStyle, 1), opN(api.OpLink, 2), api.OpClose, api.OpClose, api.OpStyle, opN(api.OpNote, 1), api.OpClose, api.OpLink, api.OpClose,
		api.OpClose, opN(api.OpLink, 4), api.OpClose, api.OpDone, op(api.OpPara), api.OpDone))
	want := []api.Block{{Kind: api.BlockPara, Style: "\xff", Text: []api.Inline{
		named(api.InStyle, "B 1", 0, 0), named(api.InLink, names[2], 0, 0), in(api.InClose), in(api.InClose), named(api.InStyle, "", 0, 0), named(api.InNote, " A\n", 0, 0), in(api.InClose),
		named(api.InLink, "", 0, 0), in(api.InClose), in(api.InClose), named(api.InLink, "same", 0, 0), in(api.InClose),
	}}, {Kind: api.BlockPara}}
	if e != api.OK || !sameBlocks(got, want) {
		t.Errorf("Raise: %v, %d, want %v", got, e, want)
	}
}

func TestRaiseOfWhatMayNotBe(t *testing.T) {
	sheet, names := theSheet(), namesOf(theDir())
	for _, l := range [][]api.Op{
		plainOps(api.OpDone), plainOps(api.OpPara), plainOps(api.OpTable, api.OpRow, api.OpEnd), plainOps("a"), plainOps(api.OpTab), plainOps(op(0)), paragraph(""), paragraph("a", "b"), paragraph("\n"),
		plainOps(opTable(), api.OpEnd), plainOps(opN(api.OpList, 2), api.OpEnd), plainOps(opN(api.OpPara, -2), api.OpDone), paragraph(api.OpLink), paragraph(api.OpLink, api.OpNote, api.OpClose, api.OpClose),
		times(api.MaxOps/2+1, paragraph()), paragraph(strings.Repeat("x", api.MaxText+1)), // also where Check's error is ErrLong
	} {
		wantNoRaise(t, sheet, names, l)
	}
	wantNoRaise(t, sheet, names, plainOps(opN(api.OpPara, len(sheet)), api.OpDone))
	wantNoRaise(t, sheet, names, paragraph(opN(api.OpStyle, len(sheet)), api.OpClose))
	for _, kind := range []api.OpKind{api.OpLink, api.OpNote} {
		wantNoRaise(t, sheet, names, paragraph(opN(kind, len(names)), api.OpClose))
		wantNoRaise(t, sheet, nil, paragraph(opN(kind, 0), api.OpClose))
		wantRaise(t, paragraph(opN(kind, len(names)-1), api.OpClose), paraOf(named(api.InLink+api.InlineKind(kind-api.OpLink), "End", 0, 0), in(api.InClose)))
	}
	wantNoRaise(t, nil, names, paragraph(api.OpStyle, api.OpClose))
	wantNoRaise(t, nil, nil, plainOps(op(api.OpPara), api.OpDone))
	if got, e := ir.Raise(nil, nil, paragraph("a")); e != api.OK || !sameBlocks(got, []api.Block{paraOf(inText("a"))}) {
		t.Errorf("Raise without styles and names: %v, %d", got, e)
	}
}

func TestRaiseSharesNothing(t *testing.T) {
	widths := []int{1, 2, 3}
	sheet, names := theSheet(), namesOf(theDir())
	l := plainOps(opTable(widths[:2]...), api.OpRow, paragraph("ab", api.OpLink, api.OpClose), paragraph(), api.OpEnd, op(0))[:10]
	l[0].Widths = widths[:2]
	before := deepOps(l)
	want := []api.Block{{Kind: api.BlockTable, Widths: []int{1, 2}}, block(api.BlockRow), paraOf(inText("ab"), named(api.InLink, "Home", 0, 0), in(api.InClose)), paraOf(), block(api.BlockEnd)}
	for range 2 {
		got, e := ir.Raise(sheet, names, l)
		if e != api.OK || !sameBlocks(got, want) {
			t.Fatal(got, e)
		}
		w, p := got[0].Widths, got[2].Text
		clear(w[:cap(w)])
		clear(p[:cap(p)])
		clear(got[:cap(got)])
		if !sameOps(l, before) || !slices.Equal(widths, []int{1, 2, 3}) || !slices.Equal(sheet, theSheet()) || !slices.Equal(names, namesOf(theDir())) {
			t.Fatal("changed: ", l, widths)
		}
	}
	got, _ := ir.Raise(sheet, names, l)
	clear(widths)
	clear(l)
	clear(names)
	if !sameBlocks(got, want) {
		t.Errorf("what was told goes with what was given: %v", got)
	}
}

// P11.5

// anyOps are operations that need not be a topic's.
func anyOps() []api.Op {
	return []api.Op{
		opText("ab"), {Kind: api.OpText, Text: "\u00e9", N: 7, Widths: []int{1, 2}}, {Kind: api.OpClose, Text: "lost"}, opTable(3, 4), opN(api.OpLink, -5),
		{Kind: 0, Text: "none"}, opText("\xff\n"), opN(api.OpNote, math.MaxInt), {Kind: 99, N: 1, Widths: []int{9}}, opN(api.OpLink, 3),
	}
}

func TestText(t *testing.T) {
	for _, x := range []struct {
		l    []api.Op
		want string
	}{
		{nil, ""}, {[]api.Op{}, ""}, {paragraph(), ""}, {paragraph("a"), "a"}, {plainOps(paragraph("a", api.OpTab, "b ", api.OpBreak, "c"), paragraph(" d")), "ab c d"},
		{plainOps("", "a", "", "b"), "ab"}, {anyOps(), "ab\u00e9\xff\n"}, {plainOps("\u00e9"[:1], "\u00e9"[1:]), "\u00e9"},
	} {
		if got := ir.Text(x.l); got != x.want {
			t.Errorf("Text of %v: %q, want %q", x.l, got, x.want)
		}
	}
}

func wantSplit(t *testing.T, l, bare []api.Op, longs ...int) {
	t.Helper()
	gotBare, gotLongs := ir.Split(l)
	mustSame(t, "Split", gotBare, bare)
	if !slices.Equal(gotLongs, longs) {
		t.Errorf("Split tells %v, want %v", gotLongs, longs)
	}
}

func TestSplit(t *testing.T) {
	wantSplit(t, nil, nil)
	wantSplit(t, []api.Op{}, nil)
	wantSplit(t, paragraph(), paragraph())
	wantSplit(t, plainOps(paragraph("ab", api.OpStyle, "\u4e2d", api.OpClose), opTable(1, 2)), plainOps(paragraph("", api.OpStyle, "", api.OpClose), opTable(1, 2)), 2, 3)
	wantSplit(t, plainOps("", "a", ""), plainOps("", "", ""), 0, 1, 0)
	bare := anyOps()
	bare[0].Text, bare[1].Text, bare[6].Text = "", "", "" // of no others
	wantSplit(t, anyOps(), bare, 2, 2, 2)
}

func wantJoin(t *testing.T, l []api.Op, longs []int, s string, want []api.Op) {
	t.Helper()
	got, e := ir.Join(l, longs, s)
	if e != api.OK || !sameOps(got, want) {
		t.Errorf("Join of %v, %v, %q: %v, %d, want %v", short(l), longs, s, short(got), e, short(want))
	}
}

func wantNoJoin(t *testing.T, l []api.Op, longs []int, s string, want api.Errno) {
	t.Helper()
	if got, e := ir.Join(l, longs, s); len(got) != 0 || e != want {
		t.Errorf("Join of %v, %v, %q: %v, %d, want %d", short(l), longs, s, short(got), e, want)
	}
}

func TestJoin(t *testing.T) {
	wantJoin(t, nil, nil, "", nil)
	wantJoin(t, []api.Op{}, []int{}, "", nil)
	wantJoin(t, paragraph(), nil, "", paragraph())
	two := paragraph("", api.OpTab, "")
	wantJoin(t, two, []int{1, 3}, "abcd", paragraph("a", api.OpTab, "bcd"))
	wantJoin(t, two, []int{3, 1}, "abcd", paragraph("abc", api.OpTab, "d"))
	wantJoin(t, paragraph("", api.OpTab, "", api.OpTab, ""), []int{1, 1, 1}, "\u4e2d", paragraph("\xe4", api.OpTab, "\xb8", api.OpTab, "\xad")) // bytes
	wantJoin(t, paragraph("old", api.OpTab, "older"), []int{1, 1}, "ab", paragraph("a", api.OpTab, "b"))
	filled := anyOps()
	filled[0].Text, filled[1].Text, filled[6].Text = "1", "23", "456"
	wantJoin(t, anyOps(), []int{1, 2, 3}, "123456", filled)
}

func TestJoinOfWrongCounts(t *testing.T) {
	two := paragraph("", api.OpTab, "")
	for _, longs := range [][]int{nil, {}, {4}, {1}, {1, 1, 2}, {1, 3, 0}, {2, 2, 4}, make([]int, 100)} {
		wantNoJoin(t, two, longs, "abcd", api.ErrRange)
	}
	wantNoJoin(t, nil, []int{1}, "a", api.ErrRange)
	wantNoJoin(t, paragraph(), []int{1}, "a", api.ErrRange)
	wantNoJoin(t, plainOps(api.Op{Kind: api.OpClose, Text: "no OpText"}), []int{1}, "a", api.ErrRange)
	for _, longs := range [][]int{{0, 4}, {4, 0}, {-1, 5}, {5, -1}, {math.MinInt, 1}, {0, 9}, {9, 0}, {9, -9}, {0, 0}} { // whatever the sum is
		wantNoJoin(t, two, longs, "abcd", api.ErrRange)
	}
}

func TestJoinOfWrongSums(t *testing.T) {
	two := paragraph("", api.OpTab, "")
	for _, longs := range [][]int{{1, 1}, {1, 2}, {2, 1}, {2, 3}, {4, 1}, {1, 4}, {5, 5}, {math.MaxInt, 5}, {1, math.MaxInt}, {math.MaxInt, math.MaxInt}} {
		wantNoJoin(t, two, longs, "abcd", api.ErrLong)
	}
	wantNoJoin(t, two, []int{1, 1}, "", api.ErrLong)
	wantNoJoin(t, two, []int{1, 1}, "a", api.ErrLong)
	wantNoJoin(t, nil, nil, "a", api.ErrLong)
	wantNoJoin(t, paragraph(), nil, "a", api.ErrLong)
	wantNoJoin(t, paragraph("", api.OpTab, "", api.OpTab, ""), []int{math.MaxInt, math.MaxInt, 6}, "abcd", api.ErrLong) // a sum that wraps round to 4
}

func TestSplitAndJoinShareNothing(t *testing.T) {
	room := anyOps()
	l := room[:9]
	longs := []int{2, 2, 2, 5}
	for range 2 {
		bare, told := ir.Split(l)
		whole, e := ir.Join(l, longs[:3], "abcdef")
		if len(bare) != 9 || e != api.OK || len(whole) != 9 {
			t.Fatal(bare, whole, e)
		}
		for _, got := range [][]api.Op{bare, whole} {
			for _, o := range got {
				clear(o.Widths[:cap(o.Widths)])
			}
			clear(got[:cap(got)])
		}
		clear(told[:cap(told)])
		if !sameOps(room, anyOps()) || !slices.Equal(longs, []int{2, 2, 2, 5}) {
			t.Fatal("changed: ", room, longs)
		}
	}
	bare, told := ir.Split(l)
	whole, _ := ir.Join(l, longs[:3], "abcdef")
	clear(room[3].Widths)
	clear(room)
	clear(longs)
	wantJoin(t, bare, told, ir.Text(anyOps()), anyOps()[:9])
	if ir.Text(whole) != "abcdef" || whole[3].Widths[1] != 4 {
		t.Errorf("what was told goes with what was given: %v", whole)
	}
}

// P11.6

func TestLinks(t *testing.T) {
	for _, x := range []struct{ l, want []api.Op }{
		{nil, nil}, {[]api.Op{}, nil}, {paragraph("a", api.OpStyle, api.OpClose), nil},
		{paragraph(opN(api.OpLink, 3), "a", api.OpClose, opN(api.OpNote, 1), api.OpClose, opN(api.OpLink, 3), api.OpClose, opN(api.OpLink, 0), api.OpClose),
			plainOps(opN(api.OpLink, 3), opN(api.OpNote, 1), opN(api.OpLink, 3), opN(api.OpLink, 0))},
		{plainOps(paragraph(opN(api.OpNote, 2), api.OpClose), api.OpList, api.OpItem, paragraph(opN(api.OpNote, 1), api.OpClose), api.OpEnd), plainOps(opN(api.OpNote, 2), opN(api.OpNote, 1))},
		{anyOps(), plainOps(opN(api.OpLink, -5), opN(api.OpNote, math.MaxInt), opN(api.OpLink, 3))},
	} {
		mustSame(t, "Links", ir.Links(x.l), x.want)
	}
}

func TestLinksShareNothing(t *testing.T) {
	l := []api.Op{opN(api.OpLink, 1), {Kind: api.OpNote, N: 2, Widths: []int{5, 6}}, opN(api.OpLink, 3)}
	before := deepOps(l)
	for range 2 {
		got := ir.Links(l[:2]) // what lies behind counts for nothing
		mustSame(t, "Links", got, before[:2])
		clear(got[1].Widths[:cap(got[1].Widths)])
		clear(got[:cap(got)])
		if !sameOps(l, before) {
			t.Fatal("changed: ", l)
		}
	}
	got := ir.Links(l)
	clear(l[1].Widths)
	clear(l)
	mustSame(t, "what was told, with what was given changed", got, before)
}
