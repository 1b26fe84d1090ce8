package ir_test

import (
	"math"
	"slices"
	"strings"
	"testing"

	"folio/api"
	"folio/ir"
)

// P11.3

func wantCheck(t *testing.T, l []api.Op, styles, topics int, at int, e api.Errno) {
	t.Helper()
	if gotAt, gotE := ir.Check(l, styles, topics); gotAt != at || gotE != e {
		t.Errorf("Check of %d, %v, with %d styles and %d topics: %d, %d, want %d, %d", len(l), short(l), styles, topics, gotAt, gotE, at, e)
	}
}

func wantTaken(t *testing.T, l []api.Op) {
	t.Helper()
	wantCheck(t, l, 1, 1, 0, api.OK)
}

// wantStop asks for the place of the first one that may not be.
func wantStop(t *testing.T, l []api.Op, at int) {
	t.Helper()
	wantCheck(t, l, 1, 1, at, api.ErrOp)
}

func TestCheckTakes(t *testing.T) {
	for _, l := range [][]api.Op{
		nil, {}, paragraph(), paragraph("a"), paragraph("a", api.OpTab, "b", api.OpBreak, api.OpBreak, "c"),
		paragraph(api.OpStyle, api.OpClose, api.OpLink, api.OpClose, api.OpNote, "x", api.OpClose),
		paragraph(api.OpStyle, api.OpLink, api.OpStyle, "a", api.OpClose, "b", api.OpClose, "c", api.OpClose, "d"),
		plainOps(paragraph("a"), paragraph("b"), paragraph()),
		plainOps(api.OpList, api.OpEnd), plainOps(opN(api.OpList, 1), api.OpItem, api.OpItem, api.OpEnd, paragraph()),
		plainOps(api.OpList, api.OpItem, paragraph("a"), api.OpList, api.OpItem, paragraph("b"), api.OpEnd, paragraph("c"), api.OpItem, paragraph(), paragraph(), api.OpEnd),
		plainOps(api.OpTable, api.OpEnd), plainOps(api.OpTable, api.OpRow, paragraph(), api.OpEnd),
		plainOps(opTable(0, 100, 7), api.OpRow, paragraph(), paragraph("b"), paragraph(), api.OpRow, paragraph("a"), paragraph("b"), paragraph("c"), api.OpEnd, api.OpTable, api.OpEnd, api.OpList, api.OpEnd),
	} {
		wantTaken(t, l)
	}
	wantCheck(t, nil, 0, 0, 0, api.OK)
	wantCheck(t, nil, math.MinInt, math.MinInt, 0, api.OK)
	wantCheck(t, paragraph("a"), 0, 0, 0, api.OK)
}

func TestCheckOfKindsThatAreNone(t *testing.T) {
	for _, kind := range []api.OpKind{0, -1, 15, 16, math.MaxInt, math.MinInt} {
		for _, ahead := range [][]api.Op{
			nil, plainOps(api.OpPara), plainOps(api.OpPara, "a", api.OpStyle), plainOps(api.OpList), plainOps(api.OpList, api.OpItem), plainOps(api.OpTable), plainOps(api.OpTable, api.OpRow),
			plainOps(api.OpTable, api.OpRow, paragraph()),
		} {
			wantStop(t, plainOps(ahead, op(kind)), len(ahead))
		}
	}
}

// situation is a beginning of a list, and the Kinds that may come behind it.
type situation struct {
	ahead []api.Op
	may   []api.OpKind
}

func situations() []situation {
	here := func(ahead []api.Op, may ...api.OpKind) situation { return situation{ahead, may} }
	bare := []api.OpKind{api.OpPara, api.OpList, api.OpTable}
	inList := []api.OpKind{api.OpPara, api.OpList, api.OpItem, api.OpEnd}
	inPara := []api.OpKind{api.OpText, api.OpStyle, api.OpLink, api.OpNote, api.OpTab, api.OpBreak, api.OpDone}
	behindText := []api.OpKind{api.OpStyle, api.OpLink, api.OpNote, api.OpTab, api.OpBreak, api.OpDone}
	inStyle := []api.OpKind{api.OpText, api.OpStyle, api.OpLink, api.OpNote, api.OpTab, api.OpBreak, api.OpClose}
	inLink := []api.OpKind{api.OpText, api.OpStyle, api.OpTab, api.OpBreak, api.OpClose}
	return []situation{
		here(nil, bare...), here(paragraph("a"), bare...), here(plainOps(api.OpList, api.OpEnd), bare...), here(plainOps(api.OpTable, api.OpEnd), bare...),
		here(plainOps(api.OpPara), inPara...), here(plainOps(api.OpPara, api.OpTab), inPara...), here(plainOps(api.OpPara, api.OpBreak), inPara...),
		here(plainOps(api.OpPara, "a"), behindText...), here(plainOps(api.OpPara, "a", api.OpTab), inPara...),
		here(plainOps(api.OpPara, api.OpStyle), inStyle...), here(plainOps(api.OpPara, "a", api.OpStyle), inStyle...),
		here(plainOps(api.OpPara, api.OpStyle, "a"), api.OpStyle, api.OpLink, api.OpNote, api.OpTab, api.OpBreak, api.OpClose),
		here(plainOps(api.OpPara, api.OpStyle, "a", api.OpClose), inPara...), here(plainOps(api.OpPara, api.OpLink, "a", api.OpClose), inPara...),
		here(plainOps(api.OpPara, api.OpLink), inLink...), here(plainOps(api.OpPara, api.OpNote), inLink...),
		here(plainOps(api.OpPara, api.OpLink, "a"), api.OpStyle, api.OpTab, api.OpBreak, api.OpClose),
		here(plainOps(api.OpPara, api.OpStyle, api.OpLink), inLink...), here(plainOps(api.OpPara, api.OpLink, api.OpStyle), inLink...),
		here(plainOps(api.OpPara, api.OpNote, api.OpStyle, api.OpStyle), inLink...), here(plainOps(api.OpPara, api.OpNote, api.OpStyle, api.OpClose), inLink...),
		here(plainOps(api.OpPara, api.OpStyle, api.OpNote, api.OpClose), inStyle...),
		here(plainOps(api.OpList), api.OpItem, api.OpEnd), here(plainOps(api.OpList, api.OpItem), inList...), here(plainOps(api.OpList, api.OpItem, paragraph("a")), inList...),
		here(plainOps(api.OpList, api.OpItem, api.OpItem), inList...), here(plainOps(api.OpList, api.OpItem, api.OpPara), inPara...),
		here(plainOps(api.OpList, api.OpItem, api.OpList), api.OpItem, api.OpEnd), here(plainOps(api.OpList, api.OpItem, api.OpList, api.OpItem), inList...),
		here(plainOps(api.OpList, api.OpItem, api.OpList, api.OpEnd), inList...), here(plainOps(api.OpList, api.OpItem, api.OpList, api.OpItem, paragraph(), api.OpEnd), inList...),
		here(plainOps(api.OpTable), api.OpRow, api.OpEnd), here(plainOps(api.OpTable, api.OpRow), api.OpPara), here(plainOps(api.OpTable, api.OpRow, api.OpPara), inPara...),
		here(plainOps(api.OpTable, api.OpRow, paragraph()), api.OpRow, api.OpEnd), here(plainOps(opTable(1, 1), api.OpRow, paragraph("a")), api.OpPara),
		here(plainOps(opTable(1, 1), api.OpRow, paragraph("a"), paragraph()), api.OpRow, api.OpEnd), here(plainOps(opTable(1, 1), api.OpRow, times(2, paragraph("a")), api.OpRow), api.OpPara),
		here(plainOps(opTable(0, 0), api.OpRow, times(2, paragraph()), api.OpRow, paragraph()), api.OpPara),
		here(plainOps(api.OpList, api.OpItem, paragraph(), api.OpEnd, api.OpTable), api.OpRow, api.OpEnd), // a list's items are no rows
	}
}

// TestCheckOfEachKindEverywhere puts each Kind behind each beginning.
func TestCheckOfEachKindEverywhere(t *testing.T) {
	for _, s := range situations() {
		if at, e := ir.Check(s.ahead, 1, 1); e != api.OK && (at != len(s.ahead) || e != api.ErrOp) {
			t.Fatalf("no beginning: %v, %d, %d", s.ahead, at, e)
		}
		for _, kind := range allKinds() {
			l := plainOps(s.ahead, kind)
			at, e := ir.Check(l, 1, 1)
			if slices.Contains(s.may, kind) {
				if e == api.OK && at != 0 || e != api.OK && (at != len(l) || e != api.ErrOp) {
					t.Errorf("%d behind %v: %d, %d, but it may stand there", kind, s.ahead, at, e)
				}
			} else if at != len(s.ahead) || e != api.ErrOp {
				t.Errorf("%d behind %v: %d, %d, but it may not stand there", kind, s.ahead, at, e)
			}
		}
	}
}

// placed answers a Kind's operation where it may stand, and its place.
func placed(kind api.OpKind) ([]api.Op, int) {
	for _, s := range situations() {
		if slices.Contains(s.may, kind) {
			return plainOps(s.ahead, kind), len(s.ahead)
		}
	}
	panic("nowhere")
}

func TestCheckOfFieldsThatAreNotUsed(t *testing.T) {
	for _, kind := range allKinds() {
		l, at := placed(kind)
		wantField := func(what string, used bool, set func(o *api.Op)) {
			t.Helper()
			bent := deepOps(l)
			set(&bent[at])
			if got, e := ir.Check(bent, 1, 1); !used && (got != at || e != api.ErrOp) {
				t.Errorf("%s of Kind %d is not used, but Check tells %d, %d, want %d", what, kind, got, e, at)
			}
		}
		usesN := slices.Contains([]api.OpKind{api.OpStyle, api.OpLink, api.OpNote, api.OpPara, api.OpList}, kind)
		for _, n := range []int{1, -1, 2, math.MaxInt, math.MinInt} {
			wantField("N", usesN, func(o *api.Op) { o.N = n })
		}
		for _, s := range []string{"x", " ", "\x00"} {
			wantField("Text", kind == api.OpText, func(o *api.Op) { o.Text = s })
		}
		for _, w := range [][]int{{0}, {1}, {1, 2}} {
			wantField("Widths", kind == api.OpTable, func(o *api.Op) { o.Widths = w })
		}
		if kind != api.OpTable { // none and an empty list are the same
			empty := deepOps(l)
			empty[at].Widths = []int{}
			if got, e := ir.Check(empty, 1, 1); e != api.OK && got <= at {
				t.Errorf("empty Widths of Kind %d: %d, %d", kind, got, e)
			}
		}
	}
}

// wantNumbers asks for the numbers that may stand in the operation at a place, and for those that may not.
func wantNumbers(t *testing.T, l []api.Op, at int, styles, topics int, may, not []int) {
	t.Helper()
	try := func(n int, e api.Errno) {
		t.Helper()
		bent := deepOps(l)
		bent[at].N = n
		if e == api.OK {
			wantCheck(t, bent, styles, topics, 0, e)
		} else {
			wantCheck(t, bent, styles, topics, at, e)
		}
	}
	for _, n := range may {
		try(n, api.OK)
	}
	for _, n := range not {
		try(n, api.ErrOp)
	}
}

func TestCheckOfNumbers(t *testing.T) {
	far := []int{math.MinInt, math.MaxInt, -2}
	odd := func(l ...int) []int { return append(l, far...) }
	list, para := plainOps(api.OpList, api.OpEnd), paragraph()
	wantNumbers(t, list, 0, 0, 0, []int{0, 1}, odd(-1, 2))
	styled := paragraph(api.OpStyle, api.OpClose)
	wantNumbers(t, styled, 1, 5, 0, []int{0, 4}, odd(-1, 5, 6))
	wantNumbers(t, styled, 1, 1, 9, []int{0}, odd(-1, 1))
	wantNumbers(t, styled, 1, math.MaxInt, 0, []int{0, math.MaxInt - 1}, odd(-1))
	for _, kind := range []api.OpKind{api.OpLink, api.OpNote} {
		linked := paragraph(kind, api.OpClose)
		wantNumbers(t, linked, 1, 0, 5, []int{0, 4}, odd(-1, 5, 6))
		wantNumbers(t, linked, 1, 9, 1, []int{0}, odd(-1, 1))
		wantNumbers(t, linked, 1, 0, math.MaxInt, []int{0, math.MaxInt - 1}, odd(-1))
	}
	wantNumbers(t, para, 0, 5, 0, []int{-1, 0, 4}, odd(5, 6))
	wantNumbers(t, para, 0, 0, 9, []int{-1}, odd(0, 1))
	wantNumbers(t, para, 0, math.MaxInt, 0, []int{-1, 0, math.MaxInt - 1}, far)
	for _, none := range []int{0, -1, -2, math.MinInt} {
		if none == 0 {
			wantNumbers(t, styled, 1, none, 9, nil, odd(-1, 0, 1))
		} else { // there are no numbers from -1 to less than that
			wantNumbers(t, para, 0, none, 9, nil, odd(-1, 0))
		}
		wantNumbers(t, paragraph(api.OpLink, api.OpClose), 1, 9, none, nil, odd(-1, 0, 1))
		wantNumbers(t, paragraph(api.OpNote, api.OpClose), 1, 9, none, nil, odd(-1, 0, 1))
	}
}

func TestCheckOfWidths(t *testing.T) {
	for _, w := range [][]int{{0}, {100}, {1, 2}, make([]int, api.MaxColumns), {0, 1, 2, 99, 100, 50, 100, 100}} {
		wantTaken(t, plainOps(opTable(w...), api.OpEnd))
		wantTaken(t, plainOps(opTable(w...), api.OpRow, times(len(w), paragraph("a")), api.OpEnd))
	}
	for _, w := range [][]int{nil, {}, {-1}, {101}, {1, 101, 1}, {1, 2, -1}, {math.MaxInt}, {math.MinInt}, make([]int, api.MaxColumns+1), make([]int, 1000)} {
		wantStop(t, plainOps(paragraph(), opTable(w...), api.OpEnd), 2)
	}
}

func TestCheckOfTexts(t *testing.T) {
	for _, s := range []string{"a", " ", "  a  ", "\u00e9", "\u4e2d\u0301", "\u00a0", "\ufffd", "{b|}\\.#"} {
		wantTaken(t, paragraph(s))
	}
	for _, s := range []string{"", "\n", "a\tb", "\x00", "\x1f", "\x7f", "\u0080", "\u009f", "\xff", "a\xe4\xb8"} {
		wantStop(t, paragraph("x", api.OpTab, s), 3)
	}
	wantStop(t, paragraph("x", "y"), 2)
	wantStop(t, paragraph("x", api.OpStyle, "y", "z", api.OpClose), 4)
	wantStop(t, paragraph("x", ""), 2)
	for _, between := range []any{api.OpTab, api.OpBreak, plainOps(api.OpStyle, api.OpClose), plainOps(api.OpDone, api.OpPara)} {
		wantTaken(t, paragraph("x", between, "y"))
	}
}

func TestCheckOfManyOpen(t *testing.T) {
	many := func(n int, kind api.OpKind) []api.Op { return times(n, plainOps(kind)) }
	const most = api.MaxNest
	shut := many(most, api.OpClose)
	wantTaken(t, paragraph(many(most, api.OpStyle), "x", api.OpTab, api.OpBreak, shut))
	wantStop(t, paragraph(many(most+1, api.OpStyle), many(most+1, api.OpClose)), 1+most)
	for _, link := range []api.OpKind{api.OpLink, api.OpNote} {
		wantTaken(t, paragraph(many(most-1, api.OpStyle), link, shut))
		wantTaken(t, paragraph(link, many(most-1, api.OpStyle), shut))
		wantStop(t, paragraph(many(most, api.OpStyle), link), 1+most)
		wantStop(t, paragraph(link, many(most, api.OpStyle)), 1+most)
		wantStop(t, paragraph(link, many(most-1, api.OpStyle), link), 1+most)
	}
	again := plainOps(many(most, api.OpStyle), api.OpClose, api.OpStyle, shut)
	wantTaken(t, paragraph(again, again))
	wantStop(t, paragraph(many(most, api.OpStyle), api.OpClose, many(2, api.OpStyle)), 1+most+1+1)
	// lists around it don't count
	lists := times(api.MaxDepth, plainOps(api.OpList, api.OpItem))
	wantTaken(t, plainOps(lists, paragraph(many(most, api.OpStyle), shut), many(api.MaxDepth, api.OpEnd)))
}

func TestCheckOfManyLists(t *testing.T) {
	lists := func(n int) []api.Op { return times(n, plainOps(api.OpList, api.OpItem)) }
	ends := func(n int) []api.Op { return times(n, plainOps(api.OpEnd)) }
	const most = api.MaxDepth
	wantTaken(t, plainOps(lists(most), paragraph("x"), ends(most)))
	wantStop(t, plainOps(lists(most+1), ends(most+1)), 2*most)
	wantStop(t, plainOps(lists(most), paragraph("x"), api.OpList), 2*most+3)
	wantTaken(t, plainOps(lists(most), api.OpEnd, lists(1), ends(most)))
	wantTaken(t, plainOps(lists(most), ends(most), lists(most), ends(most)))
	wantStop(t, plainOps(lists(most), api.OpEnd, lists(1), api.OpItem, api.OpList), 2*most+4)
	wantStop(t, plainOps(lists(most), api.OpTable), 2*most)
	wantStop(t, plainOps(lists(most), ends(most), api.OpEnd), 3*most)
}

func TestCheckOfRows(t *testing.T) {
	for wide := 1; wide <= api.MaxColumns; wide++ {
		table, full := opTable(make([]int, wide)...), plainOps(api.OpRow, times(wide, paragraph("a")))
		wantTaken(t, plainOps(table, full, full, api.OpEnd, table, full, api.OpEnd))
		for have := range wide {
			few := plainOps(api.OpRow, times(have, paragraph("a")))
			wantStop(t, plainOps(table, full, few, api.OpEnd), 1+len(full)+len(few))
			wantStop(t, plainOps(table, few, full, api.OpEnd), 1+len(few))
		}
		wantStop(t, plainOps(table, full, paragraph(), api.OpEnd), 1+len(full))
		wantStop(t, plainOps(table, full, full, paragraph(), api.OpEnd), 1+2*len(full))
	}
}

func TestCheckOfWhatIsLeftOpen(t *testing.T) {
	for _, s := range situations() {
		open := 0
		for _, o := range s.ahead {
			switch o.Kind {
			case api.OpPara, api.OpList, api.OpTable:
				open++
			case api.OpDone, api.OpEnd:
				open--
			}
		}
		if open == 0 {
			wantTaken(t, s.ahead)
		} else {
			wantStop(t, s.ahead, len(s.ahead))
		}
	}
	wantStop(t, plainOps(paragraph(), api.OpPara), 3)
	wantStop(t, plainOps(api.OpTable, api.OpRow, paragraph()), 4)
}

func TestCheckOfMany(t *testing.T) {
	most := times(api.MaxOps/2, paragraph())
	wantTaken(t, most)
	wantCheck(t, plainOps(most, api.OpPara), 1, 1, 0, api.ErrLong)
	wantCheck(t, plainOps(most[:api.MaxOps-2], paragraph("x")), 1, 1, 0, api.ErrLong)
	wantCheck(t, make([]api.Op, api.MaxOps+1), 1, 1, 0, api.ErrLong) // ahead of all of them that may not be
	wantStop(t, make([]api.Op, api.MaxOps), 0)
	wantStop(t, most[:api.MaxOps-1], api.MaxOps-1)
	wantStop(t, plainOps(most[:api.MaxOps-1], op(0)), api.MaxOps-1)
}

func TestCheckOfMuchText(t *testing.T) {
	x := strings.Repeat("x", api.MaxText)
	wantTaken(t, paragraph(x))
	wantCheck(t, paragraph(x+"x"), 1, 1, 0, api.ErrLong)
	wantTaken(t, plainOps(paragraph(x[1:]), paragraph("x")))
	wantCheck(t, plainOps(paragraph(x), paragraph("x")), 1, 1, 0, api.ErrLong)
	wantTaken(t, times(api.MaxText, paragraph("x")))
	wantCheck(t, plainOps(times(api.MaxText, paragraph("x")), paragraph("x")), 1, 1, 0, api.ErrLong)
	e := strings.Repeat("\u00e9", api.MaxText/2) // by bytes, not by characters
	wantTaken(t, paragraph(e))
	wantCheck(t, paragraph(e, api.OpTab, "x"), 1, 1, 0, api.ErrLong)
	wantCheck(t, plainOps(op(0), paragraph(x+"x")), 1, 1, 0, api.ErrLong) // ahead of those that may not be
	wantStop(t, plainOps(op(0), paragraph(x)), 0)
	wantStop(t, plainOps(op(0), x), 0)
	// the Text of one that has none counts, too
	wantCheck(t, plainOps(paragraph(x), api.Op{Kind: api.OpPara, N: -1, Text: "x"}, api.OpDone), 1, 1, 0, api.ErrLong)
}

func TestChecksFirstReason(t *testing.T) {
	wantStop(t, plainOps(paragraph(), api.OpDone, op(0)), 2)
	wantStop(t, plainOps(paragraph(), op(0), api.OpDone), 2)
	wantStop(t, paragraph(opN(api.OpStyle, 1), api.OpClose, ""), 1)
	wantStop(t, paragraph("", opN(api.OpStyle, 1)), 1)
	wantStop(t, plainOps(api.OpTable, api.OpRow, api.OpEnd, opTable(), api.OpDone), 2)
	wantStop(t, plainOps(opTable(), api.OpRow, api.OpEnd), 0)
	wantStop(t, plainOps(api.OpList, opN(api.OpItem, 1), api.OpPara), 1) // and left open
}

func TestChecksExamples(t *testing.T) {
	wantCheck(t, []api.Op{{Kind: api.OpDone}}, 0, 0, 0, api.ErrOp)
	wantCheck(t, []api.Op{{Kind: api.OpPara, N: -1}}, 0, 0, 1, api.ErrOp)
	wantCheck(t, []api.Op{{Kind: api.OpTable, Widths: []int{1}}, {Kind: api.OpRow}, {Kind: api.OpEnd}}, 0, 0, 2, api.ErrOp)
	wantCheck(t, paragraph("one ", api.OpStyle, "two", api.OpClose, " ", api.OpLink, "go", api.OpClose), 1, 2, 0, api.OK)
}

func TestCheckChangesNothing(t *testing.T) {
	room := plainOps(opTable(1), api.OpRow, paragraph("a"), api.OpEnd, op(0), "b")
	before := deepOps(room)
	for range 2 {
		wantTaken(t, room[:6]) // what lies behind counts for nothing
		wantStop(t, room, 6)
		if !sameOps(room, before) {
			t.Fatalf("changed: %v", room)
		}
	}
	widths := []int{1, 101}
	wantTaken(t, plainOps(opTable(widths[:1]...), api.OpEnd))
}
