package ir_test

import (
	"math"
	"slices"
	"strings"
	"testing"

	"folio/api"
	"folio/ir"
	"folio/names"
	"folio/src"
	"folio/style"
)

// P11.2

// theSheet and theDir are those of most tests here.
func theSheet() []api.Style { return sheetOf("b", "i", "warn") }

func theDir() []api.Named { return dirOf("Home", "*Tip", "Help me", "*Home sick", "End") }

func wantLower(t *testing.T, topic api.Topic, want ...api.Op) {
	t.Helper()
	wantLowerWith(t, theSheet(), theDir(), topic, want...)
}

func wantLowerWith(t *testing.T, sheet []api.Style, dir []api.Named, topic api.Topic, want ...api.Op) {
	t.Helper()
	got, err := ir.Lower(sheet, dir, topic, 3)
	if err != nil {
		t.Errorf("Lower: %v, want %v", err, short(want))
		return
	}
	mustSame(t, "Lower", got, want)
	if at, e := ir.Check(got, len(sheet), len(dir)); at != 0 || e != api.OK {
		t.Errorf("Check of what Lower tells: %d, %d", at, e)
	}
}

func wantLowerFault(t *testing.T, topic api.Topic, f api.Fault) {
	t.Helper()
	wantLowerFaultWith(t, theSheet(), theDir(), topic, f)
}

func wantLowerFaultWith(t *testing.T, sheet []api.Style, dir []api.Named, topic api.Topic, f api.Fault) {
	t.Helper()
	for _, source := range []int{3, 0, -1, math.MaxInt} {
		got, err := ir.Lower(sheet, dir, topic, source)
		if len(got) != 0 {
			t.Errorf("Lower with a fault tells %v", short(got))
		}
		f.Source = source
		wantFaultOf(t, "Lower", err, f)
	}
}

func TestLowerOfNoBlocks(t *testing.T) {
	for _, topic := range []api.Topic{{}, topicOf(), {Kind: api.KindNote, Name: "x", Title: "y", Blocks: []api.Block{}}} {
		wantLower(t, topic)
		wantLowerWith(t, nil, nil, topic)
	}
}

func TestLowerOfBlocks(t *testing.T) {
	item, row, end := block(api.BlockItem), block(api.BlockRow), block(api.BlockEnd)
	list := func(n int) api.Block { return api.Block{Kind: api.BlockList, N: n} }
	table := func(widths ...int) api.Block { return api.Block{Kind: api.BlockTable, Widths: widths} }
	wantLower(t, topicOf(paraOf()), plainOps(api.OpPara, api.OpDone)...)
	wantLower(t, topicOf(paraOf(), paraOf(inText("a")), paraOf()), plainOps(paragraph(), paragraph("a"), paragraph())...)
	wantLower(t, topicOf(list(0), end, list(1), item, end), plainOps(api.OpList, api.OpEnd, opN(api.OpList, 1), api.OpItem, api.OpEnd)...)
	wantLower(t, topicOf(list(1), item, paraOf(inText("a")), list(0), item, end, paraOf(), item, end),
		plainOps(opN(api.OpList, 1), api.OpItem, paragraph("a"), api.OpList, api.OpItem, api.OpEnd, paragraph(), api.OpItem, api.OpEnd)...)
	wantLower(t, topicOf(table(0, 100), end, table(7), row, paraOf(), row, paraOf(inText("a")), end),
		plainOps(opTable(0, 100), api.OpEnd, opTable(7), api.OpRow, paragraph(), api.OpRow, paragraph("a"), api.OpEnd)...)
}

// TestLowerLooksAtWhatABlockHas has fields that a block's, a piece's kind does not use: they count for nothing.
func TestLowerLooksAtWhatABlockHas(t *testing.T) {
	full := func(kind api.BlockKind) api.Block {
		return api.Block{Kind: kind, N: 1, Style: "none", Widths: []int{50}, Text: []api.Inline{inText("lost"), named(api.InLink, "none", 1, 1), in(99)}, Line: 5}
	}
	para := full(api.BlockPara)
	para.Style = "i"
	para.Text = []api.Inline{
		{Kind: api.InText, Text: "a", Name: "none", Line: 1, Col: 2},
		{Kind: api.InStyle, Text: "lost", Name: "b"}, {Kind: api.InClose, Text: "lost", Name: "none"},
		{Kind: api.InLink, Text: "lost", Name: "home"}, {Kind: api.InTab, Text: "lost", Name: "none"}, {Kind: api.InBreak, Text: "lost", Name: "none"}, in(api.InClose),
		{Kind: api.InNote, Text: "lost", Name: "tip"}, in(api.InClose),
	}
	wantLower(t, topicOf(full(api.BlockList), full(api.BlockItem), para, full(api.BlockEnd)), plainOps(
		opN(api.OpList, 1), api.OpItem, opN(api.OpPara, 1), "a", api.OpStyle, api.OpClose, api.OpLink, api.OpTab, api.OpBreak, api.OpClose, opN(api.OpNote, 1), api.OpClose, api.OpDone,
		api.OpEnd)...)
	wantLower(t, topicOf(full(api.BlockTable), full(api.BlockRow), para, full(api.BlockEnd)), plainOps(
		opTable(50), api.OpRow, opN(api.OpPara, 1), "a", api.OpStyle, api.OpClose, api.OpLink, api.OpTab, api.OpBreak, api.OpClose, opN(api.OpNote, 1), api.OpClose, api.OpDone,
		api.OpEnd)...)
}

func TestLowerOfStyles(t *testing.T) {
	styledPara := func(name string) api.Block { return api.Block{Kind: api.BlockPara, Style: name, Line: 12} }
	wantLower(t, topicOf(styledPara(""), styledPara("b"), styledPara("warn")), plainOps(api.OpPara, api.OpDone, op(api.OpPara), api.OpDone, opN(api.OpPara, 2), api.OpDone)...)
	wantLower(t, topicWith(named(api.InStyle, "warn", 1, 1), named(api.InStyle, "b", 1, 2), in(api.InClose), inText("x"), in(api.InClose)),
		paragraph(opN(api.OpStyle, 2), api.OpStyle, api.OpClose, "x", api.OpClose)...)
	for _, name := range []string{"none", "B", " b", "b ", "warn:b"} {
		wantLowerFault(t, topicOf(styledPara("b"), styledPara(name)), api.Fault{Code: api.ErrNoStyle, Line: 12, Word: name})
		wantLowerFault(t, topicWith(inText("x"), named(api.InStyle, name, 4, 9)), api.Fault{Code: api.ErrNoStyle, Line: 4, Col: 9, Word: name})
	}
	wantLowerFault(t, topicWith(named(api.InStyle, "", -4, math.MinInt)), api.Fault{Code: api.ErrNoStyle, Line: -4, Col: math.MinInt})
	wantLowerFaultWith(t, nil, nil, topicOf(styledPara("b")), api.Fault{Code: api.ErrNoStyle, Line: 12, Word: "b"})
	// of two of one name the first; a style that has no name is found by none, but no paragraph asks for it
	odd := sheetOf("x", "y", "y", "")
	wantLowerWith(t, odd, nil, topicOf(styledPara("y"), styledPara("")), plainOps(opN(api.OpPara, 1), api.OpDone, api.OpPara, api.OpDone)...)
	wantLowerWith(t, odd, nil, topicWith(named(api.InStyle, "y", 0, 0), in(api.InClose), named(api.InStyle, "", 0, 0), in(api.InClose)),
		paragraph(opN(api.OpStyle, 1), api.OpClose, opN(api.OpStyle, 3), api.OpClose)...)
}

func TestLowerOfNames(t *testing.T) {
	linkOf := func(name string) api.Inline { return named(api.InLink, name, 5, 6) }
	noteOf := func(name string) api.Inline { return named(api.InNote, name, 5, 6) }
	shut := in(api.InClose)
	wantLower(t, topicWith(linkOf("Home"), shut, linkOf("Help me"), shut, noteOf("Tip"), shut, noteOf("Home sick"), shut, linkOf("End"), shut), paragraph(
		op(api.OpLink), api.OpClose, opN(api.OpLink, 2), api.OpClose, opN(api.OpNote, 1), api.OpClose, opN(api.OpNote, 3), api.OpClose, opN(api.OpLink, 4), api.OpClose)...)
	for _, name := range []string{"home", "HOME", " hOME  "} { // that have one Norm
		wantLower(t, topicWith(linkOf(name), shut), paragraph(op(api.OpLink), api.OpClose)...)
	}
	wantLower(t, topicWith(noteOf("  HOME   sick"), inText("x"), shut), paragraph(opN(api.OpNote, 3), "x", api.OpClose)...)
	for _, name := range []string{"none", "Hom", "Home2", "Helpme", "", " ", "Ho\nme", "\xff", "Home" + strings.Repeat(" ", api.MaxName)} {
		wantLowerFault(t, topicWith(linkOf(name), shut), api.Fault{Code: api.ErrNoTarget, Line: 5, Col: 6, Word: name})
		wantLowerFault(t, topicWith(noteOf(name), shut), api.Fault{Code: api.ErrNoTarget, Line: 5, Col: 6, Word: name})
	}
	wantLowerFault(t, topicWith(linkOf("TIP"), shut), api.Fault{Code: api.ErrNoTarget, Line: 5, Col: 6, Word: "TIP"}) // of the other kind
	wantLowerFault(t, topicWith(noteOf("Home"), shut), api.Fault{Code: api.ErrNoTarget, Line: 5, Col: 6, Word: "Home"})
	wantLowerFaultWith(t, nil, nil, topicWith(linkOf("Home"), shut), api.Fault{Code: api.ErrNoTarget, Line: 5, Col: 6, Word: "Home"})
}

// TestLowerOfOddDirectories has some that nobody collected: their Norms alone count, and of two that are the same the first.
func TestLowerOfOddDirectories(t *testing.T) {
	dir := []api.Named{{Name: "a", Norm: "b"}, {Name: "c", Norm: "a"}, {Name: "d", Norm: "a"}, {Norm: "n", Kind: api.KindNote}, {Norm: "n"}, {Norm: "k", Kind: 2}, {Norm: ""}, {Norm: "Big"}}
	wantLowerWith(t, nil, dir, topicWith(named(api.InLink, "A", 1, 1), in(api.InClose), named(api.InLink, "b", 1, 1), in(api.InClose), named(api.InNote, "N", 1, 1), in(api.InClose)),
		paragraph(opN(api.OpLink, 1), api.OpClose, op(api.OpLink), api.OpClose, opN(api.OpNote, 3), api.OpClose)...)
	for _, name := range []string{"c", "d", "n", "k", "", " ", "Big", "big"} {
		wantLowerFaultWith(t, nil, dir, topicWith(named(api.InLink, name, 1, 2)), api.Fault{Code: api.ErrNoTarget, Line: 1, Col: 2, Word: name})
	}
	wantLowerFaultWith(t, nil, dir, topicWith(named(api.InNote, "k", 1, 2)), api.Fault{Code: api.ErrNoTarget, Line: 1, Col: 2, Word: "k"})
}

func TestLowerOfTexts(t *testing.T) {
	wantLower(t, topicWith(inText("")), paragraph()...)
	wantLower(t, topicWith(inText(""), inText("")), paragraph()...)
	wantLower(t, topicWith(inText("a"), inText("b")), paragraph("ab")...)
	wantLower(t, topicWith(inText("a"), inText(""), inText(" b "), inText("c")), paragraph("a b c")...)
	wantLower(t, topicWith(inText(""), inText("a"), in(api.InTab), inText(""), in(api.InBreak), inText("b"), inText("")), paragraph("a", api.OpTab, api.OpBreak, "b")...)
	wantLower(t, topicWith(inText("a"), named(api.InStyle, "b", 0, 0), inText("b"), in(api.InClose), inText("c")), paragraph("a", api.OpStyle, "b", api.OpClose, "c")...)
	wantLower(t, topicWith(named(api.InStyle, "b", 0, 0), inText(""), in(api.InClose)), paragraph(api.OpStyle, api.OpClose)...)
	wantLower(t, topicOf(paraOf(inText("a")), paraOf(inText("b"))), plainOps(paragraph("a"), paragraph("b"))...)
	// bytes of one character, parted
	wantLower(t, topicWith(inText("\u00e9"[:1]), inText("\u00e9"[1:])), paragraph("\u00e9")...)
	wantLowerFault(t, topicWith(inText("\u00e9"[:1]), in(api.InTab), inText("\u00e9"[1:])), api.Fault{Code: api.ErrOp, Line: 7})
	many := slices.Repeat([]api.Inline{inText("x")}, api.MaxText)
	wantLower(t, topicWith(many...), paragraph(strings.Repeat("x", api.MaxText))...)
}

func TestLowerOfKindsThatAreNone(t *testing.T) {
	for _, kind := range []api.BlockKind{0, -1, 7, 8, math.MaxInt, math.MinInt} {
		b := api.Block{Kind: kind, N: 1, Style: "b", Line: 21}
		wantLowerFault(t, topicOf(b), api.Fault{Code: api.ErrOp, Line: 21})
		wantLowerFault(t, topicOf(paraOf(), b, paraOf()), api.Fault{Code: api.ErrOp, Line: 21})
	}
	for _, kind := range []api.InlineKind{0, -1, 8, 9, math.MaxInt, math.MinInt} {
		p := api.Inline{Kind: kind, Text: "x", Name: "b", Line: 22, Col: 23}
		wantLowerFault(t, topicWith(p), api.Fault{Code: api.ErrOp, Line: 22, Col: 23})
		wantLowerFault(t, topicOf(paraOf(), paraOf(inText("x"), p, in(api.InClose))), api.Fault{Code: api.ErrOp, Line: 22, Col: 23})
	}
}

func TestLowersFirstFault(t *testing.T) {
	badStyle, badLink, badKind := named(api.InStyle, "none", 1, 2), named(api.InLink, "gone", 3, 4), api.Inline{Line: 5, Col: 6}
	styleFault, linkFault := api.Fault{Code: api.ErrNoStyle, Line: 1, Col: 2, Word: "none"}, api.Fault{Code: api.ErrNoTarget, Line: 3, Col: 4, Word: "gone"}
	kindFault := api.Fault{Code: api.ErrOp, Line: 5, Col: 6}
	wantLowerFault(t, topicWith(badStyle, badLink, badKind), styleFault)
	wantLowerFault(t, topicWith(badLink, badKind, badStyle), linkFault)
	wantLowerFault(t, topicWith(badKind, badStyle, badLink), kindFault)
	wantLowerFault(t, topicOf(paraOf(inText("x"), badLink), paraOf(badStyle)), linkFault)
	wantLowerFault(t, topicOf(paraOf(inText("x")), paraOf(badKind), api.Block{Line: 9}), kindFault)
	wantLowerFault(t, topicOf(api.Block{Line: 9}, paraOf(badStyle)), api.Fault{Code: api.ErrOp, Line: 9})
	// a paragraph's style ahead of its pieces
	wantLowerFault(t, topicOf(api.Block{Kind: api.BlockPara, Style: "lost", Text: []api.Inline{badLink}, Line: 8}), api.Fault{Code: api.ErrNoStyle, Line: 8, Word: "lost"})
	// what Check would not take behind all of these
	wantLowerFault(t, topicOf(block(api.BlockItem), paraOf(in(api.InClose), inText("\n"), badLink)), linkFault)
}

func TestLowerOfWhatCheckDoesNotTake(t *testing.T) {
	b, shut, link := named(api.InStyle, "b", 1, 1), in(api.InClose), named(api.InLink, "Home", 1, 1)
	for _, topic := range []api.Topic{
		topicOf(block(api.BlockItem)), topicOf(block(api.BlockRow)), topicOf(block(api.BlockEnd)), topicOf(block(api.BlockList)),
		topicOf(block(api.BlockList), paraOf(), block(api.BlockEnd)),
		topicOf(api.Block{Kind: api.BlockList, N: 2}, block(api.BlockEnd)), topicOf(api.Block{Kind: api.BlockList, N: -1}, block(api.BlockEnd)),
		topicOf(block(api.BlockTable), block(api.BlockEnd)), topicOf(api.Block{Kind: api.BlockTable, Widths: make([]int, 9)}, block(api.BlockEnd)),
		topicOf(api.Block{Kind: api.BlockTable, Widths: []int{101}}, block(api.BlockEnd)),
		topicOf(api.Block{Kind: api.BlockTable, Widths: []int{1}}, block(api.BlockRow), block(api.BlockEnd)),
		topicWith(b), topicWith(shut), topicWith(b, shut, shut), topicWith(link, link, shut, shut), topicWith(inText("\n")), topicWith(inText("a\xff")),
		topicWith(inText(strings.Repeat("x", api.MaxText+1))), // also where Check's error is ErrLong
		topicWith(slices.Repeat([]api.Inline{b, shut}, api.MaxOps/2)...),
	} {
		wantLowerFault(t, topic, api.Fault{Code: api.ErrOp, Line: 7})
	}
	wantLowerFault(t, api.Topic{Line: math.MinInt, Name: "x", Blocks: []api.Block{block(api.BlockEnd)}}, api.Fault{Code: api.ErrOp, Line: math.MinInt})
}

func TestTheFirstExample(t *testing.T) {
	s, err := src.Parse(".topic Home\n.topic a\none {b two} {link Home|go}\n")
	if err != nil {
		t.Fatal(err)
	}
	dir, err := names.Collect([]api.Source{s})
	if err != nil {
		t.Fatal(err)
	}
	wantLowerWith(t, style.Base(), dir, s.Topics[0])
	wantLowerWith(t, style.Base(), dir, s.Topics[1], paragraph("one ", api.OpStyle, "two", api.OpClose, " ", api.OpLink, "go", api.OpClose)...)
}

func TestLowerSharesNothing(t *testing.T) {
	widths := []int{1, 2, 3}
	topic := topicOf(api.Block{Kind: api.BlockTable, Widths: widths[:2]}, block(api.BlockRow), paraOf(inText("a"), inText("b")), paraOf(), block(api.BlockEnd), paraOf())
	topic.Blocks = topic.Blocks[:5] // what lies behind counts for nothing
	blocks := deepBlocks(topic.Blocks)
	sheet, dir := theSheet(), theDir()
	want := plainOps(opTable(1, 2), api.OpRow, paragraph("ab"), paragraph(), api.OpEnd)
	for range 2 {
		l, err := ir.Lower(sheet, dir, topic, 0)
		if err != nil || !sameOps(l, want) {
			t.Fatal(l, err)
		}
		w := l[0].Widths
		clear(w[:cap(w)])
		clear(l[:cap(l)])
		if !sameBlocks(topic.Blocks, blocks) || !slices.Equal(widths, []int{1, 2, 3}) || !slices.Equal(sheet, theSheet()) || !slices.Equal(dir, theDir()) {
			t.Fatal("changed: ", topic, widths)
		}
	}
	l, _ := ir.Lower(sheet, dir, topic, 0)
	clear(widths)
	clear(topic.Blocks)
	mustSame(t, "what was told, with what was given changed", l, want)
}
