package link_test

import (
	"errors"
	"math"
	"slices"
	"strconv"
	"strings"
	"testing"

	"folio/api"
	"folio/fault"
	"folio/link"
	"folio/names"
	"folio/src"
)

// P8.1, P8.4, P8.7

func text(s string) api.Inline { return api.Inline{Kind: api.InText, Text: s, Line: 1, Col: 1} }

func linkTo(name string, line, col int) api.Inline {
	return api.Inline{Kind: api.InLink, Name: name, Line: line, Col: col}
}

func noteTo(name string, line, col int) api.Inline {
	return api.Inline{Kind: api.InNote, Name: name, Line: line, Col: col}
}

// topic answers one of this name with a paragraph of these pieces.
func topic(name string, pieces ...api.Inline) api.Topic {
	return api.Topic{Name: name, Blocks: []api.Block{{Kind: api.BlockPara, Text: pieces}}}
}

func source(l ...api.Topic) api.Source { return api.Source{Topics: l} }

// dirOf answers a directory of these Norms; one that begins with * is a note's.
func dirOf(norms ...string) []api.Named {
	var dir []api.Named
	for i, norm := range norms {
		d := api.Named{Name: norm, Norm: norm, At: i, Line: 10 * i}
		if rest, ok := strings.CutPrefix(norm, "*"); ok {
			d = api.Named{Name: rest, Norm: rest, At: i, Kind: api.KindNote, Line: 10 * i}
		}
		dir = append(dir, d)
	}
	return dir
}

func wantRefs(t *testing.T, sources []api.Source, dir []api.Named, want ...api.Refer) {
	t.Helper()
	got, err := link.Refs(sources, dir)
	if err != nil || len(got) != len(want) {
		t.Errorf("Refs: %d, %v, want %d", len(got), err, len(want))
		return
	}
	for i, r := range want {
		if got[i] != r {
			t.Errorf("Refs tells at %d %+v, want %+v", i, got[i], r)
		}
	}
}

func wantFault(t *testing.T, sources []api.Source, dir []api.Named, f api.Fault) {
	t.Helper()
	l, err := link.Refs(sources, dir)
	if len(l) != 0 {
		t.Errorf("Refs with a fault tells %d references", len(l))
	}
	all := fault.All(err)
	if len(all) != 1 || len(all[0].Trail) != 0 {
		t.Errorf("Refs tells %d faults, want %d alone", len(all), f.Code)
		return
	}
	got := all[0]
	if got.Code != f.Code || got.Source != f.Source || got.Line != f.Line || got.Col != f.Col || got.Word != f.Word {
		t.Errorf("Refs: %d at %d:%d:%d %.80q, want %d at %d:%d:%d %.80q", got.Code, got.Source, got.Line, got.Col, got.Word, f.Code, f.Source, f.Line, f.Col, f.Word)
	}
	var e *fault.Error
	if !errors.As(err, &e) || !errors.Is(err, fault.Code(f.Code)) || !fault.Is(err, f.Code) {
		t.Errorf("%v is no error of ours", err)
	}
}

func TestRefsOfNone(t *testing.T) {
	dir := dirOf("a", "b")
	for _, sources := range [][]api.Source{
		nil, {}, {{}}, make([]api.Source, api.MaxSources), {{Topics: []api.Topic{}}}, {{Styles: []api.StyleDef{{Text: "a"}}}},
		{source(api.Topic{Name: "a"}, api.Topic{Name: "", Blocks: []api.Block{}}, topic("b"))},
		{source(topic("a", text("b")), topic("a", []api.Inline{}...))},
	} {
		wantRefs(t, sources, nil)
		wantRefs(t, sources, []api.Named{})
		wantRefs(t, sources, dir)
	}
}

func TestRefs(t *testing.T) {
	sources := []api.Source{
		source(topic("Home", text("see "), linkTo("Help", 2, 5), text("there"), api.Inline{Kind: api.InClose}, noteTo("Tip", 3, 1))),
		{},
		source(
			topic("Help"),
			topic("More", linkTo("Home", 9, 9), linkTo("Help", 9, 9), linkTo("Home", 4, 2), linkTo("More", 0, 0)),
		),
		source(api.Topic{Name: "Tip", Kind: api.KindNote, Blocks: []api.Block{{Text: []api.Inline{linkTo("More", -1, math.MaxInt)}}}}),
	}
	wantRefs(t, sources, dirOf("home", "help", "more", "*tip"),
		api.Refer{From: 0, To: 1, Name: "Help", Line: 2, Col: 5},
		api.Refer{From: 0, To: 3, Note: 1, Name: "Tip", Line: 3, Col: 1},
		api.Refer{From: 2, To: 0, Name: "Home", Line: 9, Col: 9},
		api.Refer{From: 2, To: 1, Name: "Help", Line: 9, Col: 9},
		api.Refer{From: 2, To: 0, Name: "Home", Line: 4, Col: 2}, // in the order of pieces, not of lines
		api.Refer{From: 2, To: 2, Name: "More"},
		api.Refer{From: 3, To: 2, Name: "More", Line: -1, Col: math.MaxInt},
	)
}

func TestRefsOfWhatWasRead(t *testing.T) {
	var sources []api.Source
	for _, s := range []string{
		"# one\n.topic Home\nSee {link  help  Me|there}, {b {note TIP}}.\n\n.list bullet\n.item\n{link Home}\n.end\n",
		".style a\n",
		".topic Help  me\n.table 1 2\n.row\n{note Tip|x}\n\ny {i z {link home|{b w}}}\n.end\n.note Tip\n{tab}\n{link Help Me}\n",
	} {
		l, err := src.Parse(s)
		if err != nil {
			t.Fatal(err)
		}
		sources = append(sources, l)
	}
	dir, err := names.Collect(sources)
	if err != nil {
		t.Fatal(err)
	}
	wantRefs(t, sources, dir,
		api.Refer{From: 0, To: 1, Name: "help Me", Line: 3, Col: 5},
		api.Refer{From: 0, To: 2, Note: 1, Name: "TIP", Line: 3, Col: 32},
		api.Refer{From: 0, To: 0, Name: "Home", Line: 7, Col: 1},
		api.Refer{From: 1, To: 2, Note: 1, Name: "Tip", Line: 4, Col: 1},
		api.Refer{From: 1, To: 0, Name: "home", Line: 6, Col: 8},
		api.Refer{From: 2, To: 1, Name: "Help Me", Line: 10, Col: 1},
	)
}

// TestRefsOfAllBlocks has pieces in blocks and topics that nobody read.
func TestRefsOfAllBlocks(t *testing.T) {
	one := api.Topic{Name: "\xff", Kind: 7}
	var want []api.Refer
	for kind := range api.BlockKind(9) {
		one.Blocks = append(one.Blocks, api.Block{Kind: kind - 1, Text: []api.Inline{text("x"), linkTo("b", int(kind), 3)}}, api.Block{Kind: kind})
		want = append(want, api.Refer{From: 1, To: 1, Name: "b", Line: int(kind), Col: 3})
	}
	wantRefs(t, []api.Source{source(api.Topic{}, one)}, dirOf("a", "b"), want...)
}

// TestRefsOfNoOtherPieces has names on pieces that refer to nothing.
func TestRefsOfNoOtherPieces(t *testing.T) {
	var pieces []api.Inline
	for _, kind := range []api.InlineKind{-1, 0, api.InText, api.InStyle, api.InClose, api.InTab, api.InBreak, 8, math.MaxInt, math.MinInt} {
		pieces = append(pieces, api.Inline{Kind: kind, Text: "a", Name: "a"}, api.Inline{Kind: kind, Text: "none", Name: "none"})
	}
	sources := []api.Source{source(topic("a", pieces...))}
	wantRefs(t, sources, dirOf("a"))
	wantRefs(t, sources, nil)
	sources[0].Topics[0].Keys = []api.KeyRef{{Term: "none"}}
	sources[0].Topics[0].Sees = []api.SeeRef{{From: "a", To: "none"}}
	wantRefs(t, sources, dirOf("a"))
}

func TestRefsNumbersTopics(t *testing.T) {
	// From goes by the sources alone, To by the directory alone.
	var sources []api.Source
	var want []api.Refer
	dir := dirOf("x", "y", "z")
	for i := range 30 {
		name := []string{"x", "y", "z"}[i%3]
		one := topic("t", linkTo(name, i, 1))
		if i%4 == 0 {
			sources = append(sources, source(one, topic("none")))
		} else {
			sources = append(sources, source(), source(one), source(api.Topic{Kind: api.KindNote}))
		}
		want = append(want, api.Refer{From: 2 * i, To: i % 3, Name: name, Line: i, Col: 1})
	}
	wantRefs(t, sources, dir, want...)
	l := make([]api.Source, 1000) // of how many sources there are the chapter says nothing
	l[999] = source(topic("a", linkTo("a", 1, 1)))
	wantRefs(t, l, dirOf("a"), api.Refer{Name: "a", Line: 1, Col: 1})
	l[999].Topics[0].Blocks[0].Text[0].Name = "b"
	wantFault(t, l, dirOf("a"), api.Fault{Code: api.ErrBroken, Source: 999, Line: 1, Col: 1, Word: "b"})
}

// longest is a name as long as may be.
func longest() string { return strings.Repeat("n", api.MaxName) }

func TestRefsByOneName(t *testing.T) {
	dir := dirOf("home", "my topic", "*tip", "äpfel", "ёж", longest(), "a\u00a0b", "home page")
	for name, to := range map[string]int{
		"home": 0, "Home": 0, "HOME": 0, "hOmE": 0, " home": 0, "home ": 0, "  Home   ": 0, strings.Repeat(" ", 60) + "HOME": 0,
		"my topic": 1, "My Topic": 1, "my    TOPIC": 1, "  My   Topic ": 1,
		"ÄPFEL": 3, "Äpfel": 3, "äpfel": 3, "ЁЖ": 4, "Ёж": 4,
		longest(): 5, strings.ToUpper(longest()): 5, "A\u00a0B": 6, "Home  Page": 7,
	} {
		wantRefs(t, []api.Source{source(topic("a", linkTo(name, 1, 2)))}, dir, api.Refer{To: to, Name: name, Line: 1, Col: 2})
	}
	for _, name := range []string{"tip", "TIP", " Tip  "} {
		wantRefs(t, []api.Source{source(topic("a", noteTo(name, 1, 2)))}, dir, api.Refer{To: 2, Note: 1, Name: name, Line: 1, Col: 2})
	}
	for _, name := range []string{"hom", "homes", "ho me", "mytopic", "my", "apfel", "A\u0308pfel", "еж", longest()[1:], "a b", "home\u200b", "0", "*tip"} {
		for _, piece := range []api.Inline{linkTo(name, 1, 2), noteTo(name, 1, 2)} {
			wantFault(t, []api.Source{source(topic("a", piece))}, dir, api.Fault{Code: api.ErrBroken, Line: 1, Col: 2, Word: name})
		}
	}
}

// TestRefsByTheNorm has directories whose Norms are not those of their Names.
func TestRefsByTheNorm(t *testing.T) {
	sources := []api.Source{source(topic("A", linkTo("Home", 1, 2)))}
	wantRefs(t, sources, []api.Named{{Name: "Home", Norm: "other"}, {Name: "other", Norm: "home"}}, api.Refer{To: 1, Name: "Home", Line: 1, Col: 2})
	wantRefs(t, sources, []api.Named{{Norm: "a"}, {Norm: "home", Source: 9, At: -3, Line: 77}}, api.Refer{To: 1, Name: "Home", Line: 1, Col: 2})
	broken := api.Fault{Code: api.ErrBroken, Line: 1, Col: 2, Word: "Home"}
	wantFault(t, sources, []api.Named{{Name: "Home"}, {Name: "home", Norm: "Home"}, {Name: "Home", Norm: "home "}}, broken)
	wantFault(t, sources, nil, broken)
	wantFault(t, sources, []api.Named{}, broken)
	wantFault(t, sources, dirOf("a"), broken)
}

func TestRefsToTheFirstOfANorm(t *testing.T) {
	link, note := linkTo("A", 1, 2), noteTo("A", 1, 2)
	dir := dirOf("b", "a", "c", "a", "a")
	wantRefs(t, []api.Source{source(topic("x", link))}, dir, api.Refer{To: 1, Name: "A", Line: 1, Col: 2})
	dir = dirOf("b", "*a", "c", "*a")
	wantRefs(t, []api.Source{source(topic("x", note))}, dir, api.Refer{To: 1, Note: 1, Name: "A", Line: 1, Col: 2})
	dir = dirOf("*a", "a") // a later one of the kind that is asked for is not looked at
	wantRefs(t, []api.Source{source(topic("x", note))}, dir, api.Refer{To: 0, Note: 1, Name: "A", Line: 1, Col: 2})
	wantFault(t, []api.Source{source(topic("x", link))}, dir, api.Fault{Code: api.ErrOther, Line: 1, Col: 2, Word: "A"})
	dir = dirOf("a", "*a")
	wantRefs(t, []api.Source{source(topic("x", link))}, dir, api.Refer{To: 0, Name: "A", Line: 1, Col: 2})
	wantFault(t, []api.Source{source(topic("x", note))}, dir, api.Fault{Code: api.ErrOther, Line: 1, Col: 2, Word: "A"})
}

// refused are texts that names.Norm does not take.
func refused() []string {
	return []string{
		"", " ", "   ", "\t", "a\t", "a\nb", "\x00", "a\x1f", "\x7f", "a\u0080b", "\u009f", "\xff", "a\xffb", "\xc3", "\xed\xa0\x80",
		strings.Repeat("a", api.MaxName+1), strings.Repeat(" ", api.MaxName+1), strings.Repeat("a", api.MaxName) + " ",
		strings.Repeat("é", api.MaxName/2) + "e", strings.Repeat("\xff", api.MaxName+1), strings.Repeat("long ", 10000),
	}
}

func TestRefsRefusedNames(t *testing.T) {
	for _, name := range refused() {
		folded := strings.Trim(strings.ToLower(name), " ")
		dir := []api.Named{{}, {Name: name, Norm: name}, {Norm: folded}, {Kind: api.KindNote}, {Name: name, Norm: name, Kind: api.KindNote}}
		for _, piece := range []api.Inline{linkTo(name, 7, 8), noteTo(name, 7, 8)} {
			sources := []api.Source{{}, {}, source(topic("a"), topic("b", piece))}
			want := api.Fault{Code: api.ErrBroken, Source: 2, Line: 7, Col: 8, Word: name}
			wantFault(t, sources, dir, want)
			wantFault(t, sources, dir[3:], want)
			wantFault(t, sources, nil, want)
		}
	}
}

func TestRefsOfTheOtherKind(t *testing.T) {
	for _, kind := range []int{api.KindTopic, api.KindNote, -1, 2, 3, math.MaxInt, math.MinInt} {
		dir := []api.Named{{Norm: "x"}, {Norm: "a", Kind: kind}}
		for _, from := range []int{api.KindTopic, api.KindNote} { // whatever it is that refers
			sources := []api.Source{source(), source(topic("b"), topic("c", linkTo(" A", 5, 6)))}
			sources[1].Topics[1].Kind = from
			if kind == api.KindTopic {
				wantRefs(t, sources, dir, api.Refer{From: 1, To: 1, Name: " A", Line: 5, Col: 6})
			} else {
				wantFault(t, sources, dir, api.Fault{Code: api.ErrOther, Source: 1, Line: 5, Col: 6, Word: " A"})
			}
			sources[1].Topics[1].Blocks[0].Text[0].Kind = api.InNote
			if kind == api.KindNote {
				wantRefs(t, sources, dir, api.Refer{From: 1, To: 1, Note: 1, Name: " A", Line: 5, Col: 6})
			} else {
				wantFault(t, sources, dir, api.Fault{Code: api.ErrOther, Source: 1, Line: 5, Col: 6, Word: " A"})
			}
		}
	}
}

func TestRefsFirstFault(t *testing.T) {
	dir := dirOf("home", "*tip")
	good, broken, other, empty := linkTo("Home", 1, 1), linkTo("Halp", 2, 4), linkTo("Tip", 3, 5), linkTo("", 4, 6)
	otherNote, brokenNote := noteTo("HOME", 5, 7), noteTo("\xff", 6, 8)
	faults := []struct {
		piece api.Inline
		code  api.Errno
	}{{broken, api.ErrBroken}, {other, api.ErrOther}, {empty, api.ErrBroken}, {otherNote, api.ErrOther}, {brokenNote, api.ErrBroken}}
	for _, first := range faults {
		want := api.Fault{Code: first.code, Line: first.piece.Line, Col: first.piece.Col, Word: first.piece.Name}
		for _, second := range faults {
			f, s := first.piece, second.piece
			wantFault(t, []api.Source{source(topic("a", good, f, s))}, dir, want)
			blocks := api.Topic{Blocks: []api.Block{{Kind: api.BlockPara, Text: []api.Inline{good}}, {Kind: api.BlockPara, Text: []api.Inline{f}}, {Kind: api.BlockPara, Text: []api.Inline{s}}}}
			wantFault(t, []api.Source{source(topic("a"), blocks)}, dir, want)
			wantFault(t, []api.Source{source(topic("a", good), topic("b", f), topic("c", s))}, dir, want)
			later := want
			later.Source = 1
			wantFault(t, []api.Source{source(topic("a", good)), source(topic("b", good, f)), source(topic("c", s, s))}, dir, later)
		}
	}
	ahead := linkTo("nowhere", 1, 1) // by their order, not by their places
	wantFault(t, []api.Source{source(topic("a", broken, ahead))}, dir, api.Fault{Code: api.ErrBroken, Line: 2, Col: 4, Word: "Halp"})
}

// links answers so many links to a topic.
func links(n int, name string) []api.Inline {
	return slices.Repeat([]api.Inline{linkTo(name, 3, 4)}, n)
}

func TestRefsHowManyTopics(t *testing.T) {
	most := make([]api.Topic, api.MaxTopics)
	most[999] = topic("last", linkTo("a", 1, 2))
	last := api.Refer{From: 999, Name: "a", Line: 1, Col: 2}
	for _, l := range [][]api.Source{
		{source(most...)},
		{source(most[:1]...), {}, source(most[1:]...)},
		{source(most[:400]...), source(most[400:900]...), source(most[900:]...)},
	} {
		wantRefs(t, l, dirOf("a"), last)
		wantFault(t, append(slices.Clone(l), source(api.Topic{})), dirOf("a"), api.Fault{Code: api.ErrLong})
		wantFault(t, slices.Insert(slices.Clone(l), 0, source(api.Topic{Name: "x", Line: 5})), dirOf("a"), api.Fault{Code: api.ErrLong})
	}
	wantFault(t, []api.Source{source(make([]api.Topic, api.MaxTopics+1)...)}, nil, api.Fault{Code: api.ErrLong})
	wantFault(t, []api.Source{source(make([]api.Topic, 100000)...)}, nil, api.Fault{Code: api.ErrLong})
	wantFault(t, []api.Source{source(topic("a", linkTo("none", 1, 1))), source(make([]api.Topic, api.MaxTopics)...)}, nil, api.Fault{Code: api.ErrLong}) // ahead of what is broken
	dir := make([]api.Named, 5000)                                                                                                                       // as long as it likes
	dir[4999].Norm = "a"
	wantRefs(t, []api.Source{source(topic("x", linkTo("a", 1, 2)))}, dir, api.Refer{To: 4999, Name: "a", Line: 1, Col: 2})
}

func TestRefsHowManyReferences(t *testing.T) {
	dir := dirOf("a", "*b")
	most := links(api.MaxRefs, "a")
	other := append(links(api.MaxRefs-1, "a"), noteTo("b", 5, 6))
	spread := source()
	for n := range 512 {
		pieces := []api.Inline{text("x")}
		for _, piece := range other[128*n : 128*n+128] {
			pieces = append(pieces, piece, api.Inline{Kind: api.InClose}, api.Inline{Kind: api.InStyle, Name: "b"}) // which don't count
		}
		spread.Topics = append(spread.Topics, topic("t"+strconv.Itoa(n), pieces...))
	}
	for i, l := range [][]api.Source{
		{source(topic("t", most...))},
		{source(topic("t", other...))},
		{source(topic("t", most[:1]...)), {}, source(topic("u", most[1:]...))},
		{spread},
	} {
		refs, err := link.Refs(l, dir)
		if err != nil || len(refs) != api.MaxRefs {
			t.Errorf("%d: Refs of the most references: %d, %v", i, len(refs), err)
		}
		for _, one := range []api.Inline{linkTo("a", 9, 9), noteTo("b", 9, 9), noteTo("a", 9, 9), linkTo("none", 9, 9)} {
			wantFault(t, append(slices.Clone(l), source(topic("z", one))), dir, api.Fault{Code: api.ErrLong})
			wantFault(t, append([]api.Source{source(topic("z", one))}, l...), dir, api.Fault{Code: api.ErrLong}) // ahead of what is broken
		}
		wantRefsCount(t, append(slices.Clone(l), source(topic("z", text("x")))), dir, api.MaxRefs)
	}
	wantFault(t, []api.Source{source(topic("t", links(api.MaxRefs, "none")...))}, dir, api.Fault{Code: api.ErrBroken, Line: 3, Col: 4, Word: "none"})
	wantFault(t, []api.Source{source(topic("t", links(api.MaxRefs+1, "none")...))}, dir, api.Fault{Code: api.ErrLong})
	wantFault(t, []api.Source{source(topic("t", links(300000, "a")...))}, dir, api.Fault{Code: api.ErrLong})
	wantFault(t, []api.Source{source(make([]api.Topic, api.MaxTopics+1)...), source(topic("t", links(api.MaxRefs+1, "none")...))}, dir, api.Fault{Code: api.ErrLong})
}

func wantRefsCount(t *testing.T, sources []api.Source, dir []api.Named, n int) {
	t.Helper()
	if l, err := link.Refs(sources, dir); err != nil || len(l) != n {
		t.Errorf("Refs: %d, %v, want %d", len(l), err, n)
	}
}

func TestRefsExamples(t *testing.T) {
	var sources []api.Source
	for _, s := range []string{".topic Home | Start\nHi.\n", "\n.topic Help\nSee {link Nowhere|x}.\n"} {
		l, err := src.Parse(s)
		if err != nil {
			t.Fatal(err)
		}
		sources = append(sources, l)
	}
	dir, err := names.Collect(sources)
	if err != nil {
		t.Fatal(err)
	}
	wantFault(t, sources, dir, api.Fault{Code: 80, Source: 1, Line: 3, Col: 5, Word: "Nowhere"})
	dir = append(dir, api.Named{Name: "nowhere", Norm: "nowhere", Kind: api.KindNote})
	wantFault(t, sources, dir, api.Fault{Code: 81, Source: 1, Line: 3, Col: 5, Word: "Nowhere"})
	dir[2].Kind = api.KindTopic
	wantRefs(t, sources, dir, api.Refer{From: 1, To: 2, Name: "Nowhere", Line: 3, Col: 5})
}
