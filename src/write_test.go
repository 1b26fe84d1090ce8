package src_test

import (
	"math"
	"strings"
	"testing"

	"folio/api"
	"folio/src"
)

// Makers of pieces and blocks without places.

func run(s string) api.Inline               { return text(s, 0, 0) }
func style(name string) api.Inline          { return named(api.InStyle, name, 0, 0) }
func link(name string) api.Inline           { return named(api.InLink, name, 0, 0) }
func note(name string) api.Inline           { return named(api.InNote, name, 0, 0) }
func end() api.Inline                       { return closing(0, 0) }
func tab() api.Inline                       { return sign(api.InTab, 0, 0) }
func line() api.Inline                      { return sign(api.InBreak, 0, 0) }
func plain(text ...api.Inline) api.Block    { return para(0, text...) }
func bare(kind api.BlockKind) api.Block     { return block(kind, 0) }
func blocks(l ...api.Block) api.Source      { return topics(topic(0, "a", l...)) }
func paragraph(l ...api.Inline) api.Source  { return blocks(plain(l...)) }
func other(kind api.InlineKind) api.Inline  { return api.Inline{Kind: kind, Text: "x", Name: "y"} }
func kinds() []api.BlockKind                { return []api.BlockKind{0, 7, 8, -1, math.MaxInt, math.MinInt} }
func pieceKinds() []api.InlineKind          { return []api.InlineKind{0, 8, 9, -1, math.MaxInt, math.MinInt} }
func width(n ...int) api.Block              { return table(0, n...) }
func words(n int, s string) string          { return strings.TrimSuffix(strings.Repeat(s+" ", n), " ") }
func inTopic(s string) string               { return "\n.topic a\n" + s }
func again(s api.Source) (api.Source, bool) { x, err := src.Parse(src.Write(s)); return x, err == nil }

func wantWritten(t *testing.T, s api.Source, want string) {
	t.Helper()
	if got := src.Write(s); got != want {
		t.Errorf("Write(%v): %s; want %s", s, short(got), short(want))
	}
}

// wantLines holds the lines of a paragraph against what they should be.
func wantLines(t *testing.T, want string, l ...api.Inline) {
	t.Helper()
	wantWritten(t, paragraph(l...), inTopic(want+"\n\n"))
}

// P5.3

func TestWriteNothing(t *testing.T) {
	wantWritten(t, api.Source{}, "")
	wantWritten(t, api.Source{Styles: []api.StyleDef{}, Topics: []api.Topic{}}, "")
}

func TestWriteStyles(t *testing.T) {
	s := api.Source{Styles: []api.StyleDef{{Text: "warn:b +under", Line: 9}, {Text: ""}, {Text: " a  b\nc\xff"}}}
	wantWritten(t, s, ".style warn:b +under\n.style \n.style  a  b\nc\xff\n")
	s.Topics = []api.Topic{topic(0, "a")}
	wantWritten(t, s, ".style warn:b +under\n.style \n.style  a  b\nc\xff\n\n.topic a\n")
}

func TestWriteTopics(t *testing.T) {
	wantWritten(t, topics(
		api.Topic{Name: "a", Title: "a", Line: 7}, api.Topic{Kind: api.KindNote, Name: "b c", Title: "b c"},
		api.Topic{Name: "d", Title: "The D"}, api.Topic{Kind: api.KindNote, Name: "e", Title: "E | F"},
		api.Topic{Name: "f", Title: ""}, api.Topic{Name: "", Title: "g"}, api.Topic{},
		api.Topic{Kind: 2, Name: "h", Title: "h"}, api.Topic{Kind: -1, Name: "i", Title: "i"}, api.Topic{Name: "j\n.note k", Title: "\\{"},
	), lines("", ".topic a", "", ".note b c", "", ".topic d | The D", "", ".note e | E | F",
		"", ".topic f | ", "", ".topic  | g", "", ".topic ", "", ".topic h", "", ".topic i", "", ".topic j", `.note k | \{`))
}

func TestWriteWhatStandsAheadOfBlocks(t *testing.T) {
	x := api.Topic{
		Name: "a", Title: "a", Level: 3, Blocks: []api.Block{plain(run("x"))},
		Keys: []api.KeyRef{{Term: "A b", Line: 4}, {Term: "C", Sub: "d e"}, {Term: "", Sub: "f"}, {}},
		Sees: []api.SeeRef{{From: "G", To: "h i", Line: 4}, {}, {From: "j -> k", To: "l\nm"}},
	}
	const refs = ".key A b\n.key C ; d e\n.key  ; f\n.key \n.see G -> h i\n.see  -> \n.see j -> k -> l\nm\nx\n\n"
	wantWritten(t, topics(x), inTopic(".toc 3\n"+refs))
	x.Kind = api.KindNote
	wantWritten(t, topics(x), "\n.note a\n.toc 3\n"+refs)
	x.Level = 0
	wantWritten(t, topics(x), "\n.note a\n"+refs)
	for level, want := range map[int]string{-1: "-1", 9: "9", 100: "100", math.MinInt64: "-9223372036854775808"} {
		wantWritten(t, topics(api.Topic{Name: "a", Title: "a", Level: level}), inTopic(".toc "+want+"\n"))
	}
}

func TestWriteBlocks(t *testing.T) {
	wantWritten(t, blocks(
		list(0, 3), bare(api.BlockItem), plain(run("x")), list(1, 3), bare(api.BlockEnd), bare(api.BlockEnd),
		width(1, 0, 100), bare(api.BlockRow), styled("warn", plain(run("y"))), bare(api.BlockEnd),
	), inTopic(lines(".list bullet", ".item", "x", "", ".list number", ".end", ".end", ".table 1 0 100", ".row", ".para warn", "y", "", ".end")))
	wantWritten(t, blocks(bare(api.BlockEnd), bare(api.BlockEnd), bare(api.BlockRow), bare(api.BlockItem), list(0, 0)),
		inTopic(lines(".end", ".end", ".row", ".item", ".list bullet")))
	wantWritten(t, blocks(list(2, 0), list(-1, 0), list(math.MinInt, 0)), inTopic(strings.Repeat(".list number\n", 3)))
	wantWritten(t, blocks(width(), width(-1, 101, 7, 7, 7, 7, 7, 7, 7, 7)), inTopic(".table\n.table -1 101 7 7 7 7 7 7 7 7\n"))
	for _, kind := range kinds() {
		wantWritten(t, blocks(plain(run("x")), api.Block{Kind: kind, N: 1, Style: "b", Widths: []int{1}, Text: []api.Inline{run("y")}}, bare(api.BlockEnd)),
			inTopic("x\n\n.end\n"))
	}
	for _, kind := range []api.BlockKind{api.BlockItem, api.BlockRow, api.BlockEnd} { // what is not theirs is not written
		wantWritten(t, blocks(api.Block{Kind: kind, N: 1, Style: "b", Widths: []int{1}, Text: []api.Inline{run("y")}}),
			inTopic(map[api.BlockKind]string{api.BlockItem: ".item\n", api.BlockRow: ".row\n", api.BlockEnd: ".end\n"}[kind]))
	}
	wantWritten(t, blocks(api.Block{Kind: api.BlockList, Style: "b", Widths: []int{1}, Text: []api.Inline{run("y")}}), inTopic(".list bullet\n"))
	wantWritten(t, blocks(api.Block{Kind: api.BlockTable, N: 1, Style: "b", Widths: []int{2}, Text: []api.Inline{run("y")}}), inTopic(".table 2\n"))
	wantWritten(t, blocks(api.Block{Kind: api.BlockPara, N: 1, Widths: []int{2}, Text: []api.Inline{run("y")}}), inTopic("y\n\n"))
}

func TestWriteParagraphs(t *testing.T) {
	wantLines(t, "one {b two} {link Home|go} {link X|X}",
		run("one "), style("b"), run("two"), end(), run(" "), link("Home"), run("go"), end(), run(" "), link("X"), run("X"), end())
	wantLines(t, "", nil...)
	wantLines(t, "", run(""))
	wantLines(t, "", run(" "), run("   "))
	wantWritten(t, blocks(styled("b", plain()), plain(run("x"))), inTopic(".para b\n\n\nx\n\n"))
	wantLines(t, "{b}", style("b"), end())
	wantLines(t, "{b", style("b"))
	wantLines(t, "a {b", run("a "), style("b"))
	wantLines(t, "{b {i}}", style("b"), style("i"), end(), end())
	wantLines(t, "{b {tab}{br}}x{tab}", style("b"), tab(), line(), end(), run("x"), tab())
	wantLines(t, "{link a|}{note b|x {b y}}", link("a"), end(), note("b"), run("x "), style("b"), run("y"), end(), end())
	wantLines(t, "{b {link a|{i x}}}", style("b"), link("a"), style("i"), run("x"), end(), end(), end())
	wantLines(t, "{link a| b }c", link("a"), run(" b "), end(), run("c"))
	wantLines(t, "a b c", run("  a  b"), run(" "), run(" c "))
	wantLines(t, "ab c", run("a"), run("b"), run(""), run(" c"))
	for _, kind := range pieceKinds() {
		wantLines(t, "ab{i c}", run("a"), other(kind), run("b"), style("i"), run("c"), other(kind), end(), other(kind))
	}
}

func TestWriteEscapes(t *testing.T) {
	wantLines(t, `\\\{\}|`, run(`\{}|`))
	wantLines(t, `a\\b \{c\} d|e`, run(`a\b {c} d|e`))
	wantLines(t, `| {b \| {i \|\\} \|} |`, run("| "), style("b"), run("| "), style("i"), run(`|\`), end(), run(" |"), end(), run(" |"))
	wantLines(t, `{link \|x\}\{\\|\|}|`, link(`|x}{\`), run("|"), end(), run("|"))
	wantLines(t, `{note \||}|`, note("|"), end(), run("|"))
	wantLines(t, `{note .a #|.}`, note(".a #"), run("."), end())
	wantLines(t, "a\xff\xe4\xb8\x00\\\\\t\u4e2d", run("a\xff\xe4\xb8\x00\\\t\u4e2d")) // what is no text stays as it is
	wantLines(t, `{\{ \|`, style(`\{`), run("|"))                                     // a style's name, too
	wantLines(t, `{b {i \|`, style("b"), style("i"), run("|"))                        // more are opened than closed
	wantLines(t, `{b {i \|} \|`, style("b"), style("i"), run("|"), end(), run(" |"))
	wantLines(t, `{link a|\|`, link("a"), run("|"))
	wantLines(t, `}|}} |`, end(), run("|"), end(), end(), run(" |")) // more are closed
	wantLines(t, `{b}}|`, style("b"), end(), end(), run("|"))
	wantLines(t, `{tab}|{br}|`, tab(), run("|"), line(), run("|")) // none is open behind these
}

func TestWriteTheBeginsOfLines(t *testing.T) {
	wantLines(t, `\.a .b #c`, run(".a .b #c"))
	wantLines(t, `\#`, run("#"))
	wantLines(t, `\.`, run(" "), run("."))
	wantLines(t, `\..`, run(".."))
	wantLines(t, `\##`, run("##"))
	wantLines(t, `\\.`, run(`\.`))
	wantLines(t, `{b .a}`, style("b"), run(".a"), end())
	wantLines(t, `\.{b x}`, run("."), style("b"), run("x"), end())
	wantLines(t, words(26, "aa")+"\n\\.b\n\n", run(words(26, "aa")+" .b"), run("\n\n")) // no bytes but 32 are blanks here
	wantLines(t, words(38, "a")+" bc\n\\#d e", run(words(38, "a")+" bc #d e"))
	for _, first := range []string{".", "#"} {
		full := first + words(38, "b")              // 76 bytes
		wantLines(t, `\`+full+" c", run(full+" c")) // 79 with the one ahead
		wantLines(t, `\`+full+" c\nd", run(full+" c d"))
		wantLines(t, `\`+full+"\ncd", run(full+" cd"))
		wantLines(t, "x\n\\"+first+a(90)+"\ny", run("x "+first+a(90)+" y"))
	}
}

func TestWriteCutsLines(t *testing.T) {
	for n := 1; n < 200; n++ {
		wantLines(t, a(n), run(a(n)))
		want := a(n) + " bc"
		if n+3 > 78 {
			want = a(n) + "\nbc"
		}
		wantLines(t, want, run(a(n)+" bc"))
		wantLines(t, "bc"+want[n:n+1]+a(n), run("bc  "+a(n)))
	}
	wantLines(t, words(39, "a")+"\n"+words(39, "a")+"\n"+words(5, "a"), run(words(83, "a"))) // 77 bytes, and two more do not go
	wantLines(t, words(19, "abc")+"\nabc\n"+a(80)+"\nx", run(words(20, "abc")+" "+a(80)+" x"))
	wide := strings.Repeat("\u4e2d", 26) // 78 bytes: bytes count
	wantLines(t, wide+"\nx", run(wide+" x"))
	wantLines(t, wide[3:]+" x\ny", run(wide[3:]+" x y"))
	wantLines(t, a(70)+" {b xy}\nz", run(a(70)+" "), style("b"), run("xy"), end(), run(" z"))
	wantLines(t, a(70)+" {b\nwxyz} u", run(a(70)+" "), style("b"), run("wxyz"), end(), run(" u"))
	wantLines(t, a(70)+`{link`+"\n"+`A\|b|c`+"\n"+a(72)+" d}", run(a(70)), link("A|b"), run("c "+a(72)+" d"), end())
	wantLines(t, a(72)+` \\\{x`+"\ny", run(a(72)+` \{x y`)) // what stands ahead of bytes counts
	wantLines(t, a(73)+"\n"+`\\\{x y`, run(a(73)+` \{x y`))
}

func TestWriteTextsWithLineEnds(t *testing.T) {
	wantLines(t, "a\nb\tc d", run("a\nb\tc  d"))
	wantLines(t, "\n", run("\n"))
	wantLines(t, "{b \r\n}", style("b"), run("\r\n"), end())
	wantLines(t, "{link a\nb|\n\n}", link("a\nb"), run("\n\n"), end())
	wantWritten(t, blocks(styled("b\nc", plain(run("x")))), inTopic(".para b\nc\nx\n\n"))
}

func TestLongThingsAreWritten(t *testing.T) {
	long := strings.Repeat("ab ", 1<<20)
	got := src.Write(paragraph(run(long)))
	if len(got) != len("\n.topic a\n")+len(long)+1 || strings.Count(got, "\n") != 4+(1<<20+25)/26-1 {
		t.Error(len(got), strings.Count(got, "\n"))
	}
	if got := src.Write(paragraph(run(a(1 << 22)))); len(got) != 1<<22+len("\n.topic a\n\n\n") {
		t.Error(len(got))
	}
	if got := src.Write(paragraph(make([]api.Inline, 1<<20)...)); got != inTopic("\n\n") {
		t.Error(short(got))
	}
}

// P5.4

// whole is a source in which each field has a value.
func whole() api.Source {
	return api.Source{
		Styles: []api.StyleDef{{Text: "b", Line: 1}, {Text: "c", Line: 2}},
		Topics: []api.Topic{
			{
				Kind: 1, Name: "n", Title: "t", Level: 2, Line: 3,
				Keys: []api.KeyRef{{Term: "k", Sub: "s", Line: 4}, {Term: "l", Line: 5}},
				Sees: []api.SeeRef{{From: "f", To: "o", Line: 6}, {From: "g", To: "p", Line: 7}},
				Blocks: []api.Block{
					{Kind: api.BlockPara, N: 1, Style: "b", Widths: []int{1, 2}, Line: 8, Text: []api.Inline{{Kind: api.InText, Text: "x", Name: "y", Line: 9, Col: 10}, end()}},
					bare(api.BlockEnd),
				},
			},
			topic(11, "z"),
		},
	}
}

func TestSameButForPlaces(t *testing.T) {
	x := own(whole())
	places := []func(s *api.Source){
		func(s *api.Source) { s.Styles[1].Line = -7 },
		func(s *api.Source) { s.Topics[1].Line++ },
		func(s *api.Source) { s.Topics[0].Keys[0].Line++ },
		func(s *api.Source) { s.Topics[0].Sees[1].Line++ },
		func(s *api.Source) { s.Topics[0].Blocks[0].Line++ },
		func(s *api.Source) { s.Topics[0].Blocks[0].Text[0].Line++ },
		func(s *api.Source) { s.Topics[0].Blocks[0].Text[1].Col = math.MinInt },
	}
	for i, change := range places {
		y := own(whole())
		change(&y)
		change(&x)
		if !src.Same(whole(), y) || !src.Same(y, whole()) || !src.Same(x, y) || !src.Same(x, x) {
			t.Error("not the same by the place ", i)
		}
	}
}

func TestNotTheSame(t *testing.T) {
	changes := []func(s *api.Source){
		func(s *api.Source) { s.Styles[0].Text = "B" },
		func(s *api.Source) { s.Styles[0], s.Styles[1] = s.Styles[1], s.Styles[0] },
		func(s *api.Source) { s.Styles = s.Styles[:1] },
		func(s *api.Source) { s.Styles = append(s.Styles, api.StyleDef{}) },
		func(s *api.Source) { s.Topics = s.Topics[:1] },
		func(s *api.Source) { s.Topics = append(s.Topics, api.Topic{}) },
		func(s *api.Source) { s.Topics[0], s.Topics[1] = s.Topics[1], s.Topics[0] },
		func(s *api.Source) { s.Topics[0].Kind = 0 },
		func(s *api.Source) { s.Topics[0].Name = "N" },
		func(s *api.Source) { s.Topics[0].Title = "" },
		func(s *api.Source) { s.Topics[0].Level = 3 },
		func(s *api.Source) { s.Topics[0].Keys = nil },
		func(s *api.Source) { s.Topics[0].Keys = append(s.Topics[0].Keys, api.KeyRef{}) },
		func(s *api.Source) { s.Topics[0].Keys[0].Term = "K" },
		func(s *api.Source) { s.Topics[0].Keys[1].Sub = "s" },
		func(s *api.Source) { s.Topics[0].Keys = s.Topics[0].Keys[1:] },
		func(s *api.Source) { s.Topics[0].Sees = nil },
		func(s *api.Source) { s.Topics[0].Sees = append(s.Topics[0].Sees, api.SeeRef{}) },
		func(s *api.Source) { s.Topics[0].Sees[1].From = "f" },
		func(s *api.Source) { s.Topics[0].Sees[0].To = "" },
		func(s *api.Source) { s.Topics[0].Blocks = s.Topics[0].Blocks[:1] },
		func(s *api.Source) { s.Topics[1].Blocks = []api.Block{{}} },
		func(s *api.Source) { s.Topics[0].Blocks[0].Kind = api.BlockEnd },
		func(s *api.Source) { s.Topics[0].Blocks[1].N = 1 },
		func(s *api.Source) { s.Topics[0].Blocks[0].Style = "c" },
		func(s *api.Source) { s.Topics[0].Blocks[0].Widths[1] = 3 },
		func(s *api.Source) { s.Topics[0].Blocks[0].Widths = []int{1} },
		func(s *api.Source) { s.Topics[0].Blocks[0].Text = nil },
		func(s *api.Source) { s.Topics[0].Blocks[0].Text[1].Kind = api.InTab },
		func(s *api.Source) { s.Topics[0].Blocks[0].Text[0].Text = "xx" },
		func(s *api.Source) { s.Topics[0].Blocks[0].Text[0].Name = "" },
		func(s *api.Source) { s.Topics[0].Blocks[0].Text[1].Text = "x" },
	}
	for i, change := range changes {
		x := own(whole())
		change(&x)
		if src.Same(whole(), x) || src.Same(x, whole()) || !src.Same(x, own(x)) {
			t.Error("the same but for the change ", i)
		}
	}
}

func TestSameOfNilAndEmpty(t *testing.T) {
	none := api.Source{Styles: []api.StyleDef{}, Topics: []api.Topic{}}
	if !src.Same(api.Source{}, none) || !src.Same(none, api.Source{}) || !src.Same(api.Source{}, api.Source{}) {
		t.Error("no styles, no topics")
	}
	x := topics(api.Topic{Keys: []api.KeyRef{}, Sees: []api.SeeRef{}, Blocks: []api.Block{{Widths: []int{}, Text: []api.Inline{}}}})
	y := topics(api.Topic{Blocks: []api.Block{{}}})
	if !src.Same(x, y) || !src.Same(y, x) || src.Same(x, none) {
		t.Error("no keys, no sees, no widths, no pieces")
	}
	long := make([]api.KeyRef, 1, 9)
	if !src.Same(topics(api.Topic{Keys: long}), topics(api.Topic{Keys: long[:1:1]})) {
		t.Error("by what lies behind a list's length")
	}
}

func TestBytes(t *testing.T) {
	for want, x := range map[int]api.Topic{
		0:  {},
		1:  {Name: "name", Title: "title", Keys: []api.KeyRef{{Term: "term"}}, Blocks: []api.Block{plain(run("x"))}},
		5:  topic(0, "a", plain(run("\u4e2d"), run(""), run("\xff")), bare(api.BlockEnd), plain(run(" "))),
		2:  topic(0, "a", plain(link("Home"), run("go"), end(), tab(), line(), style("b"), end(), note("x"), end())),
		6:  topic(0, "a", list(0, 0), bare(api.BlockItem), plain(run("abc")), bare(api.BlockEnd), width(1), bare(api.BlockRow), plain(run("def")), bare(api.BlockEnd)),
		7:  topic(0, "a", plain(other(0), other(api.InStyle), other(api.InLink), other(api.InClose), other(api.InTab), run("abc\ndef"))),
		10: topic(0, "a", api.Block{Kind: api.BlockEnd, Text: []api.Inline{run("abcde")}}, api.Block{Text: []api.Inline{run("fghij")}}),
	} {
		if got := src.Bytes(x); got != want {
			t.Errorf("Bytes(%v): %d, want %d", x, got, want)
		}
	}
}

func TestPlain(t *testing.T) {
	for _, x := range []struct {
		l    []api.Inline
		want string
	}{
		{nil, ""},
		{[]api.Inline{}, ""},
		{[]api.Inline{run("one "), style("b"), run("two"), end(), run(" "), link("Home"), run("go"), end(), note("X"), run("X"), end()}, "one two goX"},
		{[]api.Inline{tab(), run("a"), tab(), line(), run("b"), line()}, " a  b "},
		{[]api.Inline{run("  a\n|{\\"), run("\xff"), run("")}, "  a\n|{\\\xff"},
		{[]api.Inline{other(api.InStyle), other(api.InLink), other(api.InNote), other(api.InClose), end(), end()}, ""},
		{[]api.Inline{other(api.InTab), other(api.InBreak), other(0), other(8), other(-1)}, "  "},
	} {
		if got := src.Plain(x.l); got != x.want {
			t.Errorf("Plain(%v): %q, want %q", x.l, got, x.want)
		}
	}
}
