package src_test

import (
	"reflect"
	"slices"
	"strconv"
	"strings"
	"testing"

	"folio/api"
	"folio/fault"
	"folio/src"
)

// Makers of what a source has.

func lines(l ...string) string { return strings.Join(l, "\n") + "\n" }

func a(n int) string { return strings.Repeat("a", n) }

func topics(l ...api.Topic) api.Source { return api.Source{Topics: l} }

func topic(line int, name string, blocks ...api.Block) api.Topic {
	return api.Topic{Name: name, Title: name, Blocks: blocks, Line: line}
}

func para(line int, text ...api.Inline) api.Block {
	return api.Block{Kind: api.BlockPara, Text: text, Line: line}
}

func styled(style string, b api.Block) api.Block {
	b.Style = style
	return b
}

func block(kind api.BlockKind, line int) api.Block { return api.Block{Kind: kind, Line: line} }

func list(n, line int) api.Block { return api.Block{Kind: api.BlockList, N: n, Line: line} }

func table(line int, widths ...int) api.Block {
	return api.Block{Kind: api.BlockTable, Widths: widths, Line: line}
}

func text(s string, line, col int) api.Inline {
	return api.Inline{Kind: api.InText, Text: s, Line: line, Col: col}
}

func named(kind api.InlineKind, name string, line, col int) api.Inline {
	return api.Inline{Kind: kind, Name: name, Line: line, Col: col}
}

func sign(kind api.InlineKind, line, col int) api.Inline {
	return api.Inline{Kind: kind, Line: line, Col: col}
}

func closing(line, col int) api.Inline { return sign(api.InClose, line, col) }

// own answers a copy of a source that shares no list with it; empty lists are nil in it.
func own(s api.Source) api.Source {
	s.Styles = append([]api.StyleDef(nil), s.Styles...)
	s.Topics = append([]api.Topic(nil), s.Topics...)
	for i := range s.Topics {
		t := &s.Topics[i]
		t.Keys = append([]api.KeyRef(nil), t.Keys...)
		t.Sees = append([]api.SeeRef(nil), t.Sees...)
		t.Blocks = append([]api.Block(nil), t.Blocks...)
		for j := range t.Blocks {
			b := &t.Blocks[j]
			b.Widths = append([]int(nil), b.Widths...)
			b.Text = append([]api.Inline(nil), b.Text...)
		}
	}
	return s
}

func alike(x, y api.Source) bool { return reflect.DeepEqual(own(x), own(y)) }

// short is a source for a message.
func short(s string) string {
	if len(s) > 400 {
		return strconv.Quote(s[:300]) + ".. of " + strconv.Itoa(len(s)) + " bytes"
	}
	return strconv.Quote(s)
}

func parse(t *testing.T, s string) api.Source {
	t.Helper()
	x, err := src.Parse(s)
	if err != nil {
		t.Fatalf("Parse(%s): %s", short(s), fault.Text(err))
	}
	return x
}

// wantSource holds a source, with its lines and columns, against what it should be.
func wantSource(t *testing.T, s string, want api.Source) {
	t.Helper()
	got, err := src.Parse(s)
	if err != nil {
		t.Errorf("Parse(%s): %s", short(s), fault.Text(err))
		return
	}
	if !alike(got, want) {
		t.Errorf("Parse(%s): %v; want %v", short(s), got, want)
	}
}

// wantFault holds the error of a source against a fault, all its fields, and what stands beside it.
func wantFault(t *testing.T, s string, code api.Errno, line, col int, word string, trail ...api.Step) {
	t.Helper()
	got, err := src.Parse(s)
	f := fault.Told(err)
	if f.Code != code || f.Source != 0 || f.Line != line || f.Col != col || f.Word != word || !slices.Equal(f.Trail, trail) {
		t.Errorf("Parse(%s): %v; want %d at %d:%d %q %v", short(s), f, code, line, col, word, trail)
	}
	if len(fault.All(err)) != 1 {
		t.Errorf("Parse(%s): faults: %v", short(s), fault.All(err))
	}
	if !alike(got, api.Source{}) {
		t.Errorf("Parse(%s): beside a fault: %v", short(s), got)
	}
}

// P5.1: sources

func TestNothing(t *testing.T) {
	for _, s := range []string{"", "\n", "\r", "\r\n", " \t\n\n", "#", "# a\n#b\n\n"} {
		wantSource(t, s, api.Source{})
	}
}

func TestExamplesOfTopics(t *testing.T) {
	wantSource(t, ".topic  Home | The  start", topics(api.Topic{Name: "Home", Title: "The start", Line: 1}))
	wantFault(t, ".topic a |", api.ErrArg, 1, 1, "topic")
	wantFault(t, ".foo", api.ErrOrder, 1, 1, "foo")
	wantFault(t, "text", api.ErrOutside, 1, 1, "")
	wantFault(t, lines(".topic a", ".table 1 2", ".row", "a", ".end"), api.ErrRow, 5, 1, "end")
	wantFault(t, lines(".topic a", ".list bullet", "a"), api.ErrOutside, 3, 1, "")
	wantFault(t, lines(".topic a", ".list bullet", ".topic b"), api.ErrOpen, 2, 1, "list")
}

func TestAWholeSource(t *testing.T) {
	wantSource(t, lines(
		"# a comment", ".style  warn:b   +under", "", ".style h color 1", // 1 to 4
		".topic Home | The  start", ".key  A  b;c ", ".toc 2", ".see C  ->A b", ".key z", // 5 to 9
		"", "  Hello {b you}", "there.", ".para warn", "", "", " two", // 10 to 16
		".list number", ".item", "x", "", "y", ".list bullet", ".item", ".item", "z", ".end", "", "w", ".item", ".end", // 17 to 30
		".table 0 100", ".row", "a", "", ".para h", "b", ".row", "# none", "c", "", "d", ".end", // 31 to 42
		".list bullet", ".end", "v", ".table 7", ".end", // 43 to 47
		".note N", "n", ".topic T|N", "t"), // 48 to 51
		api.Source{
			Styles: []api.StyleDef{{Text: "warn:b +under", Line: 2}, {Text: "h color 1", Line: 4}},
			Topics: []api.Topic{
				{
					Kind: api.KindTopic, Name: "Home", Title: "The start", Level: 2, Line: 5,
					Keys: []api.KeyRef{{Term: "A b", Sub: "c", Line: 6}, {Term: "z", Line: 9}},
					Sees: []api.SeeRef{{From: "C", To: "A b", Line: 8}},
					Blocks: []api.Block{
						para(11, text("Hello ", 11, 3), named(api.InStyle, "b", 11, 9), text("you", 11, 12), closing(11, 15), text(" there.", 11, 16)),
						styled("warn", para(16, text("two", 16, 2))),
						list(1, 17), block(api.BlockItem, 18), para(19, text("x", 19, 1)), para(21, text("y", 21, 1)),
						list(0, 22), block(api.BlockItem, 23), block(api.BlockItem, 24), para(25, text("z", 25, 1)), block(api.BlockEnd, 26),
						para(28, text("w", 28, 1)), block(api.BlockItem, 29), block(api.BlockEnd, 30),
						table(31, 0, 100), block(api.BlockRow, 32), para(33, text("a", 33, 1)), styled("h", para(36, text("b", 36, 1))),
						block(api.BlockRow, 37), para(39, text("c", 39, 1)), para(41, text("d", 41, 1)), block(api.BlockEnd, 42),
						list(0, 43), block(api.BlockEnd, 44), para(45, text("v", 45, 1)), table(46, 7), block(api.BlockEnd, 47),
					},
				},
				{Kind: api.KindNote, Name: "N", Title: "N", Blocks: []api.Block{para(49, text("n", 49, 1))}, Line: 48},
				{Kind: api.KindTopic, Name: "T", Title: "N", Blocks: []api.Block{para(51, text("t", 51, 1))}, Line: 50},
			},
		})
}

func TestEndsOfLinesAndOfTheSource(t *testing.T) {
	want := topics(topic(1, "a", para(2, text("b c", 2, 1))))
	for _, s := range []string{".topic a\nb\nc", ".topic a\nb\nc\n", ".topic a\r\nb\r\nc\r\n", ".topic a\nb\r\nc\r", ".topic a\nb\nc\n\n \n# x"} {
		wantSource(t, s, want)
	}
}

func TestTheSameNameMayComeTwice(t *testing.T) {
	wantSource(t, lines(".topic a", ".note a", ".topic A"), topics(
		topic(1, "a"), api.Topic{Kind: api.KindNote, Name: "a", Title: "a", Line: 2}, topic(3, "A")))
}

// Where directives may stand

// spot is a place of a source: what stands ahead of it, what must stand behind it that all is ended, which directives may stand
// there (if not: ErrOrder, or as it is told in other), and what is wrong with a text there.
type spot struct {
	ahead  string
	behind string
	may    string
	text   api.Errno
	other  map[string]api.Fault
}

// open says of topics and notes that something is open, at a line.
func open(line int, word string) map[string]api.Fault {
	f := api.Fault{Code: api.ErrOpen, Line: line, Col: 1, Word: word}
	return map[string]api.Fault{"topic": f, "note": f}
}

// lacking says the same of a table, and of what may not come at a line behind a row that lacks paragraphs.
func lacking(table, line int) map[string]api.Fault {
	l := open(table, "table")
	for _, name := range []string{"row", "end"} {
		l[name] = api.Fault{Code: api.ErrRow, Line: line, Col: 1, Word: name}
	}
	return l
}

func spots() []spot {
	const begin, blocks, row = "style topic note", "topic note para list table", ".topic a\n.table 1 1\n.row\n"
	return []spot{
		{ahead: "", may: begin, text: api.ErrOutside},
		{ahead: "# x\n\n", may: begin, text: api.ErrOutside},
		{ahead: ".style b\n", may: begin, text: api.ErrOutside},
		{ahead: ".topic a\n", may: blocks + " toc key see"},
		{ahead: ".topic a\n\n# x\n", may: blocks + " toc key see"},
		{ahead: ".topic a\n.toc 1\n", may: blocks + " key see"},
		{ahead: ".topic a\n.toc 1\n.key a\n", may: blocks + " key see"},
		{ahead: ".topic a\n.key a\n", may: blocks + " toc key see"},
		{ahead: ".topic a\n.see a -> b\n", may: blocks + " toc key see"},
		{ahead: ".note a\n", may: blocks},
		{ahead: ".topic a\n.note a\n", may: blocks},
		{ahead: ".note a\nx\n.topic a\n", may: blocks + " toc key see"},
		{ahead: ".topic a\n.toc 1\nx\n.topic b\n", may: blocks + " toc key see"},
		{ahead: ".topic a\nx\n", may: blocks},
		{ahead: ".topic a\nx\n\n", may: blocks},
		{ahead: ".topic a\n.para b\nx\n\n", may: blocks},
		{ahead: ".topic a\n{br}\n\n", may: blocks},
		{ahead: ".topic a\n.list bullet\n.end\n", may: blocks},
		{ahead: ".topic a\n.list bullet\n.item\n.end\n", may: blocks},
		{ahead: ".topic a\n.table 1\n.end\n", may: blocks},
		{ahead: row + "x\n\ny\n.end\n", may: blocks},
		{ahead: ".note a\n.list bullet\n.item\n.list bullet\n.end\n.end\n", may: blocks},
		{ahead: ".topic a\n.list bullet\n", behind: ".end\n", may: "item end", text: api.ErrOutside, other: open(2, "list")},
		{ahead: ".topic a\n.list bullet\n.item\n", behind: ".end\n", may: "item end para list", other: open(2, "list")},
		{ahead: ".note a\n.list number\n.item\nx\n\n", behind: ".end\n", may: "item end para list", other: open(2, "list")},
		{ahead: ".topic a\n.list number\n.item\n.item\n", behind: ".end\n", may: "item end para list", other: open(2, "list")},
		{ahead: ".topic a\n.list number\n.item\nx\n.list bullet\n", behind: ".end\n.end\n", may: "item end", text: api.ErrOutside, other: open(5, "list")},
		{ahead: ".topic a\n.list number\n.item\n.list bullet\n.item\n", behind: ".end\n.end\n", may: "item end para list", other: open(4, "list")},
		{ahead: ".topic a\n.list number\n.item\n.list bullet\n.end\n", behind: ".end\n", may: "item end para list", other: open(2, "list")},
		{ahead: ".topic a\n.list number\n.item\n.list bullet\n.item\n.end\n", behind: ".end\n", may: "item end para list", other: open(2, "list")},
		{ahead: ".topic a\n.table 1 1\n", behind: ".end\n", may: "row end", text: api.ErrOutside, other: open(2, "table")},
		{ahead: ".note a\nx\n.table 1 1\n", behind: ".end\n", may: "row end", text: api.ErrOutside, other: open(3, "table")},
		{ahead: row, behind: "\ny\n.end\n", may: "para", other: lacking(2, 4)},
		{ahead: row + "x\n\n", behind: ".end\n", may: "para", other: lacking(2, 6)},
		{ahead: row + "x\n\ny\n\n", behind: ".end\n", may: "row end", text: api.ErrRow, other: open(2, "table")},
		{ahead: row + "x\n\ny\n.row\n", behind: "\ny\n.end\n", may: "para", other: lacking(2, 8)},
		{ahead: row + ".para b\nx\n\ny\n.row\nx\n\n.para b\ny\n\n", behind: ".end\n", may: "row end", text: api.ErrRow, other: open(2, "table")},
	}
}

// arguments answers of each directive an argument that may be, and one that may not.
func arguments() map[string][2]string {
	return map[string][2]string{
		"style": {"b", ""}, "topic": {"t", "|"}, "note": {"n", ""}, "toc": {"1", "0"}, "key": {"k", ";"}, "see": {"a -> b", "->"},
		"para": {"b", "B"}, "list": {"bullet", "b"}, "item": {"", "x"}, "table": {"1", "-"}, "row": {"", "x"}, "end": {"", "x"},
	}
}

// tails answers what must come behind a directive itself.
func tails() map[string]string {
	return map[string]string{"para": "x\n", "list": ".end\n", "table": ".end\n", "row": "x\n\ny\n"}
}

func TestWhereDirectivesMayStand(t *testing.T) {
	for _, x := range spots() {
		line := strings.Count(x.ahead, "\n") + 1
		for name, args := range arguments() {
			behind := tails()[name] + x.behind
			if name == "end" {
				behind = strings.TrimPrefix(x.behind, ".end\n")
			}
			good := x.ahead + "." + name + " " + args[0] + "\n" + behind
			bad := x.ahead + "." + name + " " + args[1] + "\n" + behind
			f, told := x.other[name]
			switch {
			case told:
				wantFault(t, good, f.Code, f.Line, f.Col, f.Word)
				wantFault(t, bad, f.Code, f.Line, f.Col, f.Word)
			case slices.Contains(strings.Fields(x.may), name):
				parse(t, good)
				wantFault(t, bad, api.ErrArg, line, 1, name)
			default:
				wantFault(t, good, api.ErrOrder, line, 1, name)
				wantFault(t, bad, api.ErrOrder, line, 1, name)
			}
		}
		wantFault(t, x.ahead+".foo\n"+x.behind, api.ErrOrder, line, 1, "foo")
		wantFault(t, x.ahead+".topics a\n"+x.behind, api.ErrOrder, line, 1, "topics")
	}
}

func TestWhereTextMayStand(t *testing.T) {
	for _, x := range spots() {
		line := strings.Count(x.ahead, "\n") + 2 // behind a blank line, for it would else go on in a paragraph
		for begin, col := range map[string]int{"x": 1, " \t x {b y}": 4, "{b x}": 1, "{link a}": 1, " {tab}": 2} {
			s := x.ahead + "\n" + begin + "\n" + x.behind
			if x.text == api.OK {
				parse(t, s)
			} else {
				wantFault(t, s, x.text, line, col, "")
				wantFault(t, x.ahead+"\n"+begin+" {b|}\n", x.text, line, col, "") // ahead of what is wrong within
			}
		}
	}
}

func TestBehindParaComesAParagraph(t *testing.T) {
	for _, x := range spots() {
		if !strings.Contains(x.may, "para") {
			continue
		}
		line := strings.Count(x.ahead, "\n") + 1
		for _, blank := range []string{"", "\n", "# x\n", " \n\n#\n\t\n"} {
			ahead := x.ahead + ".para b\n" + blank
			for name, args := range arguments() {
				wantFault(t, ahead+"."+name+" "+args[0]+"\n", api.ErrOpen, line, 1, "para")
				wantFault(t, ahead+"."+name+" "+args[1]+"\nx\n", api.ErrOpen, line, 1, "para")
			}
			wantFault(t, ahead+".foo\n", api.ErrOpen, line, 1, "para")
			wantFault(t, ahead, api.ErrOpen, line, 1, "para") // ahead of what is open, too
			s := parse(t, ahead+"x\n\n"+x.behind)
			b := s.Topics[len(s.Topics)-1].Blocks
			at := slices.IndexFunc(b, func(b api.Block) bool { return b.Line == line+1+strings.Count(blank, "\n") })
			if at < 0 || b[at].Kind != api.BlockPara || b[at].Style != "b" {
				t.Errorf("%s: %v", short(ahead), b)
			}
		}
	}
	wantSource(t, lines(".topic a", ".para b", "x", "", "y"), topics(topic(1, "a", styled("b", para(3, text("x", 3, 1))), para(5, text("y", 5, 1)))))
}

// What stands behind directives

func wantArgs(t *testing.T, ahead, name, behind string, good, bad []string) {
	t.Helper()
	line := strings.Count(ahead, "\n") + 1
	for _, arg := range good {
		parse(t, ahead+"."+name+" "+arg+"\n"+behind)
		parse(t, ahead+"."+name+"\t  "+arg+" \t\n"+behind)
	}
	for _, arg := range bad {
		wantFault(t, ahead+"."+name+" "+arg+"\n"+behind, api.ErrArg, line, 1, name)
		wantFault(t, ahead+"."+name+" \t"+arg+" \t \n"+behind, api.ErrArg, line, 1, name)
	}
}

func TestNamesAndTitles(t *testing.T) {
	for _, x := range []struct{ arg, name, title string }{
		{"a", "a", "a"},
		{" \ta \t b\t", "a b", "a b"},
		{"a|b", "a", "b"},
		{"a b  |\t c \t d", "a b", "c d"},
		{"a|a", "a", "a"},
		{"a || b", "a", "| b"},
		{"a|b|c", "a", "b|c"},
		{"a | b | c", "a", "b | c"},
		{`.x {b} \| #`, `.x {b} \`, "#"},
		{"#", "#", "#"},
		{"\u4e2d \u00e9\u00a0|\u00a0", "\u4e2d \u00e9\u00a0", "\u00a0"},
		{a(64), a(64), a(64)},
		{a(31) + " \t  \t" + a(32), a(31) + " " + a(32), a(31) + " " + a(32)},
		{a(64) + "|" + a(200), a(64), a(200)},
		{a(64) + " |\t" + a(100) + "  " + a(99) + " ", a(64), a(100) + " " + a(99)},
		{strings.Repeat("\u00e9", 32) + "|" + strings.Repeat("\u4e2d", 66) + "bc", strings.Repeat("\u00e9", 32), strings.Repeat("\u4e2d", 66) + "bc"},
	} {
		wantSource(t, "\n.topic "+x.arg, topics(api.Topic{Kind: api.KindTopic, Name: x.name, Title: x.title, Line: 2}))
		wantSource(t, ".note\t"+x.arg+"\n", topics(api.Topic{Kind: api.KindNote, Name: x.name, Title: x.title, Line: 1}))
	}
	bad := []string{
		"", "|", "a|", "a | ", "|a", " | a", " | ", "||", "| |", a(65), a(65) + "|a", "a|" + a(201), a(32) + "  " + a(32), strings.Repeat("\u00e9", 33),
		"a|" + strings.Repeat("\u4e2d", 67), "a|" + a(100) + "  " + a(100), "|" + a(201), a(200),
	}
	for _, name := range []string{"topic", "note"} {
		wantArgs(t, "", name, "x\n", nil, bad)
		wantArgs(t, ".topic a\n\nx\n", name, "", nil, bad)
	}
}

func TestStyles(t *testing.T) {
	long := a(api.MaxLine - len(".style "))
	wantSource(t, lines(".style b", ".style  warn : \t b   ; | -> {", ".style "+long, ".style b", ".style \\|"), api.Source{Styles: []api.StyleDef{
		{Text: "b", Line: 1}, {Text: "warn : b ; | -> {", Line: 2}, {Text: long, Line: 3}, {Text: "b", Line: 4}, {Text: "\\|", Line: 5},
	}})
	wantArgs(t, "", "style", "", nil, []string{"", " ", "\t"})
	wantArgs(t, ".style b\n", "style", ".foo\n", nil, []string{""})
	wantFault(t, ".style", api.ErrArg, 1, 1, "style")
}

func TestLevels(t *testing.T) {
	for n := 1; n <= api.MaxLevel; n++ {
		s := parse(t, ".topic a\n.toc "+strconv.Itoa(n))
		if len(s.Topics) != 1 || s.Topics[0].Level != n {
			t.Error(n, s)
		}
	}
	bad := []string{"", "0", "9", "10", "01", "-1", "+1", "1.", "1 1", "1 2", "a", "1a", "0x1", "1_", "\u0661", "99999999999999999999", "18446744073709551617", "\u00a01"}
	wantArgs(t, ".topic a\n", "toc", "", []string{"1", "8"}, bad)
	wantArgs(t, ".note b\n.topic a\n.key a\n", "toc", "x\n", []string{"1", "8"}, bad)
	wantFault(t, lines(".topic a", ".toc 1", ".toc 0"), api.ErrOrder, 3, 1, "toc")
	wantFault(t, lines(".topic a", ".toc 1", ".toc 1"), api.ErrOrder, 3, 1, "toc")
}

func TestKeys(t *testing.T) {
	for _, x := range []struct{ arg, term, sub string }{
		{"a", "a", ""},
		{" A \t b ", "A b", ""},
		{"a;b", "a", "b"},
		{"a b  ;\tc  d", "a b", "c d"},
		{"a;;b", "a", ";b"},
		{"a; b ; c", "a", "b ; c"},
		{"a | b -> c", "a | b -> c", ""},
		{a(64), a(64), ""},
		{a(64) + ";" + a(64), a(64), a(64)},
		{a(32) + "   " + a(31) + ";" + a(31) + "\t\t" + a(32), a(32) + " " + a(31), a(31) + " " + a(32)},
		{strings.Repeat("\u00e9", 32), strings.Repeat("\u00e9", 32), ""},
	} {
		want := topic(1, "t")
		want.Keys = []api.KeyRef{{Term: x.term, Sub: x.sub, Line: 2}}
		wantSource(t, ".topic t\n.key "+x.arg, topics(want))
		wantSource(t, ".topic t\n.key\t"+x.arg+" \t\n", topics(want))
	}
	wantArgs(t, ".topic t\n.key a\n", "key", "", nil, []string{
		"", ";", "a;", "a ; ", ";a", " ; a", ";;", a(65), a(65) + ";a", "a;" + a(65), a(32) + " " + a(32), "a;" + strings.Repeat("\u00e9", 33),
	})
}

func TestSees(t *testing.T) {
	for _, x := range []struct{ arg, from, to string }{
		{"a->b", "a", "b"},
		{"a -> b", "a", "b"},
		{" A \t b \t->c  d ", "A b", "c d"},
		{"a -> b -> c", "a", "b -> c"},
		{"a->->", "a", "->"},
		{"a --> b", "a -", "b"},
		{"a ->> b", "a", "> b"},
		{"a > - -> b - > c", "a > -", "b - > c"},
		{"a;b -> c|d", "a;b", "c|d"},
		{"a -> a", "a", "a"},
		{a(64) + "->" + a(64), a(64), a(64)},
		{a(32) + "   " + a(31) + "->" + a(31) + "\t\t" + a(32), a(32) + " " + a(31), a(31) + " " + a(32)},
	} {
		want := topic(1, "t")
		want.Sees = []api.SeeRef{{From: x.from, To: x.to, Line: 2}}
		wantSource(t, ".topic t\n.see "+x.arg, topics(want))
		wantSource(t, ".topic t\n.see\t"+x.arg+" \t\n", topics(want))
	}
	wantArgs(t, ".topic t\n.see a -> b\n", "see", "", nil, []string{
		"", "->", "a", "a ->", "->b", " -> b", "a - > b", "a > b", "a - b", "-> ->", a(65) + "->a", "a->" + a(65), a(32) + " " + a(32) + "->b", "a;b", "a|b",
	})
}

func TestStylesOfParagraphs(t *testing.T) {
	bad := []string{"", "B", "aB", "a b", "1", "a1", "a-", "\u00e9", a(13), "a|b", "abcdefghijklm", "{", "`"}
	wantArgs(t, ".topic a\n", "para", "x\n", []string{"a", "z", "abcdefghijkl", "mnopqrstuvwx"}, bad)
	wantArgs(t, ".topic a\n.list bullet\n.item\n", "para", "x\n.end\n", []string{"b"}, bad)
}

func TestKindsOfLists(t *testing.T) {
	wantArgs(t, ".topic a\n", "list", ".end\n", []string{"bullet", "number"}, []string{"", "Bullet", "bullets", "bullet number", "bul", "0", "1", "bullet bullet", "num ber"})
	wantSource(t, lines(".topic a", ".list bullet", ".end", ".list number", ".end"), topics(topic(1, "a",
		list(0, 2), block(api.BlockEnd, 3), list(1, 4), block(api.BlockEnd, 5))))
}

func TestColumns(t *testing.T) {
	for arg, want := range map[string][]int{
		"0": {0}, "1": {1}, "100": {100}, "9 10 99": {9, 10, 99}, "1 \t  2": {1, 2}, "0 0": {0, 0}, "1 2 3 4 5 6 7 8": {1, 2, 3, 4, 5, 6, 7, 8}, "100 0 100": {100, 0, 100},
	} {
		wantSource(t, ".topic a\n.table  "+arg+"\t\n.end", topics(topic(1, "a", table(2, want...), block(api.BlockEnd, 3))))
	}
	wantArgs(t, ".topic a\nx\n\n", "table", ".end\n", []string{"0", "8"}, []string{
		"", "101", "-1", "+1", "00", "01", "1 00", "1 02", "a", "1 a", "1,2", "1.5", "1 101", "101 1", "1000", "99999999999999999999", "1 2 3 4 5 6 7 8 9", "0 0 0 0 0 0 0 0 0", "-0", "\u0661",
		"1 2 3 4 5 6 7 8 a", "1\u00a02",
	})
}

func TestDirectivesWithoutAnArgument(t *testing.T) {
	bad := []string{"x", "1", ".", "|", "\u00a0", "#"}
	wantArgs(t, ".topic a\n.list bullet\n", "item", ".end\n", []string{""}, bad)
	wantArgs(t, ".topic a\n.list bullet\n", "end", "", []string{""}, bad)
	wantArgs(t, ".topic a\n.table 1\n", "row", "x\n.end\n", []string{""}, bad)
	wantArgs(t, ".topic a\n.table 1\n.row\nx\n", "row", "x\n.end\n", []string{""}, bad)
	wantArgs(t, ".topic a\n.table 1\n.row\nx\n", "end", "", []string{""}, bad)
}

// As many as may be, and one more

func TestManyStyles(t *testing.T) {
	full := strings.Repeat(".style b\n", api.MaxStyles)
	if s := parse(t, full+".topic a\n"); len(s.Styles) != api.MaxStyles || s.Styles[63].Line != 64 {
		t.Error(len(s.Styles))
	}
	wantFault(t, full+".style b", api.ErrLong, 65, 1, "style")
	wantFault(t, full+"\n.style b\n.style", api.ErrLong, 66, 1, "style")
	wantFault(t, full+".style\n", api.ErrArg, 65, 1, "style")
	wantFault(t, full+".topic a\n.style b\n", api.ErrOrder, 66, 1, "style")
}

func TestManyTopics(t *testing.T) {
	full := strings.Repeat(".topic a\n.note b\n", api.MaxTopics/2)
	if s := parse(t, full); len(s.Topics) != api.MaxTopics || s.Topics[999].Line != 1000 {
		t.Error(len(s.Topics))
	}
	wantFault(t, full+".topic a", api.ErrLong, 1001, 1, "topic")
	wantFault(t, full+"x\n\n.note a\n.note", api.ErrLong, 1003, 1, "note")
	wantFault(t, full+".topic", api.ErrArg, 1001, 1, "topic")
	wantFault(t, full+".list bullet\n.topic a", api.ErrOpen, 1001, 1, "list")
	one := strings.Repeat(".topic a\n", api.MaxTopics)
	parse(t, one+"x\n")
	wantFault(t, one+".topic a\n", api.ErrLong, 1001, 1, "topic")
	wantFault(t, strings.Repeat(".note a\n", api.MaxTopics+1), api.ErrLong, 1001, 1, "note")
}

func TestManyKeysAndSees(t *testing.T) {
	keys, sees := strings.Repeat(".key k\n", api.MaxKeys), strings.Repeat(".see a -> b\n", api.MaxKeys)
	s := parse(t, ".topic a\n"+keys+sees+".topic b\n"+sees+keys)
	for _, x := range s.Topics {
		if len(x.Keys) != api.MaxKeys || len(x.Sees) != api.MaxKeys {
			t.Error(len(x.Keys), len(x.Sees))
		}
	}
	wantFault(t, ".topic a\n"+keys+".key k", api.ErrLong, 66, 1, "key")
	wantFault(t, ".topic a\n"+keys+".key ;", api.ErrArg, 66, 1, "key")
	wantFault(t, ".topic a\n"+keys+"x\n.key k", api.ErrOrder, 67, 1, "key")
	wantFault(t, ".topic a\n"+sees+".see a -> b", api.ErrLong, 66, 1, "see")
	wantFault(t, ".topic a\n"+sees+".see a", api.ErrArg, 66, 1, "see")
	wantFault(t, ".topic a\n"+sees+".note a\n.see a -> b", api.ErrOrder, 67, 1, "see")
}

func TestListsWithinLists(t *testing.T) {
	deep := ".topic a\n" + strings.Repeat(".list bullet\n.item\n", api.MaxDepth)
	s := parse(t, deep+"x\n"+strings.Repeat(".end\n", api.MaxDepth))
	if len(s.Topics[0].Blocks) != 3*api.MaxDepth+1 {
		t.Error(s)
	}
	wantFault(t, deep+".list number", api.ErrLong, 18, 1, "list")
	wantFault(t, deep+".list", api.ErrArg, 18, 1, "list")
	wantFault(t, deep, api.ErrOpen, 16, 1, "list")
	wantFault(t, deep+".table 1\n", api.ErrOrder, 18, 1, "table")
	again := strings.Repeat(".list bullet\n.item\n.list bullet\n.end\n.end\n", 20) // so many at once, not in all
	parse(t, ".topic a\n"+again)
	parse(t, deep+".end\n.list number\n"+strings.Repeat(".end\n", api.MaxDepth))
}

func TestRowsOfTables(t *testing.T) {
	for n := 1; n <= api.MaxColumns; n++ {
		ahead := ".topic a\n.table" + strings.Repeat(" 1", n) + "\n"
		row := ".row\n" + strings.Repeat("x\n\n", n)
		s := parse(t, ahead+row+row+".end\n")
		if len(s.Topics[0].Blocks) != 2*n+4 {
			t.Error(s)
		}
		line := 4 + 2*n // behind the row
		wantFault(t, ahead+row+"y {b z}\n", api.ErrRow, line, 1, "")
		wantFault(t, ahead+row+"\n\n  {b z}\n", api.ErrRow, line+2, 3, "")
		few := ".row\n" + strings.Repeat("x\n\n", n-1)
		wantFault(t, ahead+row+few+".row\n", api.ErrRow, 2*line-5, 1, "row")
		wantFault(t, ahead+few+".end x\n", api.ErrRow, line-2, 1, "end")
		wantFault(t, ahead+few+".row x\n", api.ErrRow, line-2, 1, "row")
	}
}

func TestLongTexts(t *testing.T) {
	full := strings.Repeat(a(api.MaxLine)+"\n\n", api.MaxText/api.MaxLine)
	lacks := full[:len(full)-2-6] + "\n" // six bytes, one of which is the line's end
	for _, s := range []string{
		full, full + "{tab}{br}{b}\n", "x\n.topic b\n" + full, ".key " + a(64) + "\n" + full + ".list bullet\n.item\n.end\n",
		lacks + "{link xyz|abcd}e\n", lacks + "{note abcde}\n", lacks + "{tab}{note  a   \tcde }{br}\n",
	} {
		parse(t, ".topic a\n"+s)
		parse(t, ".topic a\n"+s+"\n.note b\nx\n.topic c\n"+full)
	}
	for _, more := range []string{"b", "{b c}", "{link x}", "{link x|y}", ".list bullet\n.item\nz\n.end", ".table 1\n.row\nz\n.end", "\\|"} {
		for _, end := range []string{"", "\n\n", "\n.topic b", "\n.note", "\n.topic |", "\n.topic b\n.foo"} {
			wantFault(t, "\n.topic a | b\n"+full+more+end, api.ErrLong, 2, 1, "topic")
			wantFault(t, ".topic a\nx\n.note a\n\n"+full+more+end, api.ErrLong, 3, 1, "note")
		}
		wantFault(t, ".topic a\n"+full+more+"\n.foo\n.topic b\n", api.ErrOrder, 11+strings.Count(more, "\n"), 1, "foo") // it is told at the end
	}
	wantFault(t, ".topic a\n"+full+"b\n.list bullet\n.topic b\n", api.ErrOpen, 11, 1, "list")
	wantFault(t, ".topic a\n"+full+"b\n.list bullet\n", api.ErrOpen, 11, 1, "list")
	wantFault(t, ".topic a\n"+full+"b\n.para b\n.topic b\n", api.ErrOpen, 11, 1, "para")
	wantFault(t, ".topic a\n"+full+full[:5000]+"\n", api.ErrLong, 1, 1, "topic")
	wantFault(t, ".topic a\n"+lacks+"{link x|abcde}e\n", api.ErrLong, 1, 1, "topic")
	wantFault(t, ".topic a\n"+lacks+"{note a  bcde}\n", api.ErrLong, 1, 1, "topic")
	many := strings.Repeat("\u4e2d", 1365) + "a\n\n" // 4096 bytes
	parse(t, ".topic a\n"+strings.Repeat(many, 4))
	wantFault(t, ".topic a\n"+strings.Repeat(many, 4)+"b", api.ErrLong, 1, 1, "topic")
}

// The end of a topic

func TestWhatIsOpenAtTheEnd(t *testing.T) {
	for _, end := range []string{"", "\n# x\n", ".topic b\n", ".note b\n", ".topic\n", "\n\n.note |\n", ".topic b\n.foo\n"} {
		wantFault(t, ".topic a\n.list bullet\n"+end, api.ErrOpen, 2, 1, "list")
		wantFault(t, ".topic a\n.list bullet\n.item\nx\n"+end, api.ErrOpen, 2, 1, "list")
		wantFault(t, ".topic a\n.list bullet\n.item\n.list number\n"+end, api.ErrOpen, 4, 1, "list")
		wantFault(t, ".topic a\n.list bullet\n.item\n.list number\n.end\n"+end, api.ErrOpen, 2, 1, "list")
		wantFault(t, ".topic a\n\n.table 1\n"+end, api.ErrOpen, 3, 1, "table")
		wantFault(t, ".note a\n\n.table 1\n.row\n"+end, api.ErrOpen, 3, 1, "table")
		wantFault(t, ".topic a\n.table 1\n.row\nx\n"+end, api.ErrOpen, 2, 1, "table")
	}
}

// Faults of package mark

func TestFaultsOfMark(t *testing.T) {
	under := api.Step{Layer: "mark", What: 0}
	long := strings.Repeat("\n", api.MaxSource+1)
	wantFault(t, long, api.ErrLong, 0, 0, "", under)
	wantFault(t, a(api.MaxLine+1), api.ErrLong, 1, 1, "", under)
	wantFault(t, ".topic a\n\xff", api.ErrChar, 2, 1, "", under)
	wantFault(t, ".topic a\x00", api.ErrChar, 1, 9, "", under)
	wantFault(t, ".topic \xe4\xb8 a", api.ErrChar, 1, 8, "", under)
	wantFault(t, ".Topic", api.ErrDirective, 1, 2, "", under)
	wantFault(t, ".topic a\n.topic1", api.ErrDirective, 2, 2, "topic", under)
	wantFault(t, `\q`, api.ErrEscape, 1, 1, "q", under)
	wantFault(t, "{ x}", api.ErrNameless, 1, 1, "", under)
	wantFault(t, ".topic a\nx}", api.ErrClose, 2, 2, "", under)
	wantFault(t, "{b\n", api.ErrUnclosed, 1, 1, "b", under)
	wantFault(t, ".topic a\n"+strings.Repeat("{b ", api.MaxNest)+"{i", api.ErrNest, 2, 49, "i", under)
	for _, s := range []string{"text\n", ".foo\n", ".topic\n", ".topic a\n.list bullet\n", ".topic a\n{b|}\n", ".topic a\n.para b\n"} { // ahead of any of ours
		n := strings.Count(s, "\n") + 1
		wantFault(t, s+"\n\nx}", api.ErrClose, n+2, 2, "", under)
		wantFault(t, s+".Z", api.ErrDirective, n, 2, "", under)
	}
}

// Two faults, of which the first is told

func TestTheFirstOfSeveral(t *testing.T) {
	wantFault(t, ".foo\ntext\n.topic\n", api.ErrOrder, 1, 1, "foo")
	wantFault(t, "text\n.foo\n", api.ErrOutside, 1, 1, "")
	wantFault(t, "text {tab x}\n", api.ErrOutside, 1, 1, "")
	wantFault(t, ".topic a\n{tab x} {b|}\n.foo\n", api.ErrBrace, 2, 1, "tab")
	wantFault(t, ".topic a\n{b|} {tab x}\n", api.ErrBrace, 2, 3, "")
	wantFault(t, ".topic a\n{link {tab x}|{b|}}\n", api.ErrBrace, 2, 1, "link")
	wantFault(t, ".topic a\n{link a|{b|}} {link}\n", api.ErrBrace, 2, 11, "")
	wantFault(t, ".topic a\nx\n.key ;\n", api.ErrOrder, 3, 1, "key")
	wantFault(t, ".topic a\n.table 1\n.row\n.item\n", api.ErrOrder, 4, 1, "item")
	wantFault(t, ".topic a\n.table 1\n.row\n.list\n", api.ErrOrder, 4, 1, "list")
	wantFault(t, ".topic a\n.table 1\n.row\n.para B\n\n.foo", api.ErrArg, 4, 1, "para")
	wantFault(t, ".topic a\n.table 1\n.row\nx\n\n.para B", api.ErrOrder, 6, 1, "para")
	wantFault(t, ".topic a\n.list bullet\n.table 1\n", api.ErrOrder, 3, 1, "table")
	wantFault(t, ".topic a\n.list bullet\nx\n.topic b\n", api.ErrOutside, 3, 1, "")
	wantFault(t, ".topic a\n.table 1 1\n.row\n.topic\n", api.ErrOpen, 2, 1, "table")
	wantFault(t, ".topic a\n.para B\n.foo\n", api.ErrArg, 2, 1, "para")
	wantFault(t, ".topic a\n.list bullet\n.para B\n", api.ErrOrder, 3, 1, "para")
	wantFault(t, ".topic |\n.topic a |\n", api.ErrArg, 1, 1, "topic")
}
