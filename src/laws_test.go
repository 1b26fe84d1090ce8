package src_test

import (
	"reflect"
	"regexp"
	"slices"
	"strconv"
	"strings"
	"testing"

	"folio/api"
	"folio/fault"
	"folio/src"
)

// dice throws numbers that are the same each time.
type dice uint32

func (d *dice) throw(n int) int {
	*d = *d*1664525 + 1013904223
	return int(*d>>8) % n
}

func (d *dice) one(l ...string) string { return l[d.throw(len(l))] }

// text throws a paragraph's text; linked: within a link.
func (d *dice) text(depth int, linked bool) string {
	var b strings.Builder
	for range 1 + d.throw(6) {
		switch n := d.throw(16); {
		case n == 0 && depth > 0:
			b.WriteString(d.one("{b ", "{i  ", "{warn\n", "{h ") + d.text(depth-1, linked) + "}")
		case n == 1 && depth > 0 && !linked:
			b.WriteString(d.one("{link ", "{note\t", "{link\n") + d.one("Home", "a  b", `\|c\\`, "x\ny") + d.one("", " ") + "|" + d.text(depth-1, true) + "}")
		case n == 2 && !linked:
			b.WriteString(d.one("{link ", "{note  ") + d.one("Home", `c \{ d`, "e\n f") + "}")
		case n == 3:
			b.WriteString(d.one("{tab}", "{br}", "{tab }", "{b}"))
		case n == 4:
			b.WriteString(d.one(`\|`, `\{`, `\}`, `\\`, `\.`, `\#`))
		case n < 9:
			b.WriteString(d.one(" ", "  ", "\n", " \t", " \n\t "))
		default:
			b.WriteString(d.one("a", "bc", "d.", "e#", "\u4e2d\u00e9", "long"+strings.Repeat("er", 8), "word", " of ", " .x", " #y", "z\u00a0"))
		}
	}
	return b.String()
}

var blankLines = regexp.MustCompile(`\n[ \t\n]*\n`)

// paragraph throws one, which begins such that it is none else.
func (d *dice) paragraph(l []string) []string {
	if d.throw(4) == 0 {
		l = append(d.noise(l), d.one(".para warn", ".para  b ", ".para abcdefghijkl"))
	}
	s := d.one("x", `\.`, `\#`, " y", "{b z}", "|", "x") + strings.TrimRight(d.text(3, false), " \t\n")
	return append(d.noise(l), blankLines.ReplaceAllString(s, "\n"), "")
}

// noise throws lines that change nothing between paragraphs.
func (d *dice) noise(l []string) []string {
	for range d.throw(5) / 3 {
		l = append(l, d.one("", "# c {", " \t", "#"))
	}
	return l
}

// blocks throws some; depth: how many lists are open.
func (d *dice) blocks(l []string, depth int) []string {
	for range d.throw(4) {
		l = d.noise(l)
		switch n := d.throw(8); {
		case n == 0 && depth < api.MaxDepth:
			l = append(l, d.one(".list bullet", ".list\tnumber "))
			for range d.throw(4) {
				l = d.blocks(append(d.noise(l), ".item"), depth+1)
			}
			l = append(l, ".end")
		case n == 1 && depth == 0:
			l = d.table(l)
		default:
			l = d.paragraph(l)
		}
	}
	return l
}

func (d *dice) table(l []string) []string {
	wide := 1 + d.throw(3)
	l = append(l, ".table"+strings.Repeat(d.one(" 0", " 100", "  7"), wide))
	for range d.throw(3) {
		l = append(d.noise(l), ".row")
		for range wide {
			l = d.paragraph(l)
		}
	}
	return append(d.noise(l), ".end ")
}

func (d *dice) topic(l []string) []string {
	if d.throw(3) == 0 {
		return d.blocks(append(l, d.one(".note n", ".note a | b", ".note\tx  y |  Z")), 0)
	}
	l = append(l, d.one(".topic Home", ".topic a b|c", ".topic  Home |  The \t start | now", ".topic x||", ".topic \u4e2d | \u4e2d"))
	if d.throw(2) == 0 {
		l = append(d.noise(l), ".toc "+strconv.Itoa(1+d.throw(8)))
	}
	for range d.throw(3) {
		l = append(d.noise(l), d.one(".key k", ".key  A b ; c", ".key a;;b", ".see C -> A", ".see a-->b->c", ".see  x  y->z"))
	}
	return d.blocks(l, 0)
}

// slip throws a line that may be a fault where it comes to stand.
func (d *dice) slip() string {
	return d.one(".item", ".end", ".row", ".toc 1", ".key a", ".see a -> b", ".list bullet", ".list number", ".table 1 1", ".para b", ".style s",
		".foo", ".note", ".topic |", ".topic a", ".note b", "text", "", "x", ".toc 0", ".key ;a", ".see a", ".list", ".table 101", ".para B", ".style",
		"{link a|{note b}}", "{b x|y}", "{tab x}", "{br|}", "{link {b}}", "{note "+a(65)+"}", "{link a|b|c}", ".end x", ".row 1", ".item -", ".key "+a(65), ".topic a|"+a(201),
		"{b", "x}", ".Topic", "{ }", `\q`, "\xff", "y")
}

// source throws one that is taken, but for slips: lines that are put in, taken out or exchanged.
func (d *dice) source(slips int) string {
	var l []string
	for range d.throw(3) {
		l = append(d.noise(l), d.one(".style warn:b", ".style  x  y"))
	}
	for range d.throw(4) {
		l = d.topic(d.noise(l))
	}
	for range slips {
		at := d.throw(len(l) + 1)
		switch n := d.throw(4); {
		case n == 0 && at < len(l):
			l = slices.Delete(l, at, at+1)
		case n == 1 && at+1 < len(l):
			l[at], l[at+1] = l[at+1], l[at]
		default:
			l = slices.Insert(l, at, d.slip())
		}
	}
	return strings.Join(l, d.one("\n", "\n", "\r\n")) + d.one("", "\n", "\n", "\n\n")
}

func sources(seed dice, count int) []string {
	var l []string
	for i := range count {
		l = append(l, seed.source(i%3*i%4))
	}
	return l
}

// taken answers those sources that Parse takes, and what it tells of them.
func taken(t *testing.T, seed dice, count int) ([]string, []api.Source) {
	t.Helper()
	var l []string
	var told []api.Source
	for _, s := range sources(seed, count) {
		if x, err := src.Parse(s); err == nil {
			l, told = append(l, s), append(told, x)
		}
	}
	if len(l) < count/3 {
		t.Fatal("too few sources are taken: ", len(l))
	}
	return l, told
}

// P5.1, P5.2

func wantReckoned(t *testing.T, s string) api.Fault {
	t.Helper()
	got, err := src.Parse(s)
	want, f := parsePlainly(s)
	if told := fault.Told(err); !reflect.DeepEqual(told, f) {
		t.Fatalf("Parse(%s): %v; want %v", short(s), told, f)
	}
	if !alike(got, want) {
		t.Fatalf("Parse(%s): %v; want %v", short(s), got, want)
	}
	if again, _ := src.Parse(s); !alike(again, got) {
		t.Fatalf("Parse(%s) a second time: %v; first: %v", short(s), again, got)
	}
	return f
}

func TestParseIsWhatIsReckonedPlainly(t *testing.T) {
	seen := map[api.Errno]int{}
	for _, s := range sources(1, 20000) {
		seen[wantReckoned(t, s).Code]++
	}
	for code, least := range map[api.Errno]int{
		api.OK: 8000, api.ErrOrder: 500, api.ErrArg: 200, api.ErrOutside: 50, api.ErrOpen: 200, api.ErrRow: 50, api.ErrBrace: 200, api.ErrUnclosed: 50, api.ErrChar: 50,
	} {
		if seen[code] < least {
			t.Errorf("too few of error %d: %v", code, seen)
		}
	}
}

func TestAnyLines(t *testing.T) {
	d := dice(2)
	for range 30000 {
		var l []string
		for range d.throw(9) {
			l = append(l, d.one(d.slip(), ".topic a", ".list bullet", ".item", ".end", ".table 1", ".row", "x\n", ".para b"))
		}
		wantReckoned(t, strings.Join(l, "\n"))
	}
}

func TestAnyBytes(t *testing.T) {
	d := dice(3)
	const some = "ab \t\n\r.#{}|\\\xe4\xb8\xad\xff\x00;->1"
	for range 50000 {
		b := make([]byte, d.throw(14))
		for i := range b {
			b[i] = some[d.throw(len(some))]
			if d.throw(20) == 0 {
				b[i] = byte(d.throw(256))
			}
		}
		s := d.one("", ".topic a\n", ".topic a\n.list bullet\n.item\n", ".topic ", ".topic a\n.table ", ".topic a\n{link ") + string(b)
		wantReckoned(t, s)
	}
}

// P5.3

// piece throws one, such as nobody reads; open: how many more were opened than closed, never to be below 0.
func (d *dice) piece(open int, ahead api.InlineKind) api.Inline {
	kind := api.InlineKind(d.throw(10))
	if kind == api.InClose && open == 0 || (kind == 0 || kind > 7) && ahead == api.InStyle { // of these the words may be read in more than one way
		kind = api.InText
	}
	return api.Inline{
		Kind: kind, Line: d.throw(9), Col: d.throw(9),
		Text: d.one("", " ", "a", "a b ", " .c #d", "|", ` \ { | } `, "\xff\t", "\u4e2d\u4e2d\u4e2d\u4e2d ", "word and word "+a(30), a(79)),
		Name: d.one("", "b", "Home", "a | b", `\{}|`, ".#", "x  y"),
	}
}

// anything throws a source that no text need have.
func (d *dice) anything() api.Source {
	var s api.Source
	word := func() string { return d.one("", "a", "b c", " | ", "->", "{\\\xff", ";") }
	for range d.throw(3) {
		s.Styles = append(s.Styles, api.StyleDef{Text: word(), Line: d.throw(9)})
	}
	for range d.throw(3) {
		x := api.Topic{Kind: d.throw(4) - 1, Name: word(), Title: word(), Level: max(0, d.throw(20)-9), Line: d.throw(9)}
		for range d.throw(3) {
			x.Keys = append(x.Keys, api.KeyRef{Term: word(), Sub: word()})
			x.Sees = append(x.Sees, api.SeeRef{From: word(), To: word()})
		}
		for range d.throw(4) {
			b := api.Block{Kind: api.BlockKind(max(1, d.throw(12)-3)), N: d.throw(4) - 1, Style: word(), Widths: []int{1, -2, 333}[:d.throw(4)], Line: d.throw(9)}
			open := 0
			ahead := api.InlineKind(0)
			for range d.throw(12) {
				p := d.piece(open, ahead)
				b.Text, ahead = append(b.Text, p), p.Kind
				switch p.Kind {
				case api.InStyle, api.InLink, api.InNote:
					open++
				case api.InClose:
					open--
				}
			}
			x.Blocks = append(x.Blocks, b)
		}
		s.Topics = append(s.Topics, x)
	}
	return s
}

func TestWriteIsWhatIsReckonedPlainly(t *testing.T) {
	d := dice(4)
	for range 20000 {
		s := d.anything()
		if got, want := src.Write(s), writePlainly(s); got != want {
			t.Fatalf("Write(%v): %q; want %q", s, got, want)
		}
	}
	_, told := taken(t, 5, 2000)
	for _, s := range told {
		if got, want := src.Write(s), writePlainly(s); got != want {
			t.Fatalf("Write(%v): %q; want %q", s, got, want)
		}
	}
}

// P5.4

func TestBytesAndPlainTogether(t *testing.T) {
	_, told := taken(t, 6, 2000)
	for _, s := range told {
		for _, x := range s.Topics {
			n, signs := 0, 0
			for _, b := range x.Blocks {
				n += len(src.Plain(b.Text))
				for _, p := range b.Text {
					if p.Kind == api.InTab || p.Kind == api.InBreak {
						signs++
					}
				}
			}
			if src.Bytes(x) != n-signs {
				t.Fatalf("Bytes(%v): %d; Plain of all has %d, with %d tabs and breaks", x, src.Bytes(x), n, signs)
			}
		}
	}
}

// P5.5

func wantBack(t *testing.T, s string, x api.Source) {
	t.Helper()
	w := src.Write(x)
	y, err := src.Parse(w)
	if err != nil {
		t.Fatalf("Parse(%s) of %s: %s", short(w), short(s), fault.Text(err))
	}
	if !src.Same(x, y) || !src.Same(y, x) {
		t.Fatalf("Parse(%s): %v; of %s: %v", short(w), y, short(s), x)
	}
	if v := src.Write(y); v != w {
		t.Fatalf("Write of what %s is: %s", short(w), short(v))
	}
}

func TestThereAndBack(t *testing.T) {
	l, told := taken(t, 7, 10000)
	for i, s := range l {
		wantBack(t, s, told[i])
	}
	for _, s := range []string{
		"", "\n", ".topic a", ".topic a | a", ".topic a || b", ".topic a | b | c", ".topic a\n.key a;;b\n.see a->->", ".topic a\n.see a --> b\n.see a->> b",
		".topic a\n{link \\|a  b}{note \\\\|\\|}", ".topic a\n\\.x\n\n\\#y\n\n .z\n\n{b}", ".topic a\n{b {i {link a|{s}}}} {tab}{br}\n|",
		".topic a\n.table 0\n.end\n.list number\n.end", ".topic a\n" + strings.Repeat(".list bullet\n.item\n", 8) + "x\n" + strings.Repeat(".end\n", 8),
		".topic a\n" + a(4096) + "\n\n.table 1\n.row\n" + a(4096) + "\n.end", ".topic a\nx\n " + words(600, ".x #y"), ".topic a\n" + words(500, "{b .}|"),
		".topic a\n" + strings.Repeat("a {b ", 16) + strings.Repeat("}", 16), ".topic a\n " + a(4094) + "\n\n" + strings.Repeat("{tab}", 800), ".style " + a(4089),
		".topic " + a(64) + "|" + a(200) + "\n.key " + a(64) + ";" + a(64) + "\n.see " + a(64) + "->" + a(64) + "\n{link " + a(64) + "}",
	} {
		wantBack(t, s, parse(t, s))
	}
}

// P5.6

// balanced holds what a source has against P5.6.
func balanced(x api.Topic) bool {
	var open []api.Block
	cells := 0
	for _, b := range x.Blocks {
		row := len(open) > 0 && open[len(open)-1].Kind == api.BlockTable
		switch b.Kind {
		case api.BlockList, api.BlockTable:
			if row || b.Kind == api.BlockTable && len(open) > 0 {
				return false
			}
			open = append(open, b)
			cells = len(b.Widths)
		case api.BlockEnd, api.BlockRow:
			if len(open) == 0 || row && cells != len(open[len(open)-1].Widths) {
				return false
			}
			cells = 0
			if b.Kind == api.BlockEnd {
				open = open[:len(open)-1]
			}
		case api.BlockPara:
			cells++
			if !balancedPieces(b.Text) {
				return false
			}
		}
	}
	return len(open) == 0
}

func balancedPieces(l []api.Inline) bool {
	var open []api.InlineKind
	linked := func(k api.InlineKind) bool { return k == api.InLink || k == api.InNote }
	for _, p := range l {
		switch p.Kind {
		case api.InLink, api.InNote, api.InStyle:
			if linked(p.Kind) && slices.ContainsFunc(open, linked) {
				return false
			}
			open = append(open, p.Kind)
		case api.InClose:
			if len(open) == 0 {
				return false
			}
			open = open[:len(open)-1]
		}
	}
	return len(open) == 0
}

func TestBalanced(t *testing.T) {
	l, told := taken(t, 8, 10000)
	rows, lists, links := 0, 0, 0
	for i, s := range l {
		for _, x := range told[i].Topics {
			if !balanced(x) {
				t.Fatalf("Parse(%s): %v", short(s), x)
			}
			for _, b := range x.Blocks {
				switch b.Kind {
				case api.BlockRow:
					rows++
				case api.BlockList:
					lists++
				case api.BlockPara:
					if slices.ContainsFunc(b.Text, func(p api.Inline) bool { return p.Kind == api.InLink }) {
						links++
					}
				}
			}
		}
	}
	if min(rows, lists, links) < 500 {
		t.Error("too few: ", rows, lists, links)
	}
}

// P5.7

// lineless answers a source without Lines.
func lineless(s api.Source) api.Source {
	s = own(s)
	for i := range s.Styles {
		s.Styles[i].Line = 0
	}
	for i := range s.Topics {
		x := &s.Topics[i]
		x.Line = 0
		for j := range x.Keys {
			x.Keys[j].Line = 0
		}
		for j := range x.Sees {
			x.Sees[j].Line = 0
		}
		for j := range x.Blocks {
			x.Blocks[j].Line = 0
			for k := range x.Blocks[j].Text {
				x.Blocks[j].Text[k].Line = 0
			}
		}
	}
	return s
}

func isText(line string) bool {
	return strings.Trim(line, " \t") != "" && !strings.ContainsAny(line[:1], ".#")
}

func TestCommentsAndSpaces(t *testing.T) {
	d := dice(9)
	l, _ := taken(t, 10, 4000)
	for _, s := range l {
		w := src.Write(parse(t, s))
		want := lineless(parse(t, w))
		var with []string
		before := ""
		for line := range strings.Lines(w) {
			line = strings.TrimSuffix(line, "\n")
			for range d.throw(3) {
				with = append(with, "#"+d.one("", " x", "{", ".topic \\q", "}|"))
			}
			if !(isText(before) && isText(line)) { // between the lines of one paragraph there would be two
				for range d.throw(3) {
					with = append(with, d.one("", "# y", " ", "\t"))
				}
			}
			with = append(with, line)
			before = line
		}
		got := parse(t, lines(append(with, "# z", "")...))
		if !reflect.DeepEqual(lineless(got), want) {
			t.Fatalf("with comments and empty lines %s: %v; without: %v", short(strings.Join(with, "\n")), got, want)
		}
	}
	wantSource(t, lines(".topic a", "x", "# {", "y"), topics(topic(1, "a", para(2, text("x y", 2, 1)))))
	wantSource(t, lines(".topic a", "x", "", "y"), topics(topic(1, "a", para(2, text("x", 2, 1)), para(4, text("y", 4, 1)))))
}

// P5.8

// moved answers topics with so much added to their Lines.
func moved(l []api.Topic, by int) []api.Topic {
	l = own(api.Source{Topics: l}).Topics
	for i := range l {
		x := &l[i]
		x.Line += by
		for j := range x.Keys {
			x.Keys[j].Line += by
		}
		for j := range x.Sees {
			x.Sees[j].Line += by
		}
		for j := range x.Blocks {
			x.Blocks[j].Line += by
			for k := range x.Blocks[j].Text {
				x.Blocks[j].Text[k].Line += by
			}
		}
	}
	return l
}

func TestOneBehindTheOther(t *testing.T) {
	l, told := taken(t, 11, 4000)
	pairs := 0
	for i := range l {
		j := (i + 1) % len(l)
		if !strings.HasSuffix(l[i], "\n") || len(told[j].Styles) > 0 {
			continue
		}
		want := api.Source{Styles: told[i].Styles, Topics: append(slices.Clone(told[i].Topics), moved(told[j].Topics, strings.Count(l[i], "\n")+1)...)}
		wantSource(t, l[i]+"\n"+l[j], want)
		pairs++
	}
	if pairs < 500 {
		t.Error("too few pairs: ", pairs)
	}
	full := strings.Repeat(".topic a\n", 500)
	if s := parse(t, full+"\n"+full); len(s.Topics) != 1000 {
		t.Error(len(s.Topics))
	}
}

// P2, P3: memory

// spoiled writes over all that a source has, and behind its lists.
func spoiled(s api.Source) {
	for _, x := range s.Topics[:cap(s.Topics)] {
		for _, b := range x.Blocks[:cap(x.Blocks)] {
			fill(b.Widths, -1)
			fill(b.Text, api.Inline{Text: "?", Line: -1})
		}
		fill(x.Keys, api.KeyRef{Term: "?"})
		fill(x.Sees, api.SeeRef{From: "?"})
		fill(x.Blocks, api.Block{Style: "?"})
	}
	fill(s.Styles, api.StyleDef{Text: "?"})
	fill(s.Topics, api.Topic{Name: "?"})
}

func fill[T any](l []T, x T) {
	l = l[:cap(l)]
	for i := range l {
		l[i] = x
	}
}

func TestAnswersShareNoMemory(t *testing.T) {
	for _, s := range sources(12, 500) {
		one, err := src.Parse(s)
		want := own(one)
		two, _ := src.Parse(s)
		spoiled(two)
		if three, again := src.Parse(s); !alike(one, want) || !alike(three, want) || fault.Text(again) != fault.Text(err) {
			t.Fatalf("Parse(%s): %v; %v", short(s), one, want)
		}
	}
}

func TestListsOfOneAnswerShareNoMemory(t *testing.T) {
	const s = ".topic a\n.key k\n.see k -> l\n.table 1 2\n.row\nx\n\ny\n.end\n.table 1 2\n.row\nx\n\ny\n.end\n.topic b\n.key k\n.see k -> l\nx\n\nx\n"
	got := parse(t, s)
	want := parse(t, s)
	for i := range got.Topics {
		for j := range got.Topics[i].Blocks {
			kept := own(got)
			b := got.Topics[i].Blocks[j]
			fill(b.Text, api.Inline{Text: "?"})
			fill(b.Widths, -1)
			kept.Topics[i].Blocks[j].Text, kept.Topics[i].Blocks[j].Widths = b.Text, b.Widths
			if !alike(got, kept) {
				t.Fatalf("block %d of topic %d has what another has: %v", j, i, got)
			}
		}
	}
	fill(got.Topics[0].Keys, api.KeyRef{Term: "?"})
	fill(got.Topics[0].Sees, api.SeeRef{To: "?"})
	fill(got.Topics[0].Blocks, api.Block{})
	if x := got.Topics[1]; !reflect.DeepEqual(x.Keys, want.Topics[1].Keys) || !reflect.DeepEqual(x.Sees, want.Topics[1].Sees) || len(x.Blocks) != len(want.Topics[1].Blocks) || x.Blocks[0].Kind != api.BlockPara {
		t.Error(got)
	}
}

// behind answers a list with something behind its length.
func behind[T any](l []T, x T) []T { return append(slices.Clip(l), x, x)[:len(l)] }

func TestArgumentsStayAsTheyAre(t *testing.T) {
	d := dice(13)
	for range 500 {
		s := own(d.anything())
		for i := range s.Topics {
			x := &s.Topics[i]
			for j := range x.Blocks {
				b := &x.Blocks[j]
				b.Widths, b.Text = behind(b.Widths, 77), behind(b.Text, run("??"))
			}
			x.Keys, x.Sees, x.Blocks = behind(x.Keys, api.KeyRef{Term: "??"}), behind(x.Sees, api.SeeRef{From: "??"}), behind(x.Blocks, plain(run("??")))
		}
		s.Styles, s.Topics = behind(s.Styles, api.StyleDef{Text: "??"}), behind(s.Topics, topic(0, "??"))
		same := own(s)
		if got := src.Write(s); got != src.Write(same) || strings.Contains(got, "?") || strings.Contains(got, "77") {
			t.Fatalf("Write: %q", got)
		}
		if !src.Same(s, same) || !src.Same(same, s) {
			t.Fatal("not the same")
		}
		for i, x := range s.Topics {
			if src.Bytes(x) != src.Bytes(same.Topics[i]) {
				t.Fatal("Bytes of what lies behind")
			}
			for j, b := range x.Blocks {
				if src.Plain(b.Text) != src.Plain(same.Topics[i].Blocks[j].Text) {
					t.Fatal("Plain of what lies behind")
				}
			}
		}
		if !alike(s, same) || len(s.Topics) > 0 && s.Topics[:cap(s.Topics)][len(s.Topics)].Name != "??" {
			t.Fatal("an argument is changed")
		}
	}
}
