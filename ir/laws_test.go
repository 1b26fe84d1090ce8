package ir_test

import (
	"math"
	"regexp"
	"slices"
	"strconv"
	"strings"
	"testing"
	"unicode/utf8"

	"folio/api"
	"folio/ir"
	"folio/names"
	"folio/src"
	"folio/style"
)

// A second reckoning of Check, by the chapter's words: each operation by the list of all that is open ahead of it.

// reckoner keeps where what is open has begun: the places of paragraphs, of styles, links and notes, of lists and tables.
type reckoner struct {
	l    []api.Op
	open []int
}

func (r reckoner) count(kinds ...api.OpKind) int {
	n := 0
	for _, at := range r.open {
		if slices.Contains(kinds, r.l[at].Kind) {
			n++
		}
	}
	return n
}

// inner answers the Kind of what was begun last of what is open (0: nothing is), and what has come in it, but not in what has ended in it.
func (r reckoner) inner(upTo int) (api.Op, []api.OpKind) {
	if len(r.open) == 0 {
		return api.Op{}, nil
	}
	begin := r.open[len(r.open)-1]
	var come []api.OpKind
	deep := 0
	for _, o := range r.l[begin+1 : upTo] {
		switch o.Kind {
		case api.OpDone, api.OpEnd:
			deep--
		}
		if deep == 0 && slices.Contains([]api.OpKind{api.OpItem, api.OpRow, api.OpDone}, o.Kind) {
			come = append(come, o.Kind)
		}
		switch o.Kind {
		case api.OpPara, api.OpList, api.OpTable:
			deep++
		}
	}
	return r.l[begin], come
}

// fullRow answers whether the last row has as many paragraphs as a table asks for; room: whether there is one that has fewer.
func fullRow(table api.Op, come []api.OpKind) (full, room bool) {
	row := -1
	for i, kind := range come {
		if kind == api.OpRow {
			row = i
		}
	}
	have := len(come) - row - 1
	return row == -1 || have == len(table.Widths), row != -1 && have < len(table.Widths)
}

func (r reckoner) mayStand(at int) bool {
	inPara := r.count(api.OpPara) > 0
	braces := r.count(api.OpStyle, api.OpLink, api.OpNote)
	inner, come := r.inner(at)
	full, room := fullRow(inner, come)
	nothing := len(r.open) == 0
	inItem := inner.Kind == api.OpList && slices.Contains(come, api.OpItem)
	switch kind := r.l[at].Kind; kind {
	case api.OpText:
		return inPara && r.l[at-1].Kind != api.OpText
	case api.OpTab, api.OpBreak:
		return inPara
	case api.OpStyle:
		return inPara && braces < 16
	case api.OpLink, api.OpNote:
		return inPara && braces < 16 && r.count(api.OpLink, api.OpNote) == 0
	case api.OpClose:
		return braces > 0
	case api.OpDone:
		return inPara && braces == 0
	case api.OpPara:
		return !inPara && (nothing || inItem || inner.Kind == api.OpTable && room)
	case api.OpList:
		return !inPara && (nothing || inItem) && r.count(api.OpList) < 8
	case api.OpItem:
		return !inPara && inner.Kind == api.OpList
	case api.OpTable:
		return !inPara && nothing
	case api.OpRow:
		return !inPara && inner.Kind == api.OpTable && full
	case api.OpEnd:
		return !inPara && !nothing && (inner.Kind != api.OpTable || full)
	}
	return false
}

func reckonedFits(o api.Op, styles, topics int) bool {
	n, widths := []int{0, 0}, 0 // N from the one to the other
	switch o.Kind {
	case api.OpStyle:
		n[1] = styles - 1
	case api.OpLink, api.OpNote:
		n[1] = topics - 1
	case api.OpPara:
		n = []int{-1, styles - 1}
	case api.OpList:
		n[1] = 1
	case api.OpTable:
		widths = 8
	}
	for _, w := range o.Widths {
		if w < 0 || w > 100 {
			return false
		}
	}
	if o.Kind == api.OpText {
		bad := strings.IndexFunc(o.Text, func(c rune) bool { return c < 32 || c > 126 && c < 160 })
		if o.Text == "" || !utf8.ValidString(o.Text) || bad >= 0 {
			return false
		}
	} else if o.Text != "" {
		return false
	}
	return o.N >= n[0] && o.N <= n[1] && len(o.Widths) <= widths && (len(o.Widths) > 0 || widths == 0)
}

func reckonedCheck(l []api.Op, styles, topics int) (int, api.Errno) {
	r := reckoner{l: l}
	for at, o := range l {
		if !reckonedFits(o, styles, topics) || !r.mayStand(at) {
			return at, api.ErrOp
		}
		switch o.Kind {
		case api.OpPara, api.OpStyle, api.OpLink, api.OpNote, api.OpList, api.OpTable:
			r.open = append(r.open, at)
		case api.OpClose, api.OpDone, api.OpEnd:
			r.open = r.open[:len(r.open)-1]
		}
	}
	if len(r.open) > 0 {
		return len(l), api.ErrOp
	}
	return 0, api.OK
}

// pattern is what a list of few operations must be like: a letter for each, as letterOf tells; T: a table of one column, U: of two.
func pattern() *regexp.Regexp {
	free, linked := "[tbr]*", "[tbr]*" // what stands in no link, in one
	for range 3 {
		free, linked = "(?:[tbr]|s"+free+"c|[kn]"+linked+"c)*", "(?:[tbr]|s"+linked+"c)*"
	}
	para := "P" + free + "D"
	list := "LE"
	for range 3 {
		list = "L(?:I(?:" + para + "|" + list + ")*)*E"
	}
	table := "T(?:R" + para + ")*E|U(?:R" + para + para + ")*E"
	return regexp.MustCompile("^(?:" + para + "|" + list + "|" + table + ")*$")
}

func letterOf(o api.Op) byte {
	if o.Kind == api.OpTable && len(o.Widths) == 2 {
		return 'U'
	}
	return " tskncbrPDLITRE"[o.Kind]
}

// TestCheckOfShortLists goes over all short lists that go on from what may be so far: Check is as reckoned, and it takes a list
// just if it is like the pattern.
func TestCheckOfShortLists(t *testing.T) {
	like := pattern()
	next := []api.Op{opTable(1, 1)}
	for _, kind := range allKinds() {
		next = append(next, plainOp(kind))
	}
	taken, refused := 0, 0
	var grow func(l []api.Op, letters string)
	grow = func(l []api.Op, letters string) {
		at, e := ir.Check(l, 1, 1)
		if wantAt, wantE := reckonedCheck(l, 1, 1); at != wantAt || e != wantE {
			t.Fatalf("Check of %s: %d, %d, want %d, %d", letters, at, e, wantAt, wantE)
		}
		if may := like.MatchString(letters) && !strings.Contains(letters, "tt"); may != (e == api.OK) {
			t.Fatalf("Check of %s: %d, %d, but by the pattern it may be: %t", letters, at, e, may)
		}
		if e == api.OK {
			taken++
		} else if at < len(l) {
			refused++
			return
		}
		if len(l) == 7 {
			return
		}
		for _, o := range next {
			grow(append(slices.Clone(l), o), letters+string(letterOf(o)))
		}
	}
	grow(nil, "")
	if taken < 1000 || refused < 100000 {
		t.Errorf("%d taken, %d refused", taken, refused)
	}
}

// Operations thrown

const (
	manyStyles = 5
	manyTopics = 6 // of which the last two are notes
)

func (d *dice) inPara(braces int, linked bool) []api.Op {
	var l []api.Op
	for range d.throw(6) {
		switch n := d.throw(9); {
		case n < 2 && braces < api.MaxNest:
			l = plainOps(l, opN(api.OpStyle, d.throw(manyStyles)), d.inPara(braces+1, linked), api.OpClose)
		case n == 2 && braces < api.MaxNest && !linked:
			l = plainOps(l, opN(api.OpLink, d.throw(manyTopics-2)), d.inPara(braces+1, true), api.OpClose)
		case n == 3 && braces < api.MaxNest && !linked:
			l = plainOps(l, opN(api.OpNote, manyTopics-1-d.throw(2)), d.inPara(braces+1, true), api.OpClose)
		case n == 4:
			l = plainOps(l, api.OpKind(d.number(int(api.OpTab), int(api.OpBreak))))
		case len(l) == 0 || l[len(l)-1].Kind != api.OpText:
			l = plainOps(l, d.text("a", "b c", " ", "\u4e2d", "{x|}", "long text "))
		}
	}
	return l
}

func (d *dice) paragraph() []api.Op {
	return plainOps(opN(api.OpPara, d.throw(manyStyles+1)-1), d.inPara(0, false), api.OpDone)
}

// blocks throws operations that may be; depth: how many lists are open.
func (d *dice) blocks(depth int) []api.Op {
	var l []api.Op
	for range d.throw(4) {
		switch n := d.throw(6); {
		case n == 0 && depth < api.MaxDepth:
			l = plainOps(l, opN(api.OpList, d.throw(2)))
			for range d.throw(4) {
				l = plainOps(l, api.OpItem, d.blocks(depth+1))
			}
			l = plainOps(l, api.OpEnd)
		case n == 1 && depth == 0:
			widths := make([]int, 1+d.throw(3))
			for i := range widths {
				widths[i] = d.throw(101)
			}
			l = plainOps(l, opTable(widths...))
			for range d.throw(3) {
				l = plainOps(l, api.OpRow)
				for range widths {
					l = plainOps(l, d.paragraph())
				}
			}
			l = plainOps(l, api.OpEnd)
		default:
			l = plainOps(l, d.paragraph())
		}
	}
	return l
}

// anyOp throws one that need not be.
func (d *dice) anyOp() api.Op {
	if d.throw(2) == 0 {
		return plainOp(allKinds()[d.throw(int(api.OpEnd))])
	}
	o := api.Op{Kind: api.OpKind(d.throw(17)), N: d.number(0, 0, 1, -1, manyStyles, manyTopics, math.MaxInt, math.MinInt), Text: d.text("", "", "x", "\xff", "\n")}
	if d.throw(3) == 0 {
		o.Widths = [][]int{{}, {1}, {100, 0}, {101}, {-1, 5}, make([]int, 8), make([]int, 9)}[d.throw(7)]
	}
	return o
}

// bent throws what comes of a list, if some operations are put in, taken out or exchanged.
func (d *dice) bent(l []api.Op) []api.Op {
	l = deepOps(l)
	for range d.throw(3) {
		at := d.throw(len(l) + 1)
		switch n := d.throw(4); {
		case n == 0 && at < len(l):
			l = slices.Delete(l, at, at+1)
		case n == 1 && at+1 < len(l):
			l[at], l[at+1] = l[at+1], l[at]
		case n == 2 && at < len(l):
			l[at] = d.anyOp()
		default:
			l = slices.Insert(l, at, d.anyOp())
		}
	}
	return l
}

func TestCheckIsAsReckoned(t *testing.T) {
	d := dice(2)
	taken, refused := 0, 0
	for range 20000 {
		l := d.bent(d.blocks(0))
		styles, topics := d.number(manyStyles, manyStyles, manyStyles, 0, 1, -1, 100), d.number(manyTopics, manyTopics, manyTopics, 0, 1, -1, 100)
		at, e := reckonedCheck(l, styles, topics)
		wantCheck(t, l, styles, topics, at, e)
		if e == api.OK {
			taken++
		} else {
			refused++
		}
	}
	if min(taken, refused) < 4000 {
		t.Errorf("%d taken, %d refused", taken, refused)
	}
}

// TestCheckOfDeepLists holds lists that come to the limits of what may be open.
func TestCheckOfDeepLists(t *testing.T) {
	d := dice(3)
	for range 3000 {
		var l []api.Op
		kinds := []int{int(api.OpStyle), int(api.OpStyle), int(api.OpStyle), int(api.OpStyle), int(api.OpLink), int(api.OpClose), int(api.OpText)}
		if d.throw(2) == 0 {
			kinds = []int{int(api.OpList), int(api.OpList), int(api.OpList), int(api.OpItem), int(api.OpItem), int(api.OpEnd)}
		} else {
			l = plainOps(api.OpPara)
		}
		for range 60 {
			l = plainOps(l, plainOp(api.OpKind(d.number(kinds...))))
			at, e := reckonedCheck(l, 1, 1)
			wantCheck(t, l, 1, 1, at, e)
			if e != api.OK && at < len(l) {
				l = l[:len(l)-1]
			}
		}
	}
}

// Sources thrown

// pieces throws a paragraph's text. Names are as the directory has them, but for some, if they may be others.
func (d *dice) pieces(depth int, linked, others bool) string {
	var b strings.Builder
	for range 1 + d.throw(5) {
		switch n := d.throw(12); {
		case n < 2 && depth > 0:
			b.WriteString("{" + d.text("b", "i", "h", "warn", "dim") + " " + d.pieces(depth-1, linked, others) + "}")
		case n == 2 && depth > 0 && !linked:
			b.WriteString("{" + d.target(others) + "|" + d.pieces(depth-1, true, others) + "}")
		case n == 3 && !linked:
			b.WriteString("{" + d.target(others) + "}")
		case n == 4:
			b.WriteString(d.text("{tab}", "{br}", "{b}", `\{`, `\|`))
		default:
			b.WriteString(d.text("word", " ", "a b", "\u4e2d\u00e9", "\nand", " of "))
		}
	}
	return b.String()
}

func (d *dice) target(others bool) string {
	if others && d.throw(2) == 0 {
		return d.text("link HOME", "link  the  END", "note TIP", "note big Tip")
	}
	return d.text("link Home", "link The end", "note Tip", "note Big tip")
}

// paragraphLines throws a paragraph's lines.
func (d *dice) paragraphLines(others bool) string {
	head := d.text("", "", ".para warn\n", ".para b\n")
	return head + "x" + d.pieces(3, false, others) + "\n\n"
}

func (d *dice) blockLines(depth int, others bool) string {
	var b strings.Builder
	for range 1 + d.throw(3) {
		switch n := d.throw(6); {
		case n == 0 && depth < api.MaxDepth:
			b.WriteString(d.text(".list bullet\n", ".list number\n"))
			for range d.throw(4) {
				b.WriteString(".item\n" + d.blockLines(depth+1, others))
			}
			b.WriteString(".end\n")
		case n == 1 && depth == 0:
			wide := 1 + d.throw(3)
			b.WriteString(".table" + strings.Repeat(" "+strconv.Itoa(d.throw(101)), wide) + "\n")
			for range d.throw(3) {
				b.WriteString(".row\n")
				for range wide {
					b.WriteString(d.paragraphLines(others))
				}
			}
			b.WriteString(".end\n")
		default:
			b.WriteString(d.paragraphLines(others))
		}
	}
	return b.String()
}

// book throws sources that have all the names, and answers them with their sheet and their directory.
func (d *dice) book(t *testing.T, others bool) ([]api.Source, []api.Style, []api.Named) {
	t.Helper()
	var l []api.Source
	for _, heads := range [][]string{{".style warn:b +under color 1\n.topic Home\n", ".note Tip\n"}, {".style dim:warn\n.topic The end\n", ".note Big tip\n", ".topic More\n"}} {
		text := ""
		for _, head := range heads {
			text += head + d.blockLines(0, others)
		}
		s, err := src.Parse(text)
		if err != nil {
			t.Fatal(err, text)
		}
		l = append(l, s)
	}
	sheet, err := ir.Sheet(l)
	if err != nil {
		t.Fatal(err)
	}
	dir, err := names.Collect(l)
	if err != nil {
		t.Fatal(err)
	}
	return l, sheet, dir
}

// A second reckoning of Lower: an operation for each block's beginning and each piece, or the first fault; then texts side by side made one.

func reckonedLower(sheet []api.Style, dir []api.Named, t api.Topic) ([]api.Op, api.Fault) {
	var l []api.Op
	for _, b := range t.Blocks {
		ops, f := reckonedBlock(sheet, dir, b)
		if f.Code != api.OK {
			return nil, f
		}
		for _, o := range ops {
			if last := len(l) - 1; o.Kind == api.OpText && last >= 0 && l[last].Kind == api.OpText {
				l[last].Text += o.Text
			} else {
				l = append(l, o)
			}
		}
	}
	if _, e := reckonedCheck(l, len(sheet), len(dir)); e != api.OK {
		return nil, api.Fault{Code: api.ErrOp, Line: t.Line}
	}
	return l, api.Fault{}
}

func reckonedBlock(sheet []api.Style, dir []api.Named, b api.Block) ([]api.Op, api.Fault) {
	if b.Kind < api.BlockPara || b.Kind > api.BlockEnd {
		return nil, api.Fault{Code: api.ErrOp, Line: b.Line}
	}
	if b.Kind != api.BlockPara {
		o := op([]api.OpKind{0, 0, api.OpList, api.OpItem, api.OpTable, api.OpRow, api.OpEnd}[b.Kind])
		if b.Kind == api.BlockList {
			o.N = b.N
		}
		if b.Kind == api.BlockTable {
			o.Widths = b.Widths
		}
		return []api.Op{o}, api.Fault{}
	}
	n := slices.IndexFunc(sheet, func(s api.Style) bool { return s.Name == b.Style && s.Name != "" })
	if n < 0 && b.Style != "" {
		return nil, api.Fault{Code: api.ErrNoStyle, Line: b.Line, Word: b.Style}
	}
	l := []api.Op{opN(api.OpPara, n)}
	for _, p := range b.Text {
		o, e := reckonedPiece(sheet, dir, p)
		if e != api.OK {
			f := api.Fault{Code: e, Line: p.Line, Col: p.Col, Word: p.Name}
			if e == api.ErrOp {
				f.Word = ""
			}
			return nil, f
		}
		if o.Kind != api.OpText || o.Text != "" {
			l = append(l, o)
		}
	}
	return append(l, op(api.OpDone)), api.Fault{}
}

func reckonedPiece(sheet []api.Style, dir []api.Named, p api.Inline) (api.Op, api.Errno) {
	o := op(api.OpKind(p.Kind)) // their numbers are the same
	switch {
	case p.Kind < api.InText || p.Kind > api.InBreak:
		return o, api.ErrOp
	case p.Kind == api.InText:
		o.Text = p.Text
	case p.Kind == api.InStyle:
		n, ok := style.Find(sheet, p.Name)
		if !ok {
			return o, api.ErrNoStyle
		}
		o.N = n
	case p.Kind == api.InLink, p.Kind == api.InNote:
		norm, e := names.Norm(p.Name)
		o.N = slices.IndexFunc(dir, func(n api.Named) bool { return n.Norm == norm })
		if e != api.OK || o.N < 0 || (dir[o.N].Kind == api.KindNote) != (p.Kind == api.InNote) {
			return o, api.ErrNoTarget
		}
	}
	return o, api.OK
}

// bend throws changes of a topic's blocks and pieces.
func (d *dice) bend(t *api.Topic) {
	t.Blocks = deepBlocks(t.Blocks)
	for range d.throw(3) {
		b := &t.Blocks[d.throw(len(t.Blocks))]
		switch d.throw(7) {
		case 0:
			b.Kind = api.BlockKind(d.throw(8))
		case 1:
			b.Style = d.text("none", "", "B", "dim")
		case 2:
			b.Widths = append(b.Widths, d.number(0, 100, 101))
		case 3:
			b.N = d.number(0, 1, 2, -1)
		default:
			if len(b.Text) > 0 {
				d.bendPiece(b)
			}
		}
	}
}

func (d *dice) bendPiece(b *api.Block) {
	at := d.throw(len(b.Text))
	p := &b.Text[at]
	switch d.throw(6) {
	case 0:
		p.Kind = api.InlineKind(d.throw(9))
	case 1:
		p.Name = d.text("none", "home", "Tip", "b", "")
	case 2:
		p.Text += d.text("\n", "\xff", "more")
	case 3:
		b.Text = slices.Delete(b.Text, at, at+1)
	case 4:
		b.Text = slices.Insert(b.Text, at, in(api.InlineKind(d.throw(9))))
	case 5:
		b.Text = slices.Insert(b.Text, at, inText(d.text("", "other", " ")))
	}
}

func TestLowerIsAsReckoned(t *testing.T) {
	d := dice(4)
	codes := map[api.Errno]int{}
	for range 3000 {
		l, sheet, dir := d.book(t, true)
		for _, s := range l {
			for _, topic := range s.Topics {
				d.bend(&topic)
				want, f := reckonedLower(sheet, dir, topic)
				codes[f.Code]++
				if f.Code != api.OK {
					wantLowerFaultWith(t, sheet, dir, topic, f)
				} else {
					wantLowerWith(t, sheet, dir, topic, want...)
				}
			}
		}
	}
	for _, code := range []api.Errno{api.OK, api.ErrNoStyle, api.ErrNoTarget, api.ErrOp} {
		if codes[code] < 300 {
			t.Errorf("too few of %d: %v", code, codes)
		}
	}
}

// P11.7

// placeless answers blocks without Lines and Cols.
func placeless(l []api.Block) []api.Block {
	l = deepBlocks(l)
	for i := range l {
		l[i].Line = 0
		for n := range l[i].Text {
			l[i].Text[n].Line, l[i].Text[n].Col = 0, 0
		}
	}
	return l
}

func TestRaiseOfLower(t *testing.T) {
	d := dice(5)
	kinds := map[api.OpKind]int{}
	for i := range 2000 {
		others := i%2 == 1
		l, sheet, dir := d.book(t, others)
		for _, s := range l {
			for _, topic := range s.Topics {
				ops, err := ir.Lower(sheet, dir, topic, 0)
				if err != nil {
					t.Fatal(err)
				}
				wantCheck(t, ops, len(sheet), len(dir), 0, api.OK)
				for _, o := range ops {
					kinds[o.Kind]++
				}
				want := placeless(topic.Blocks)
				if others {
					withNames(want, dir)
				}
				got, e := ir.Raise(sheet, namesOf(dir), ops)
				if e != api.OK || !sameBlocks(got, want) {
					t.Fatalf("Raise of Lower: %v, %d, want %v", got, e, want)
				}
			}
		}
	}
	for _, kind := range allKinds() {
		if kinds[kind] < 500 {
			t.Errorf("too few of %d: %v", kind, kinds)
		}
	}
}

// withNames puts the directory's names in the place of others that are one name with them.
func withNames(l []api.Block, dir []api.Named) {
	for _, b := range l {
		for n := range b.Text {
			p := &b.Text[n]
			if p.Kind != api.InLink && p.Kind != api.InNote {
				continue
			}
			norm, _ := names.Norm(p.Name)
			p.Name = dir[slices.IndexFunc(dir, func(n api.Named) bool { return n.Norm == norm })].Name
		}
	}
}

func TestLowerOfRaise(t *testing.T) {
	d := dice(6)
	sheet, dir := sheetOf("b", "i", "warn", "dim", "x"), dirOf("Home", "Help me", "C", "D", "*Tip", "*Big tip")
	taken := 0
	for range 20000 {
		l := d.bent(d.blocks(0))
		if _, e := ir.Check(l, manyStyles, manyTopics); e != api.OK {
			wantNoRaise(t, sheet, namesOf(dir), l)
			continue
		}
		blocks, e := ir.Raise(sheet, namesOf(dir), l)
		if e != api.OK {
			t.Fatalf("Raise of %v: %d", l, e)
		}
		if slices.ContainsFunc(ir.Links(l), func(o api.Op) bool { return (dir[o.N].Kind == api.KindNote) != (o.Kind == api.OpNote) }) {
			continue // bent, so that it is of the other kind
		}
		taken++
		wantLowerWith(t, sheet, dir, api.Topic{Blocks: blocks}, l...)
	}
	if taken < 8000 {
		t.Errorf("too few are taken: %d", taken)
	}
}

// P11.8

func TestNothingOfTheTextIsLost(t *testing.T) {
	d := dice(7)
	for range 1000 {
		l, sheet, dir := d.book(t, true)
		for _, s := range l {
			for _, topic := range s.Topics {
				ops, err := ir.Lower(sheet, dir, topic, 0)
				if err != nil {
					t.Fatal(err)
				}
				want := ""
				for _, b := range topic.Blocks {
					want += src.Plain(slices.DeleteFunc(slices.Clone(b.Text), func(p api.Inline) bool { return p.Kind == api.InTab || p.Kind == api.InBreak }))
				}
				if got := ir.Text(ops); got != want || len(got) != src.Bytes(topic) {
					t.Fatalf("Text of Lower: %q, want %q", got, want)
				}
			}
		}
	}
}

func TestJoinOfSplit(t *testing.T) {
	d := dice(8)
	for range 5000 {
		l := d.blocks(0)
		bare, longs := ir.Split(l)
		if ir.Text(bare) != "" || len(bare) != len(l) {
			t.Fatalf("Split of %v: %v", l, bare)
		}
		wantJoin(t, bare, longs, ir.Text(l), l)
		if len(longs) > 0 {
			wantNoJoin(t, bare, longs[1:], ir.Text(l), api.ErrRange)
			wantNoJoin(t, bare, longs, ir.Text(l)[1:], api.ErrLong)
			wantNoJoin(t, bare, longs, ir.Text(l)+"x", api.ErrLong)
		}
	}
}

// What holds everywhere

// TestAnyOperations hands operations of all sorts to all calls: they end, and Join of Split is what was split, if it can be.
func TestAnyOperations(t *testing.T) {
	d := dice(9)
	for range 20000 {
		l := make([]api.Op, d.throw(9))
		for i := range l {
			l[i] = d.anyOp()
		}
		before := deepOps(l)
		at, e := reckonedCheck(l, 2, 2)
		wantCheck(t, l, 2, 2, at, e)
		if _, raised := ir.Raise(sheetOf("a", "b"), []string{"a", "b"}, l); (raised == api.OK) != (e == api.OK) {
			t.Fatalf("Check of %v: %d, Raise: %d", l, e, raised)
		}
		bare, longs := ir.Split(l)
		if slices.Contains(longs, 0) {
			wantNoJoin(t, bare, longs, ir.Text(l), api.ErrRange)
		} else {
			wantJoin(t, bare, longs, ir.Text(l), l)
		}
		if links := ir.Links(l); len(links) > len(l) || !sameOps(l, before) {
			t.Fatalf("Links of %v: %v", l, links)
		}
	}
}
