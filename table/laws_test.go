package table_test

import (
	"math"
	"slices"
	"strings"
	"testing"

	"folio/api"
	"folio/table"
)

// dice throws numbers that are the same each time.
type dice uint64

func (d *dice) throw(n int) int {
	*d = *d*6364136223846793005 + 1442695040888963407
	return int(*d>>33) % n
}

func (d *dice) one(l ...int) int { return l[d.throw(len(l))] }

// glyphs throws so many glyphs that may be: signs of any Text and both Wides, and what is no sign, of any Wide.
func (d *dice) glyphs(n int) []api.Glyph {
	var l []api.Glyph
	signs, often := []string{"a", "b", "\u4e2d", "  ", "\t\t", "\n\n", "\x00", "\xff", "ab cd", "?"}, 1+d.throw(9)
	for len(l) < n {
		g := glyph([]string{" ", " ", "\t", "\n"}[d.throw(4)], d.one(append(far(), -1, 0, 1, 2)...), len(l))
		if d.throw(10) < often {
			g = glyph(signs[d.throw(len(signs))], 1+d.throw(2), len(l))
		}
		l = append(l, g)
	}
	return l
}

// words throws words and blanks, no word wider than a line.
func (d *dice) words(n, wide int) []api.Glyph {
	var b strings.Builder
	for range n {
		room := 1 + d.throw(wide)
		for room > 0 {
			if room > 1 && d.throw(3) == 0 {
				b.WriteString("\u4e2d")
				room--
			} else {
				b.WriteString("x")
			}
			room--
		}
		b.WriteString(strings.Repeat(" ", 1+d.throw(3)))
	}
	return flow(strings.Repeat(" ", d.throw(2)) + b.String())
}

func (d *dice) width() int {
	return d.one(1, 2, 3, 4, 5, 6, 7, 8, 9, 10, 15, 16, 17, 24, 25, 40, api.MaxWidth)
}

// widths throws widths that may be.
func (d *dice) widths() []int {
	l := make([]int, 1+d.throw(api.MaxColumns))
	most := d.one(1, 2, 4, 8, 20, 60, api.MaxWidth)
	for i := range l {
		if d.throw(3) > 0 {
			l[i] = d.throw(most + 1)
		}
	}
	return l
}

// columns throws columns that may be.
func (d *dice) columns() []api.Column {
	n := 1 + d.throw(api.MaxColumns)
	var edges []int
	for len(edges) < 2*n {
		edges = append(edges, d.throw(api.MaxWidth+1))
	}
	if d.throw(2) == 0 { // narrow ones
		for i := range edges {
			edges[i] %= 40
		}
	}
	slices.Sort(edges)
	var c []api.Column
	for ; len(edges) > 1; edges = edges[2:] {
		if edges[0] < edges[1] {
			c = append(c, api.Column{At: edges[0], Wide: edges[1] - edges[0]})
		}
	}
	if len(c) == 0 {
		return columns(0, 1)
	}
	return c
}

// A second reckoning of Fill: each line from where it begins in the flow.

// onOneLine is what glyphs come to on a line that is wide enough: of blanks the first, where something is ahead on the line, and a
// sign behind.
func onOneLine(l []api.Glyph) []api.Glyph {
	var line []api.Glyph
	for i, g := range l {
		switch g.Text {
		case "\t":
			g.Text, g.Wide = " ", 1
			line = append(line, g)
			for table.Wide(line)%8 > 0 {
				line = append(line, g)
			}
		case " ":
			behind := slices.IndexFunc(l[i:], func(g api.Glyph) bool { return g.Text != " " })
			if len(line) > 0 && l[i-1].Text != " " && behind > 0 && isSign(l[i+behind]) {
				g.Wide = 1
				line = append(line, g)
			}
		default:
			line = append(line, g)
		}
	}
	return line
}

// reckonedLine answers the line that a flow begins with, and how much of the flow it takes; told: whether it is told.
func reckonedLine(l []api.Glyph, wide int) (line []api.Glyph, taken int, told bool) {
	for end := 0; end < len(l); {
		so := onOneLine(l[:end])
		switch l[end].Text {
		case "\n":
			return so, end + 1, true
		case "\t":
			if table.Wide(onOneLine(l[:end+1])) >= wide {
				return so, end + 1, true
			}
			end++
		case " ":
			end++
		default:
			word := slices.IndexFunc(append(slices.Clone(l[end:]), api.Glyph{Text: "\n"}), func(g api.Glyph) bool { return !isSign(g) })
			if table.Wide(onOneLine(l[:end+word])) > wide {
				if len(so) > 0 {
					return so, end, true
				}
				for table.Wide(l[end:end+word]) > wide {
					word--
				}
				return l[end : end+word], end + word, true
			}
			end += word
		}
	}
	line = onOneLine(l)
	return line, len(l), len(line) > 0
}

func reckonedFill(l []api.Glyph, wide int) [][]api.Glyph {
	l = slices.Clone(l)
	for i, g := range l {
		if isSign(g) && g.Wide > wide {
			l[i].Text, l[i].Wide = "?", 1
		}
	}
	var lines [][]api.Glyph
	for len(l) > 0 {
		line, taken, told := reckonedLine(l, wide)
		if told {
			lines = append(lines, line)
		}
		l = l[taken:]
	}
	return lines
}

// wantFillAsReckoned asks for P12.1, P12.4 and P12.5 of a flow.
func wantFillAsReckoned(t *testing.T, l []api.Glyph, wide int) [][]api.Glyph {
	t.Helper()
	lines, e := table.Fill(l, wide)
	if want := reckonedFill(l, wide); e != api.OK || !sameLines(lines, want) {
		t.Fatalf("Fill of %q at %d: %q, %d, want %q", show(l), wide, shows(lines), e, shows(want))
	}
	wantSigns(t, l, wide, lines)
	for _, line := range lines {
		if table.Wide(line) > wide {
			t.Errorf("Fill of %q at %d: the line %q is too wide", show(l), wide, show(line))
		}
		for _, g := range line {
			if !isSign(g) && (g.Text != " " || g.Wide != 1) {
				t.Errorf("Fill of %q at %d: the line %q has %v", show(l), wide, show(line), g)
			}
		}
		if end := len(line) - 1; end >= 0 && line[end].Text == " " && !madeByTab(l, line[end]) {
			t.Errorf("Fill of %q at %d: the line %q ends with a blank that no tab made", show(l), wide, show(line))
		}
	}
	return lines
}

// madeByTab answers whether a blank has the look and the link of a tab: each glyph has its own.
func madeByTab(l []api.Glyph, blank api.Glyph) bool {
	at := blank.Link - 1
	return l[at].Text == "\t" && l[at].Look == blank.Look
}

// eachFlow hands over all flows of up to so many of these characters.
func eachFlow(chars []string, most int, try func(l []api.Glyph)) {
	var grow func(s string, n int)
	grow = func(s string, n int) {
		try(flow(s))
		if n < most {
			for _, c := range chars {
				grow(s+c, n+1)
			}
		}
	}
	grow("", 0)
}

// P12.1, P12.4, P12.5

func TestShortFlowsAreAsReckoned(t *testing.T) {
	eachFlow([]string{"a", "\u4e2d", " ", "\t", "\n"}, 5, func(l []api.Glyph) {
		for _, wide := range []int{1, 2, 3, 4, 8, 9, 10, 16, 17, 18} {
			wantFillAsReckoned(t, l, wide)
		}
	})
}

func TestFlowsAreAsReckoned(t *testing.T) {
	d := dice(1)
	for range 5000 {
		wantFillAsReckoned(t, d.glyphs(d.throw(60)), d.width())
	}
	for range 1000 {
		wide := d.width()
		wantFillAsReckoned(t, d.words(1+d.throw(12), wide), wide)
	}
}

// P12.6

// fewest is the least number of lines into which words of these Wides can be parted, by trying all ways.
func fewest(words []int, wide int) int {
	if len(words) == 0 {
		return 0
	}
	least, line := math.MaxInt, -1
	for n, w := range words {
		line += 1 + w
		if line > wide {
			break
		}
		least = min(least, 1+fewest(words[n+1:], wide))
	}
	return least
}

// wordsOf are the Wides of a line's words.
func wordsOf(line []api.Glyph) []int {
	var l []int
	for i, g := range line {
		if !isSign(g) {
			continue
		}
		if i == 0 || !isSign(line[i-1]) {
			l = append(l, 0)
		}
		l[len(l)-1] += g.Wide
	}
	return l
}

func TestGreedyIsBest(t *testing.T) {
	d := dice(2)
	for range 3000 {
		wide := 2 + d.throw(12)
		l := d.words(1+d.throw(10), wide)
		lines := wantFillAsReckoned(t, l, wide)
		if want := fewest(wordsOf(l), wide); len(lines) != want {
			t.Errorf("Fill of %q at %d: %d lines, but %d would do", show(l), wide, len(lines), want)
		}
		var got []int
		for i, line := range lines {
			got = append(got, wordsOf(line)...)
			if i+1 < len(lines) && table.Wide(line)+1+wordsOf(lines[i+1])[0] <= wide {
				t.Errorf("Fill of %q at %d: line %d could take the next word", show(l), wide, i)
			}
			if want := len(wordsOf(line)) - 1; strings.Count(show(line), " ") != want {
				t.Errorf("Fill of %q at %d: the line %q has not %d blanks", show(l), wide, show(line), want)
			}
		}
		if !slices.Equal(got, wordsOf(l)) {
			t.Errorf("Fill of %q at %d: %q: not the same words", show(l), wide, shows(lines))
		}
	}
}

// P12.2, P12.7

func sum(l []int) int {
	s := 0
	for _, n := range l {
		s += n
	}
	return s
}

// reckonedShares is who gets how much of what there is to share: free ones cell by cell in turn; where all is too wide, what is below
// some height, and one cell more for the first ones that reach above it.
func reckonedShares(widths []int, room int) []int {
	var least, free, l []int
	for i, w := range widths {
		least = append(least, max(w, 1))
		if w == 0 {
			free = append(free, i)
		}
	}
	if left := room - sum(least); left >= 0 {
		for i := range left {
			if len(free) > 0 {
				least[free[i%len(free)]]++
			}
		}
		return least
	}
	below := func(height int) []int {
		var l []int
		for _, w := range least {
			l = append(l, min(w, height))
		}
		return l
	}
	height := 0
	for sum(below(height+1)) <= room {
		height++
	}
	l = below(height)
	left := room - sum(l)
	for i, w := range least {
		if w > height && left > 0 {
			l[i]++
			left--
		}
	}
	return l
}

func wantColumnsAsReckoned(t *testing.T, widths []int, wide int) {
	t.Helper()
	gap := 0
	if wide >= 2*len(widths)-1 {
		gap = 1
	}
	wantShares(t, widths, wide, gap, reckonedShares(widths, wide-gap*(len(widths)-1))...)
	c, _ := table.Columns(widths, wide)
	end := 0
	for i, one := range c {
		if one.Wide < 1 || one.At < end || i == 0 && one.At != 0 || i > 0 && one.At != end+gap {
			t.Errorf("Columns of %v at %d: %v", widths, wide, c)
		}
		end = one.At + one.Wide
	}
	if end > wide || slices.Contains(widths, 0) && end != wide {
		t.Errorf("Columns of %v at %d: %v end at %d", widths, wide, c, end)
	}
	if lines, e := table.Row(c, make([][]api.Glyph, len(c))); e != api.OK || len(lines) != 0 { // they may be a row's
		t.Errorf("Row of %v: %d", c, e)
	}
}

func TestFewColumnsAreAsReckoned(t *testing.T) {
	var grow func(widths []int)
	grow = func(widths []int) {
		if len(widths) > 0 {
			for _, wide := range []int{10, 11, 12, 13, 20, 200} {
				wantColumnsAsReckoned(t, widths, wide)
			}
		}
		if len(widths) < 4 {
			for _, w := range []int{0, 1, 2, 3, 4, 7, 10, 200} {
				grow(append(slices.Clone(widths), w))
			}
		}
	}
	grow(nil)
}

func TestColumnsAreAsReckoned(t *testing.T) {
	d := dice(3)
	for range 5000 {
		wantColumnsAsReckoned(t, d.widths(), d.one(10, 11, 12, 13, 14, 15, 16, 20, 40, 80, 199, 200))
	}
}

// P12.3, P12.8

// reckonedRow puts the lines of all columns on sheets of cells, one a line.
func reckonedRow(c []api.Column, l [][]api.Glyph) [][]api.Glyph {
	var row [][]api.Glyph
	for i := 0; ; i++ {
		var cells [api.MaxWidth][]api.Glyph // what begins in a cell
		end, any := 0, false
		for n := range c {
			lines := reckonedFill(l[n], c[n].Wide)
			if i >= len(lines) {
				continue
			}
			at := c[n].At
			for _, g := range lines[i] {
				cells[at] = append(cells[at], g)
				at += g.Wide
			}
			end, any = at, true
		}
		if !any {
			return row
		}
		var line []api.Glyph
		for at := 0; at < end; {
			here := cells[at]
			if len(here) == 0 {
				here = plainBlanks(1)
			}
			line = append(line, here...)
			at += table.Wide(here)
		}
		row = append(row, line)
	}
}

func TestRowsAreAsReckoned(t *testing.T) {
	d := dice(4)
	for range 2000 {
		c := d.columns()
		l := make([][]api.Glyph, len(c))
		for i := range l {
			l[i] = d.glyphs(d.throw(12))
		}
		lines, e := table.Row(c, l)
		if want := reckonedRow(c, l); e != api.OK || !sameLines(lines, want) {
			t.Fatalf("Row of %v and %q: %q, %d, want %q", c, shows(l), shows(lines), e, shows(want))
		}
		for n := range c {
			wantCells(t, c, l, n, lines)
		}
	}
}

// wantCells asks that what stands in a column's cells is its lines and blanks.
func wantCells(t *testing.T, c []api.Column, l [][]api.Glyph, n int, row [][]api.Glyph) {
	t.Helper()
	lines, _ := table.Fill(l[n], c[n].Wide)
	for i, line := range row {
		var got, want []api.Glyph
		at := 0
		for _, g := range line {
			if at >= c[n].At && at < c[n].At+c[n].Wide {
				got = append(got, g)
			}
			at += g.Wide
		}
		if i < len(lines) {
			want = lines[i]
		}
		want = append(slices.Clone(want), plainBlanks(max(0, table.Wide(got)-table.Wide(want)))...)
		if !slices.Equal(got, want) || table.Wide(got) > c[n].Wide {
			t.Errorf("Row of %v and %q: column %d has %q in line %d, want %q", c, shows(l), n, show(got), i, show(want))
		}
	}
}

func TestRowOfOneColumnIsFill(t *testing.T) {
	d := dice(5)
	for range 2000 {
		l, wide := d.glyphs(d.throw(40)), d.width()
		want, _ := table.Fill(l, wide)
		if got, e := table.Row(columns(0, wide), [][]api.Glyph{l}); e != api.OK || !sameLines(got, want) {
			t.Errorf("Row of one column of %q at %d: %q, %d, want %q", show(l), wide, shows(got), e, shows(want))
		}
	}
}

// P1: any arguments.

func TestAnyArguments(t *testing.T) {
	d := dice(6)
	numbers := append(far(), -2, -1, 0, 1, 2, 3, 8, 10, 199, 200, 201)
	for range 3000 {
		l := d.glyphs(d.throw(10))
		good := true
		for i := range l {
			if d.throw(8) == 0 {
				l[i] = glyph([]string{"", "a", "\t "}[d.throw(3)], d.one(numbers...), i)
			}
			good = good && (!isSign(l[i]) || l[i].Text != "" && (l[i].Wide == 1 || l[i].Wide == 2))
		}
		wide := d.one(numbers...)
		switch {
		case wide < 1 || wide > 200:
			wantFillError(t, l, wide, api.ErrRange)
		case !good:
			wantFillError(t, l, wide, api.ErrGlyph)
		default:
			wantFillAsReckoned(t, l, wide)
		}
	}
}

func TestAnyWidthsAndColumns(t *testing.T) {
	d := dice(7)
	numbers := append(far(), -2, -1, 0, 1, 2, 3, 8, 10, 199, 200, 201)
	for range 5000 {
		widths := make([]int, d.throw(11))
		good := len(widths) > 0 && len(widths) <= 8
		for i := range widths {
			widths[i] = d.one(0, 1, 5, 200)
			if d.throw(10) == 0 {
				widths[i] = d.one(numbers...)
			}
			good = good && widths[i] >= 0 && widths[i] <= 200
		}
		if wide := d.one(numbers...); good && wide >= 10 && wide <= 200 {
			wantColumnsAsReckoned(t, widths, wide)
		} else {
			wantColumnsError(t, widths, wide)
		}
		c := d.columns()
		good, end := true, 0
		for i := range c {
			if d.throw(10) == 0 {
				c[i] = api.Column{At: d.one(numbers...), Wide: d.one(numbers...)}
			}
			good = good && c[i].At >= end && c[i].Wide >= 1 && c[i].Wide <= 200 && c[i].At <= 200-c[i].Wide
			end = c[i].At + c[i].Wide
		}
		if l := make([][]api.Glyph, len(c)); good {
			wantRow(t, c, l)
		} else {
			wantRowError(t, c, l, api.ErrRange)
		}
	}
}
