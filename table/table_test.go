package table_test

import (
	"math"
	"slices"
	"strings"
	"testing"

	"folio/api"
	"folio/table"
)

// glyph is a text with a look and a link by which it is known again.
func glyph(text string, wide, mark int) api.Glyph {
	return api.Glyph{Text: text, Wide: wide, Look: api.Look{Attr: mark, Color: mark % 5}, Link: mark + 1}
}

// flow is a text's characters, one from U+4E00 on of Wide 2, each with a look and a link of its own.
func flow(s string) []api.Glyph {
	var l []api.Glyph
	for _, r := range s {
		wide := 1
		if r >= 0x4e00 {
			wide = 2
		}
		l = append(l, glyph(string(r), wide, len(l)))
	}
	return l
}

// plainBlanks are blanks that nobody handed in.
func plainBlanks(n int) []api.Glyph {
	return slices.Repeat([]api.Glyph{{Text: " ", Wide: 1, Look: api.Look{Color: 7}}}, n)
}

func isSign(g api.Glyph) bool { return g.Text != " " && g.Text != "\t" && g.Text != "\n" }

func show(line []api.Glyph) string {
	var b strings.Builder
	for _, g := range line {
		b.WriteString(g.Text)
	}
	return b.String()
}

func shows(lines [][]api.Glyph) []string {
	var l []string
	for _, line := range lines {
		l = append(l, show(line))
	}
	return l
}

func sameLines(a, b [][]api.Glyph) bool { return slices.EqualFunc(a, b, slices.Equal) }

func deep(lines [][]api.Glyph) [][]api.Glyph {
	var l [][]api.Glyph
	for _, line := range lines {
		l = append(l, slices.Clone(line))
	}
	return l
}

// wantFill asks for the Texts of lines, and that each sign is the flow's with its look and link.
func wantFill(t *testing.T, l []api.Glyph, wide int, want ...string) {
	t.Helper()
	lines, e := table.Fill(l, wide)
	if e != api.OK || !slices.Equal(shows(lines), want) {
		t.Errorf("Fill of %q at %d: %q, %d, want %q", show(l), wide, shows(lines), e, want)
	}
	wantSigns(t, l, wide, lines)
}

func wantExactly(t *testing.T, l []api.Glyph, wide int, want ...[]api.Glyph) {
	t.Helper()
	if lines, e := table.Fill(l, wide); e != api.OK || !sameLines(lines, want) {
		t.Errorf("Fill of %v at %d: %v, %d, want %v", l, wide, lines, e, want)
	}
}

func wantFillError(t *testing.T, l []api.Glyph, wide int, want api.Errno) {
	t.Helper()
	if lines, e := table.Fill(l, wide); e != want || len(lines) != 0 {
		t.Errorf("Fill of %v at %d: %d lines, %d, want %d", l[:min(len(l), 20)], wide, len(lines), e, want)
	}
}

// wantSigns asks that lines have just the flow's signs (P12.5).
func wantSigns(t *testing.T, l []api.Glyph, wide int, lines [][]api.Glyph) {
	t.Helper()
	var want, got []api.Glyph
	for _, g := range l {
		if isSign(g) {
			if wide == 1 && g.Wide == 2 {
				g.Text, g.Wide = "?", 1
			}
			want = append(want, g)
		}
	}
	for _, line := range lines {
		for _, g := range line {
			if isSign(g) {
				got = append(got, g)
			}
		}
	}
	if !slices.Equal(got, want) {
		t.Errorf("Fill of %q at %d: the signs are %v, want %v", show(l), wide, got, want)
	}
}

func wantColumns(t *testing.T, widths []int, wide int, want ...api.Column) {
	t.Helper()
	if got, e := table.Columns(widths, wide); e != api.OK || !slices.Equal(got, want) {
		t.Errorf("Columns of %v at %d: %v, %d, want %v", widths, wide, got, e, want)
	}
}

// wantShares asks for columns' Wides, a gap between them.
func wantShares(t *testing.T, widths []int, wide, gap int, shares ...int) {
	t.Helper()
	var want []api.Column
	at := 0
	for _, w := range shares {
		want = append(want, api.Column{At: at, Wide: w})
		at += w + gap
	}
	wantColumns(t, widths, wide, want...)
}

func wantColumnsError(t *testing.T, widths []int, wide int) {
	t.Helper()
	if got, e := table.Columns(widths, wide); e != api.ErrRange || len(got) != 0 {
		t.Errorf("Columns of %v at %d: %v, %d, want %d", widths[:min(len(widths), 20)], wide, got, e, api.ErrRange)
	}
}

// columns answers columns: At, Wide, At, Wide, ..
func columns(l ...int) []api.Column {
	var c []api.Column
	for ; len(l) > 1; l = l[2:] {
		c = append(c, api.Column{At: l[0], Wide: l[1]})
	}
	return c
}

func flows(texts ...string) [][]api.Glyph {
	var l [][]api.Glyph
	for _, s := range texts {
		l = append(l, flow(s))
	}
	return l
}

func wantRow(t *testing.T, c []api.Column, l [][]api.Glyph, want ...string) {
	t.Helper()
	if lines, e := table.Row(c, l); e != api.OK || !slices.Equal(shows(lines), want) {
		t.Errorf("Row of %v and %q: %q, %d, want %q", c, shows(l), shows(lines), e, want)
	}
}

func wantRowError(t *testing.T, c []api.Column, l [][]api.Glyph, want api.Errno) {
	t.Helper()
	if lines, e := table.Row(c, l); e != want || len(lines) != 0 {
		t.Errorf("Row of %v and %q: %d lines, %d, want %d", c, shows(l), len(lines), e, want)
	}
}

// far are numbers that are far from all that may be.
func far() []int {
	return []int{math.MinInt, math.MinInt + 1, -1000, 1000, math.MaxInt - 1, math.MaxInt}
}

// The chapter's examples.

func TestExamples(t *testing.T) {
	wantFill(t, flow("ab cd e"), 5, "ab cd", "e")
	wantFill(t, flow("ab cd e"), 1, "a", "b", "c", "d", "e")
	wantFill(t, flow("abc"), 2, "ab", "c")
	wantFill(t, flow("a\tb"), 10, "a       b")
	wantFill(t, flow("a\tb"), 8, "a", "b")
	wantFill(t, flow("\n"), 8, "")
	wantFill(t, flow("   "), 8)
	wantColumns(t, []int{0, 0}, 10, columns(0, 5, 6, 4)...)
	wantColumns(t, []int{3, 0, 4}, 20, columns(0, 3, 4, 11, 16, 4)...)
	wantColumns(t, []int{8, 8}, 10, columns(0, 5, 6, 4)...)
	wantColumns(t, make([]int, 8), 10, columns(0, 2, 2, 2, 4, 1, 5, 1, 6, 1, 7, 1, 8, 1, 9, 1)...)
	wantRow(t, columns(0, 2, 3, 2), flows("a b", "c"), "a  c", "b")
}

// Wide

func TestWide(t *testing.T) {
	for _, c := range []struct {
		line []api.Glyph
		want int
	}{
		{nil, 0}, {[]api.Glyph{}, 0}, {flow("a"), 1}, {flow("\u4e2d"), 2}, {flow("a\u4e2d b"), 5}, {plainBlanks(200), 200},
		{[]api.Glyph{glyph("a", 3, 0), glyph("", -1, 0), {}}, 2},
		{[]api.Glyph{glyph("a", math.MaxInt, 0), glyph("b", math.MinInt, 0)}, -1},
	} {
		if got := table.Wide(c.line); got != c.want {
			t.Errorf("Wide of %v: %d, want %d", c.line[:min(len(c.line), 20)], got, c.want)
		}
	}
}
