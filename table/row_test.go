package table_test

import (
	"slices"
	"strings"
	"testing"

	"folio/api"
	"folio/table"
)

// P12.3

func TestRowOfColumnsThatMayNotBe(t *testing.T) {
	wantRowError(t, nil, nil, api.ErrRange)
	wantRowError(t, []api.Column{}, [][]api.Glyph{}, api.ErrRange)
	nine := columns(0, 1, 1, 1, 2, 1, 3, 1, 4, 1, 5, 1, 6, 1, 7, 1, 8, 1)
	wantRowError(t, nine, make([][]api.Glyph, 9), api.ErrRange)
	wantRow(t, nine[:8], flows("a", "b", "c", "d", "e", "f", "g", "h"), "abcdefgh")
	for _, c := range [][]api.Column{
		columns(-1, 2), columns(0, 0), columns(0, -1), columns(0, 201), columns(-1, 0),
		columns(1, 200), columns(200, 1), columns(199, 2), columns(201, 1), columns(200, 0),
		columns(0, 2, 1, 2), columns(0, 2, 0, 2), columns(3, 2, 0, 2), columns(0, 200, 199, 1), columns(0, 1, 2, 1, 1, 1),
		columns(0, 2, -1, 1), columns(0, 2, 2, 0), columns(0, 2, 2, 199), columns(0, 100, 100, 101), columns(0, 2, 1, 200),
	} {
		wantRowError(t, c, make([][]api.Glyph, len(c)), api.ErrRange)
		wantRowError(t, append(columns(0, 1), c...), make([][]api.Glyph, len(c)+1), api.ErrRange)
	}
	for _, n := range far() {
		for _, c := range [][]api.Column{columns(n, 1), columns(0, n), columns(n, n), columns(0, 1, n, 1), columns(0, 1, 1, n), columns(n, 1, n+1, 1), columns(1, n, n+1, 1)} {
			wantRowError(t, c, make([][]api.Glyph, len(c)), api.ErrRange)
		}
	}
}

func TestRowOfUnlikeManyColumnsAndFlows(t *testing.T) {
	c := columns(0, 2, 3, 2, 6, 2)
	for many := range 9 {
		l := slices.Repeat(flows("a"), many)
		if many != 3 {
			wantRowError(t, c, l, api.ErrRange)
		} else {
			wantRow(t, c, l, "a  a  a")
		}
	}
	wantRowError(t, nil, flows("a"), api.ErrRange)
	wantRowError(t, columns(0, 1), nil, api.ErrRange)
}

func TestRowOfGlyphsThatMayNotBe(t *testing.T) {
	c := columns(0, 2, 3, 2, 6, 2)
	bad := []api.Glyph{glyph("a", 3, 0)}
	for i := range c {
		l := flows("a b c", "d", "")
		l[i] = append(l[i], bad...)
		wantRowError(t, c, l, api.ErrGlyph)
		for other := range c { // two flows that have one
			both := slices.Clone(l)
			both[other] = []api.Glyph{{}}
			wantRowError(t, c, both, api.ErrGlyph)
		}
		// a second reason, that is named first
		wantRowError(t, c[:2], l, api.ErrRange)
		wantRowError(t, columns(0, 2, 3, 2, 4, 2), l, api.ErrRange)
		wantRowError(t, columns(0, 2, 3, 2, 6, 0), l, api.ErrRange)
		wantRowError(t, columns(0, 2, 3, 2, 6, 195), l, api.ErrRange)
	}
	wantRowError(t, columns(0, 1, 0, 1, 0, 1, 0, 1, 0, 1, 0, 1, 0, 1, 0, 1, 0, 1), slices.Repeat([][]api.Glyph{bad}, 9), api.ErrRange)
}

func TestRow(t *testing.T) {
	wantRow(t, columns(0, 5), flows("ab cd e"), "ab cd", "e")
	wantRow(t, columns(0, 5), flows(""))
	wantRow(t, columns(2, 5), flows("ab cd e"), "  ab cd", "  e")
	wantRow(t, columns(199, 1), flows("ab"), strings.Repeat(" ", 199)+"a", strings.Repeat(" ", 199)+"b")
	wantRow(t, columns(0, 200), flows("a b"), "a b")
	wantRow(t, columns(0, 3, 3, 3), flows("abcd", "efgh"), "abcefg", "d  h") // columns that meet
	wantRow(t, columns(0, 3, 4, 3), flows("ab", "cd"), "ab  cd")
	wantRow(t, columns(1, 2, 5, 2, 8, 2), flows("a", "b", "c"), " a   b  c")
	wantRow(t, columns(0, 2, 4, 3), flows("\u4e2d\u4e2d", "\u4e2da"), "\u4e2d  \u4e2da", "\u4e2d")
	wantRow(t, columns(0, 1, 2, 2), flows("\u4e2d", "\u4e2d"), "? \u4e2d") // each by its column's Wide
	wantRow(t, columns(0, 100, 100, 100), flows(strings.Repeat("a", 100), strings.Repeat("b", 100)), strings.Repeat("a", 100)+strings.Repeat("b", 100))
}

func TestRowOfUnlikeManyLines(t *testing.T) {
	c := columns(0, 2, 3, 2, 6, 2)
	wantRow(t, c, flows("", "", ""))
	wantRow(t, c, flows(" ", "  ", " "))
	wantRow(t, c, flows("a", "", ""), "a")
	wantRow(t, c, flows("", "a", ""), "   a")
	wantRow(t, c, flows("", "", "a"), "      a")
	wantRow(t, c, flows("a b c", "d e", "f"), "a  d  f", "b  e", "c")
	wantRow(t, c, flows("a", "b c", "d e f"), "a  b  d", "   c  e", "      f")
	wantRow(t, c, flows("a b c", "", "d e"), "a     d", "b     e", "c")
	wantRow(t, c, flows("a b c", "d", "e f"), "a  d  e", "b     f", "c")
	// a line that is empty is there: blanks lead up to it
	wantRow(t, c, flows("a\n\nb", "\n", ""), "a  ", "", "b")
	wantRow(t, c, flows("", "", "\n\n"), "      ", "      ")
	wantRow(t, c, flows("\n", "\n", "\n"), "      ")
	wantRow(t, c, flows("\n\n", "", "\nx"), "      ", "      x")
	wantRow(t, columns(0, 2), flows("\n"), "")
}

// TestRowLooks: what stands in no column is plain and no link; all else is as it came.
func TestRowLooks(t *testing.T) {
	l := flows("ab", "c d")
	l[1][0].Link, l[1][0].Look = 0, api.Look{}
	lines, e := table.Row(columns(1, 2, 5, 1), l)
	want := [][]api.Glyph{
		slices.Concat(plainBlanks(1), l[0], plainBlanks(2), l[1][:1]),
		slices.Concat(plainBlanks(5), l[1][2:]),
	}
	if e != api.OK || !sameLines(lines, want) {
		t.Errorf("%v, %d, want %v", lines, e, want)
	}
	// behind a line that is not as wide as its column
	l = flows("a", "b")
	lines, e = table.Row(columns(0, 4, 6, 1), l)
	if want := slices.Concat(l[0], plainBlanks(5), l[1]); e != api.OK || len(lines) != 1 || !slices.Equal(lines[0], want) {
		t.Errorf("%v, %d, want %v", lines, e, want)
	}
	// blanks and tabs of a flow keep theirs
	l = flows("a b", "\tc")
	lines, e = table.Row(columns(0, 3, 4, 20), l)
	tab := l[1][0]
	tab.Text = " "
	if want := slices.Concat(l[0], plainBlanks(1), slices.Repeat([]api.Glyph{tab}, 8), l[1][1:]); e != api.OK || len(lines) != 1 || !slices.Equal(lines[0], want) {
		t.Errorf("%v, %d, want %v", lines, e, want)
	}
}

// P2

func TestRowTellsMemoryOfItsOwn(t *testing.T) {
	for _, texts := range [][]string{{"a b c", "d", ""}, {"", "a\n\nb", "c"}, {"\n\n", "\n", "abcdef"}, {"abcdef", "\t", "a b"}} {
		c := append(columns(0, 2, 3, 9, 20, 2), columns(50, 1)...)
		l := append(flows(texts...), flow("behind"))
		for i := range l {
			l[i] = slices.Concat(l[i], flow("behind"))[:len(l[i])]
		}
		keptC, keptL := slices.Clone(c), deep(l)
		first, e := table.Row(c[:3], l[:3])
		second, _ := table.Row(c[:3], l[:3])
		want := deep(second)
		wantOwnMemory(t, first)
		for _, line := range first {
			scribble(line)
		}
		if e != api.OK || !slices.Equal(c, keptC) || !sameLines(l, keptL) || !sameLines(second, want) {
			t.Errorf("Row of %q: what it was given is %v, %q, another answer is %q, want %q", texts, c, shows(l), shows(second), shows(want))
		}
		for i := range l {
			if room := l[i][:len(l[i])+6]; show(room[len(l[i]):]) != "behind" {
				t.Errorf("Row of %q writes behind a flow: %q", texts, show(room))
			}
			scribble(l[i])
		}
		if !sameLines(second, want) {
			t.Errorf("Row of %q keeps what it was given", texts)
		}
	}
}
