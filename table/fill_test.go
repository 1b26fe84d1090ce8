package table_test

import (
	"math"
	"slices"
	"strings"
	"testing"

	"folio/api"
	"folio/table"
)

// P12.1

func TestFillOfNothing(t *testing.T) {
	for _, wide := range []int{1, 2, 80, api.MaxWidth} {
		wantFill(t, nil, wide)
		wantFill(t, []api.Glyph{}, wide)
		wantFill(t, flow("ab")[:0], wide)
	}
}

func TestFillOfWidthsThatMayNotBe(t *testing.T) {
	for _, wide := range append(far(), 0, -1, api.MaxWidth+1) {
		wantFillError(t, nil, wide, api.ErrRange)
		wantFillError(t, flow("a b"), wide, api.ErrRange)
		wantFillError(t, []api.Glyph{glyph("", 1, 0), glyph("a", 0, 0)}, wide, api.ErrRange) // ahead of ErrGlyph
	}
}

func TestFillOfGlyphsThatMayNotBe(t *testing.T) {
	bad := []api.Glyph{{}, glyph("", 1, 0), glyph("", 2, 0), glyph("", 0, 0)}
	for _, w := range append(far(), -2, -1, 0, 3, 4, 1<<32+1, 1<<62) {
		bad = append(bad, glyph("a", w, 0), glyph("\u4e2d", w, 1), glyph("  ", w, 2), glyph("\x00", w, 3), glyph("?", w, 4))
	}
	for _, g := range bad {
		for _, ahead := range []string{"", "a", " ", "\t", "\n", "ab cd\n\n"} {
			for _, behind := range []string{"", "a", " ", "\t", "\n", " x\ny"} {
				l := slices.Concat(flow(ahead), []api.Glyph{g}, flow(behind))
				for _, wide := range []int{1, 2, 10, api.MaxWidth} {
					wantFillError(t, l, wide, api.ErrGlyph)
				}
			}
		}
		wantFillError(t, []api.Glyph{g, g}, 10, api.ErrGlyph)
	}
}

func TestFillOfOneSign(t *testing.T) {
	for _, wide := range []int{1, 2, 7, 8, 9, api.MaxWidth} {
		wantExactly(t, flow("a"), wide, flow("a"))
	}
	for _, wide := range []int{2, 3, api.MaxWidth} {
		wantExactly(t, flow("\u4e2d"), wide, flow("\u4e2d"))
	}
	// any other Text is a sign like these
	for _, s := range []string{"  ", "\t\t", "\n\n", " \t", "\r", "\v", "\x00", "\xff", "\u00a0", "\u3000", "ab cd", "e\u0301", "?"} {
		for _, wide := range []int{2, 3, 10} {
			for _, w := range []int{1, 2} {
				g := glyph(s, w, 9)
				wantExactly(t, []api.Glyph{g}, wide, []api.Glyph{g})
				wantExactly(t, []api.Glyph{g, g, g}, w, []api.Glyph{g}, []api.Glyph{g}, []api.Glyph{g})
			}
		}
	}
}

func TestFillOfWords(t *testing.T) {
	wantFill(t, flow("abcd"), 4, "abcd")
	wantFill(t, flow("abcd"), 3, "abc", "d")
	wantFill(t, flow("abcd"), 2, "ab", "cd")
	wantFill(t, flow("abcd"), 1, "a", "b", "c", "d")
	wantFill(t, flow("ab cd"), 5, "ab cd")
	wantFill(t, flow("ab cd"), 4, "ab", "cd")
	wantFill(t, flow("ab cd"), 3, "ab", "cd")
	wantFill(t, flow("a bcdef g"), 4, "a", "bcde", "f g") // what is left of a word has others beside it
	wantFill(t, flow("a bcdef gh"), 3, "a", "bcd", "ef", "gh")
	wantFill(t, flow("abcdefg h"), 3, "abc", "def", "g h")
	wantFill(t, flow("abcdef g"), 3, "abc", "def", "g")
	wantFill(t, flow("a b c d e f"), 5, "a b c", "d e f")
	wantFill(t, flow("a b c d e f"), 6, "a b c", "d e f")
	wantFill(t, flow("a b c d e f"), 7, "a b c d", "e f")
}

func TestFillOfWideSigns(t *testing.T) {
	wantFill(t, flow("\u4e2d\u4e2d"), 4, "\u4e2d\u4e2d")
	wantFill(t, flow("\u4e2d\u4e2d"), 3, "\u4e2d", "\u4e2d")
	wantFill(t, flow("a\u4e2d\u4e2db"), 4, "a\u4e2d", "\u4e2db") // one cell stays empty
	wantFill(t, flow("\u4e2da\u4e2d"), 2, "\u4e2d", "a", "\u4e2d")
	wantFill(t, flow("a \u4e2d"), 4, "a \u4e2d")
	wantFill(t, flow("a \u4e2d"), 3, "a", "\u4e2d")
	wantFill(t, flow("\u4e2d\u4e2d a"), 6, "\u4e2d\u4e2d a")
	wantFill(t, flow("\u4e2d\u4e2d a"), 5, "\u4e2d\u4e2d", "a")
}

func TestFillOfSignsWiderThanALine(t *testing.T) {
	wantFill(t, flow("\u4e2d"), 1, "?")
	wantFill(t, flow("a\u4e2db"), 1, "a", "?", "b")
	wantFill(t, flow("\u4e2d \u4e2d\n\u4e2d\u4e2d"), 1, "?", "?", "?", "?")
	wantFill(t, flow("\n\u4e2d"), 1, "", "?")
	wantFill(t, flow("?\u4e2d"), 2, "?", "\u4e2d")
	wide := api.Glyph{Text: "\u4e2d", Wide: 2, Look: api.Look{Attr: 5, Color: 3}, Link: 8}
	wantExactly(t, []api.Glyph{wide}, 1, []api.Glyph{{Text: "?", Wide: 1, Look: api.Look{Attr: 5, Color: 3}, Link: 8}})
	// it counts as one cell in the word's Wide, so the word fits and no empty line is told
	wantExactly(t, []api.Glyph{glyph("\n", 1, 0), wide, glyph("\n", 1, 0)}, 1, nil, []api.Glyph{{Text: "?", Wide: 1, Look: api.Look{Attr: 5, Color: 3}, Link: 8}})
}

func TestFillOfBlanks(t *testing.T) {
	for _, wide := range []int{1, 2, 3, 8, 9, api.MaxWidth} {
		for n := range 20 {
			wantFill(t, flow(strings.Repeat(" ", n)), wide)
			wantFill(t, flow(strings.Repeat(" ", n)+"a"), wide, "a")
			wantFill(t, flow("a"+strings.Repeat(" ", n)), wide, "a")
		}
	}
	for n := 1; n < 20; n++ {
		between := "a" + strings.Repeat(" ", n) + "b"
		wantFill(t, flow(between), 3, "a b")
		wantFill(t, flow(between), 2, "a", "b")
		wantFill(t, flow(between), 1, "a", "b")
	}
	wantFill(t, flow("abc "), 3, "abc")
	wantFill(t, flow("abc  d"), 3, "abc", "d")
	wantFill(t, flow("ab c"), 3, "ab", "c")
}

// TestFillOfBlanksOfTheirOwn: of several blanks the first one stands on the line.
func TestFillOfBlanksOfTheirOwn(t *testing.T) {
	a, b := glyph("a", 1, 10), glyph("b", 1, 11)
	first, second := glyph(" ", 1, 12), glyph(" ", 1, 13)
	wantExactly(t, []api.Glyph{a, first, b}, 3, []api.Glyph{a, first, b})
	wantExactly(t, []api.Glyph{a, first, second, b}, 3, []api.Glyph{a, first, b})
	wantExactly(t, []api.Glyph{a, first, second, b}, 2, []api.Glyph{a}, []api.Glyph{b})
	wantExactly(t, []api.Glyph{first, a, second, b}, 3, []api.Glyph{a, second, b})
	wantExactly(t, []api.Glyph{a, first, glyph("\n", 1, 14), b, second, a}, 3, []api.Glyph{a}, []api.Glyph{b, second, a})
	wantExactly(t, []api.Glyph{a, first, b, second, a}, 3, []api.Glyph{a, first, b}, []api.Glyph{a})
}

func TestFillOfTabs(t *testing.T) {
	eight := strings.Repeat(" ", 8)
	for wide := 1; wide <= 8; wide++ { // no stop is on the line
		wantFill(t, flow("\t"), wide, "")
		wantFill(t, flow("\t\t\t"), wide, "", "", "")
		wantFill(t, flow("a\t"), wide, "a")
		wantFill(t, flow("a\t\tb"), wide, "a", "", "b")
		wantFill(t, flow("\ta"), wide, "", "a")
	}
	for wide := 9; wide <= 16; wide++ { // one is
		wantFill(t, flow("\t"), wide, eight)
		wantFill(t, flow("\t\t"), wide, eight)
		wantFill(t, flow("\t\t\t"), wide, eight, eight)
		wantFill(t, flow("abcdefgh\tb"), wide, "abcdefgh", "b")
	}
	for wide := 17; wide <= 24; wide++ {
		wantFill(t, flow("\t\t"), wide, eight+eight)
		wantFill(t, flow("\t\t\t"), wide, eight+eight)
		wantFill(t, flow("\t\t\ta"), wide, eight+eight, "a")
		wantFill(t, flow("abcdefgh\tb"), wide, "abcdefgh"+eight+"b")
	}
	wantFill(t, flow("abcdefg\tb"), 9, "abcdefg b")
	wantFill(t, flow("abcdefg\tbc"), 9, "abcdefg ", "bc") // a blank that a tab made may end a line
	wantFill(t, flow("\tbc"), 9, eight, "bc")
	wantFill(t, flow("\tbcdefghijkl"), 9, eight, "bcdefghij", "kl")
	wantFill(t, flow("\u4e2d\u4e2d\u4e2d\u4e2d\tb"), 20, "\u4e2d\u4e2d\u4e2d\u4e2d"+eight+"b")
	wantFill(t, flow("\u4e2d\u4e2d\u4e2da\tb"), 20, "\u4e2d\u4e2d\u4e2da b")
	wantFill(t, flow(strings.Repeat("\t", 30)), api.MaxWidth, strings.Repeat(eight, 24), strings.Repeat(eight, 5)) // 200 is a stop, but not below 200
}

func TestFillOfTabsOfTheirOwn(t *testing.T) {
	a, b, tab := glyph("a", 1, 10), glyph("b", 1, 11), glyph("\t", 1, 12)
	seven := slices.Repeat([]api.Glyph{glyph(" ", 1, 12)}, 7)
	wantExactly(t, []api.Glyph{a, tab, b}, 20, slices.Concat([]api.Glyph{a}, seven, []api.Glyph{b}))
	wantExactly(t, []api.Glyph{a, tab, b}, 8, []api.Glyph{a}, []api.Glyph{b})
	two := slices.Repeat([]api.Glyph{glyph(" ", 1, 13)}, 8)
	wantExactly(t, []api.Glyph{a, tab, glyph("\t", 1, 13), b}, 20, slices.Concat([]api.Glyph{a}, seven, two, []api.Glyph{b}))
	// what waits is dropped: no blank of it comes to stand ahead of the tab's
	wantExactly(t, []api.Glyph{a, glyph(" ", 1, 14), tab, b}, 20, slices.Concat([]api.Glyph{a}, seven, []api.Glyph{b}))
	// and one behind it waits as elsewhere
	wantExactly(t, []api.Glyph{a, tab, glyph(" ", 1, 14), b}, 20, slices.Concat([]api.Glyph{a}, seven, []api.Glyph{glyph(" ", 1, 14), b}))
	wantExactly(t, []api.Glyph{a, tab, glyph(" ", 1, 14)}, 20, slices.Concat([]api.Glyph{a}, seven))
}

func TestFillOfBreaks(t *testing.T) {
	for _, wide := range []int{1, 2, 8, 9, api.MaxWidth} {
		for n := range 20 {
			wantFill(t, flow(strings.Repeat("\n", n)), wide, make([]string, n)...)
		}
		wantFill(t, flow("a\n"), wide, "a")
		wantFill(t, flow("\na"), wide, "", "a")
		wantFill(t, flow("a\nb"), wide, "a", "b")
		wantFill(t, flow("a\n\nb\n\n"), wide, "a", "", "b", "")
	}
	wantFill(t, flow("abc\nd"), 3, "abc", "d")
	wantFill(t, flow("abcd\ne"), 3, "abc", "d", "e")
}

// TestFillOfBlanksTabsAndBreaks puts two of them one behind the other in each order, at a line's beginning, inside, at its end, and
// where a full line is ahead.
func TestFillOfBlanksTabsAndBreaks(t *testing.T) {
	eight := strings.Repeat(" ", 8)
	for _, c := range []struct {
		two                        string
		first, inside, end, behind []string // at 10: of the two and "x"; "a", the two, "x"; "a", the two; ten signs, the two, "x"
	}{
		{"  ", []string{"x"}, []string{"a x"}, []string{"a"}, []string{"0123456789", "x"}},
		{" \t", []string{eight + "x"}, []string{"a       x"}, []string{"a       "}, []string{"0123456789", "x"}},
		{" \n", []string{"", "x"}, []string{"a", "x"}, []string{"a"}, []string{"0123456789", "x"}},
		{"\t ", []string{eight + " x"}, []string{"a        x"}, []string{"a       "}, []string{"0123456789", "x"}},
		{"\t\t", []string{eight, "x"}, []string{"a       ", "x"}, []string{"a       "}, []string{"0123456789", eight + "x"}},
		{"\t\n", []string{eight, "x"}, []string{"a       ", "x"}, []string{"a       "}, []string{"0123456789", "", "x"}},
		{"\n ", []string{"", "x"}, []string{"a", "x"}, []string{"a"}, []string{"0123456789", "x"}},
		{"\n\t", []string{"", eight + "x"}, []string{"a", eight + "x"}, []string{"a", eight}, []string{"0123456789", eight + "x"}},
		{"\n\n", []string{"", "", "x"}, []string{"a", "", "x"}, []string{"a", ""}, []string{"0123456789", "", "x"}},
	} {
		wantFill(t, flow(c.two+"x"), 10, c.first...)
		wantFill(t, flow("a"+c.two+"x"), 10, c.inside...)
		wantFill(t, flow("a"+c.two), 10, c.end...)
		wantFill(t, flow("0123456789"+c.two+"x"), 10, c.behind...)
	}
}

// TestFillAtTheLastCell: blanks, tabs and words, where one cell of a line is left.
func TestFillAtTheLastCell(t *testing.T) {
	wantFill(t, flow("abcd e"), 5, "abcd", "e")
	wantFill(t, flow("abcd \te"), 5, "abcd", "e")
	wantFill(t, flow("abcd\t e"), 5, "abcd", "e")
	wantFill(t, flow("abcd\n e"), 5, "abcd", "e")
	wantFill(t, flow("abcd \n"), 5, "abcd")
	wantFill(t, flow("abcdefgh\ti"), 9, "abcdefgh", "i") // the next stop is 16
	wantFill(t, flow("abcdefg\th"), 8, "abcdefg", "h")   // it is 8
	wantFill(t, flow("abcdefg\th"), 9, "abcdefg h")
	wantFill(t, flow("abcd\u4e2d"), 5, "abcd", "\u4e2d")
	wantFill(t, flow("abc \u4e2d"), 5, "abc", "\u4e2d")
}

// TestFillOfWidesThatCountForNothing: a blank, a tab and a break may have any.
func TestFillOfWidesThatCountForNothing(t *testing.T) {
	for _, w := range append(far(), -2, -1, 0, 2, 3) {
		a, b := glyph("a", 1, 20), glyph("b", 1, 21)
		odd := func(s string) api.Glyph { return glyph(s, w, 22) }
		even := glyph(" ", 1, 22)
		wantExactly(t, []api.Glyph{a, odd(" "), b}, 3, []api.Glyph{a, even, b})
		wantExactly(t, []api.Glyph{a, odd(" "), b}, 2, []api.Glyph{a}, []api.Glyph{b})
		wantExactly(t, []api.Glyph{odd(" "), odd(" ")}, 2)
		wantExactly(t, []api.Glyph{a, odd("\t"), b}, 9, slices.Concat([]api.Glyph{a}, slices.Repeat([]api.Glyph{even}, 7), []api.Glyph{b}))
		wantExactly(t, []api.Glyph{a, odd("\t"), b}, 8, []api.Glyph{a}, []api.Glyph{b})
		wantExactly(t, []api.Glyph{a, odd("\n"), b}, 3, []api.Glyph{a}, []api.Glyph{b})
		wantExactly(t, []api.Glyph{odd("\n")}, 1, nil)
	}
}

func TestFillAtTheGreatestWidth(t *testing.T) {
	s := strings.Repeat("x", api.MaxWidth)
	wantFill(t, flow(s), api.MaxWidth, s)
	wantFill(t, flow(s+"y"), api.MaxWidth, s, "y")
	wantFill(t, flow(s[2:]+" y"), api.MaxWidth, s[2:]+" y")
	wantFill(t, flow(s[1:]+" y"), api.MaxWidth, s[1:], "y")
	wantFill(t, flow(strings.Repeat("\u4e2d", api.MaxWidth/2)+"x"), api.MaxWidth, strings.Repeat("\u4e2d", api.MaxWidth/2), "x")
}

func TestFillOfMuch(t *testing.T) {
	const many = 100000
	word := slices.Repeat(flow("x"), many)
	if lines, e := table.Fill(word, 1); e != api.OK || len(lines) != many {
		t.Errorf("one long word: %d, %d", len(lines), e)
	}
	for _, s := range []string{"\n", "\t"} {
		if lines, e := table.Fill(slices.Repeat(flow(s), many), 8); e != api.OK || len(lines) != many {
			t.Errorf("many of %q: %d, %d", s, len(lines), e)
		}
	}
	if lines, e := table.Fill(slices.Repeat(flow("a "), many), 3); e != api.OK || len(lines) != many/2 {
		t.Errorf("many words: %d, %d", len(lines), e)
	}
}

func TestFillOfLinksAndLooksOfAnyNumber(t *testing.T) {
	for _, n := range append(far(), 0, -1) {
		g := api.Glyph{Text: "a", Wide: 1, Look: api.Look{Attr: n, Color: n}, Link: n}
		blank, tab := g, g
		blank.Text, tab.Text = " ", "\t"
		wantExactly(t, []api.Glyph{g, blank, g}, 3, []api.Glyph{g, blank, g})
		wantExactly(t, []api.Glyph{tab}, 9, slices.Repeat([]api.Glyph{blank}, 8))
		wide := g
		wide.Wide = 2
		g.Text = "?"
		wantExactly(t, []api.Glyph{wide}, 1, []api.Glyph{g})
	}
}

// P2

// scribble writes over all that a list has room for.
func scribble(l []api.Glyph) {
	l = l[:cap(l)]
	for i := range l {
		l[i] = glyph("scribbled", math.MaxInt, 99)
	}
}

// wantOwnMemory asks that each of these lines has memory of its own.
func wantOwnMemory(t *testing.T, lines [][]api.Glyph) {
	t.Helper()
	kept := deep(lines)
	for i := range lines {
		scribble(lines[i])
		for n := range lines {
			if n != i && !slices.Equal(lines[n], kept[n]) {
				t.Errorf("lines %d and %d of %q share memory", i, n, shows(kept))
			}
		}
		copy(lines[i], kept[i])
	}
}

func TestFillTellsMemoryOfItsOwn(t *testing.T) {
	for _, s := range []string{"", "a", "ab cd ef", "abcdefghijkl", "a\tb\tc", "\n\na\n", "\u4e2d\u4e2d a", "a  b \t c\n"} {
		for _, wide := range []int{1, 2, 3, 9, 80} {
			room := slices.Concat(flow(s), flow("behind"))
			l := room[:len(flow(s))]
			kept := slices.Clone(room)
			first, e := table.Fill(l, wide)
			second, _ := table.Fill(l, wide)
			want := deep(second)
			wantOwnMemory(t, first)
			for _, line := range first {
				scribble(line)
			}
			if e != api.OK || !slices.Equal(room, kept) {
				t.Errorf("Fill of %q at %d changes what it was given, or its answer is the same memory: %v", s, wide, room)
			}
			if !sameLines(second, want) {
				t.Errorf("two answers of Fill of %q at %d share memory", s, wide)
			}
			scribble(l)
			if !sameLines(second, want) {
				t.Errorf("Fill of %q at %d keeps what it was given", s, wide)
			}
		}
	}
}
