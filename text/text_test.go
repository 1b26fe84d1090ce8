package text_test

import (
	"math"
	"slices"
	"strings"
	"testing"
	"unicode/utf8"

	"folio/api"
	"folio/text"
)

// dice throws numbers that are the same each time.
type dice uint32

func (d *dice) throw(n int) int {
	*d = *d*1664525 + 1013904223
	return int(*d>>8) % n
}

// pieces are characters of all sorts, and bytes that are none by themselves but may come to one side by side.
func pieces() []string {
	return []string{
		"a", "b", "z", "A", "B", "Z", "s", "t", "-", "!", " ", " ", "  ", "0", "1", "2", "9", "00", "10",
		"ä", "Ä", "é", "ß", "æ", "Æ", "þ", "ÿ", "×", "÷", "ª", "¿", "À", "Ж", "ж", "Ѐ", "ѐ", "Ω", "ω", "\u03a2", "\u4e2d", "\uff21", "\U0001f600", "\U0010ffff",
		"\u0301", "\u036f", "\u200b", "\ufe0f", "\t", "\n", "\x00", "\x7f", "\u0085", "\u00a0",
		"\ufffd", "\xff", "\xe4", "\xb8", "\xad", "\xc3", "\x80", "\xed\xa0\x80", "\xf0\x9f", "\xc0\x80",
	}
}

// texts answers texts of all sorts: the empty one, each piece alone, and some in which they are mixed.
func texts(seed dice, count int) []string {
	l := append([]string{"", "Hello, world", "  one two  three ", "e\u0301\u4e2d", "\u4e2d\u6587 text", "zażółć gęślą", "\xe4\xb8", "tail\xf0\x9f\x98"}, pieces()...)
	p := pieces()
	for range count {
		var b strings.Builder
		for range seed.throw(9) {
			b.WriteString(p[seed.throw(len(p))])
		}
		l = append(l, b.String())
	}
	return l
}

// P2.1

func TestGoodAndPlain(t *testing.T) {
	type answer struct {
		at int
		ok bool
	}
	yes := answer{0, true}
	for s, want := range map[string][2]answer{ // what Good answers, what Plain
		"":                   {yes, yes},
		"a b~":               {yes, yes},
		"\u00a0é\u4e2d":      {yes, yes},
		"a\ufffd":            {yes, yes},
		"\u0301\u200b\ufe0f": {yes, yes},
		"\U0010ffff":         {yes, yes},
		"a\xff":              {{1, false}, {1, false}},
		"\xff":               {{0, false}, {0, false}},
		"\ufffd\xff":         {{3, false}, {3, false}},
		"\x80a":              {{0, false}, {0, false}},
		"\u4e2d\xe4\xb8":     {{3, false}, {3, false}},
		"ab\xe4\xb8z":        {{2, false}, {2, false}},
		"a\xed\xa0\x80":      {{1, false}, {1, false}}, // a surrogate's three bytes
		"\xc0\x80":           {{0, false}, {0, false}}, // more bytes than it takes
		"\xf4\x90\x80\x80":   {{0, false}, {0, false}}, // above U+10FFFF
		"a\xffb\xfe":         {{1, false}, {1, false}},
		"ab\tc":              {yes, {2, false}},
		"\x00":               {yes, {0, false}},
		"é\x1f":              {yes, {2, false}},
		"é\x7f":              {yes, {2, false}},
		"a\u0080":            {yes, {1, false}},
		"a\u009f":            {yes, {1, false}},
		"a\n\xff":            {{2, false}, {1, false}},
		"a\xff\n":            {{1, false}, {1, false}},
	} {
		if at, ok := text.Good(s); at != want[0].at || ok != want[0].ok {
			t.Errorf("Good(%q): %d, %v", s, at, ok)
		}
		if at, ok := text.Plain(s); at != want[1].at || ok != want[1].ok {
			t.Errorf("Plain(%q): %d, %v", s, at, ok)
		}
	}
}

func TestGoodIsThatItIsUTF8(t *testing.T) {
	for _, s := range texts(1, 3000) {
		at, ok := text.Good(s)
		if ok != utf8.ValidString(s) || ok && at != 0 {
			t.Errorf("Good(%q): %d, %v", s, at, ok)
		}
		if !ok && (!utf8.ValidString(s[:at]) || utf8.FullRuneInString(s[at:]) && utf8.ValidString(firstOf(s[at:]))) {
			t.Errorf("Good(%q): %d is not the first bad place", s, at)
		}
	}
}

// firstOf answers the bytes of a text's first character.
func firstOf(s string) string {
	_, n := utf8.DecodeRuneInString(s)
	return s[:n]
}

func TestPlainOfEachCharacter(t *testing.T) {
	for r := rune(0); r <= utf8.MaxRune; r++ {
		if !utf8.ValidRune(r) {
			continue
		}
		control := r < 0x20 || r >= 0x7f && r <= 0x9f
		at, ok := text.Plain("ab" + string(r) + "\xff")
		if ok || control != (at == 2) {
			t.Fatalf("Plain of U+%04X: %d, %v", r, at, ok)
		}
	}
}

// P2.2

// some are code points and numbers beside them, at the ends of all that there is.
func some() []rune {
	return []rune{math.MinInt32, -0x110000, -0x301, -0x20, -1, utf8.MaxRune + 1, utf8.MaxRune + 0x20, 0x200000, math.MaxInt32}
}

func TestWidths(t *testing.T) {
	type part struct {
		from, to rune
		wide     int
	}
	parts := []part{ // all code points, in order; what lies between is of width 1
		{0, 0x1f, 0}, {0x7f, 0x9f, 0}, {0x300, 0x36f, 0}, {0x1100, 0x115f, 2}, {0x200b, 0x200d, 0}, {0x2e80, 0x303e, 2},
		{0x3041, 0x33ff, 2}, {0x3400, 0x4dbf, 2}, {0x4e00, 0xa4cf, 2}, {0xac00, 0xd7a3, 2}, {0xf900, 0xfaff, 2},
		{0xfe00, 0xfe0f, 0}, {0xfe30, 0xfe6f, 2}, {0xff00, 0xff60, 2}, {0xffe0, 0xffe6, 2}, {0x1f300, 0x1f64f, 2},
		{0x1f900, 0x1f9ff, 2}, {0x20000, 0x3fffd, 2},
	}
	for r := rune(0); r <= 0x200000; r++ {
		if len(parts) > 0 && r > parts[0].to {
			parts = parts[1:]
		}
		want := 1
		if len(parts) > 0 && r >= parts[0].from {
			want = parts[0].wide
		}
		if w := text.Width(r); w != want {
			t.Fatalf("Width of U+%04X: %d, want %d", r, w, want)
		}
	}
	for _, r := range some() {
		if w := text.Width(r); w != 1 {
			t.Errorf("Width of %d: %d", r, w)
		}
	}
}

// P2.3

func cell(s string, at, wide int) api.Cell { return api.Cell{Text: s, At: at, Wide: wide} }

func TestCells(t *testing.T) {
	for _, c := range []struct {
		s    string
		wide int
		want []api.Cell
	}{
		{"", 0, nil},
		{"ab", 2, []api.Cell{cell("a", 0, 1), cell("b", 1, 1)}},
		{"e\u0301\u4e2d", 3, []api.Cell{cell("e\u0301", 0, 1), cell("\u4e2d", 3, 2)}},
		{"\u0301a", 2, []api.Cell{cell("\u0301", 0, 1), cell("a", 2, 1)}},
		{"\u0301", 1, []api.Cell{cell("\u0301", 0, 1)}},
		{"\u0301\u200b\t\u4e2d\u0302", 3, []api.Cell{cell("\u0301\u200b\t", 0, 1), cell("\u4e2d\u0302", 6, 2)}},
		{"\u4e2d\u0301\ufe0f\x00a", 3, []api.Cell{cell("\u4e2d\u0301\ufe0f\x00", 0, 2), cell("a", 9, 1)}},
		{" \u0301 ", 2, []api.Cell{cell(" \u0301", 0, 1), cell(" ", 3, 1)}},
		{"\xff\u0301\xfe", 2, []api.Cell{cell("\xff\u0301", 0, 1), cell("\xfe", 3, 1)}},
		{"\xe4\xb8", 2, []api.Cell{cell("\xe4", 0, 1), cell("\xb8", 1, 1)}},
		{"\ufffda", 2, []api.Cell{cell("\ufffd", 0, 1), cell("a", 3, 1)}},
	} {
		if l := text.Cells(c.s); !slices.Equal(l, c.want) {
			t.Errorf("Cells(%q): %+v, want %+v", c.s, l, c.want)
		}
		if w := text.Wide(c.s); w != c.wide {
			t.Errorf("Wide(%q): %d, want %d", c.s, w, c.wide)
		}
	}
}

// wantCell holds a cell against the widths of its characters.
func wantCell(t *testing.T, s string, c api.Cell, first bool) {
	t.Helper()
	for i, r := range c.Text {
		w := text.Width(r)
		if i > 0 && w != 0 || i == 0 && w == 0 && !first {
			t.Errorf("Cells(%q): %q is not one cell", s, c.Text)
		}
		if i == 0 && c.Wide != max(w, 1) {
			t.Errorf("Cells(%q): %q is %d wide", s, c.Text, c.Wide)
		}
	}
}

func TestCellsAreMadeOfOneCharacterAndWhatBelongsToIt(t *testing.T) {
	for _, s := range texts(2, 3000) {
		wide := 0
		for i, c := range text.Cells(s) {
			wantCell(t, s, c, i == 0)
			wide += c.Wide
		}
		if text.Wide(s) != wide {
			t.Errorf("Wide(%q): %d, want %d", s, text.Wide(s), wide)
		}
	}
}

func TestAnswersAreNewMemory(t *testing.T) {
	s := "a b\u0301 \u4e2d"
	cells, words := text.Cells(s), text.Words(s)
	for i := range cells {
		cells[i] = api.Cell{}
	}
	for i := range words {
		words[i] = api.Word{}
	}
	if len(text.Cells(s)) != 5 || text.Cells(s)[0] != cell("a", 0, 1) || text.Words(s)[0] != word("a", 0, 1) {
		t.Error("an answer shares memory with a later one")
	}
}

// P2.4

func word(s string, at, wide int) api.Word { return api.Word{Text: s, At: at, Wide: wide} }

func TestWords(t *testing.T) {
	for _, c := range []struct {
		s    string
		want []api.Word
	}{
		{"", nil},
		{" ", nil},
		{"   ", nil},
		{"a", []api.Word{word("a", 0, 1)}},
		{" a  bc", []api.Word{word("a", 1, 1), word("bc", 4, 2)}},
		{"bc a ", []api.Word{word("bc", 0, 2), word("a", 3, 1)}},
		{"a\tb\u00a0c\u3000d", []api.Word{word("a\tb\u00a0c\u3000d", 0, 7)}}, // no other character parts words
		{"\u4e2d\u0301 \u0301x", []api.Word{word("\u4e2d\u0301", 0, 2), word("\u0301x", 6, 2)}},
		{"\xff \xe4\xb8", []api.Word{word("\xff", 0, 1), word("\xe4\xb8", 2, 2)}},
	} {
		if l := text.Words(c.s); !slices.Equal(l, c.want) {
			t.Errorf("Words(%q): %+v, want %+v", c.s, l, c.want)
		}
	}
}

func TestCut(t *testing.T) {
	for _, c := range []struct {
		s     string
		wide  int
		first string
	}{
		{"", 0, ""}, {"", 5, ""}, {"", -1, ""}, {"", math.MinInt, ""}, {"", math.MaxInt, ""},
		{"abc", 2, "ab"}, {"abc", 0, ""}, {"abc", -1, ""}, {"abc", 3, "abc"}, {"abc", 4, "abc"},
		{"abc", math.MaxInt, "abc"}, {"abc", math.MinInt, ""},
		{"\u4e2d", 1, ""}, {"\u4e2d", 2, "\u4e2d"}, {"a\u4e2db", 2, "a"}, {"a\u4e2db", 3, "a\u4e2d"},
		{"ae\u0301x", 2, "ae\u0301"}, {"ae\u0301\u0302", 2, "ae\u0301\u0302"},
		{"\u0301\u0302a", 0, ""}, {"\u0301\u0302a", 1, "\u0301\u0302"},
		{"\xff\u0301\xfe", 1, "\xff\u0301"}, {"\xe4\xb8\xad", 1, ""}, {"\xe4\xb8x", 1, "\xe4"},
		{"  a", 1, " "},
	} {
		if a, b := text.Cut(c.s, c.wide); a != c.first || a+b != c.s {
			t.Errorf("Cut(%q, %d): %q, %q", c.s, c.wide, a, b)
		}
	}
}

// P2.10

func TestNothingIsLost(t *testing.T) {
	for _, s := range texts(3, 3000) {
		at := 0
		for _, c := range text.Cells(s) {
			if c.At != at || c.At+len(c.Text) > len(s) || s[c.At:c.At+len(c.Text)] != c.Text {
				t.Fatalf("Cells(%q): %q at %d, want %d", s, c.Text, c.At, at)
			}
			at += len(c.Text)
		}
		if at != len(s) {
			t.Errorf("Cells(%q): they end at %d", s, at)
		}
		wantCuts(t, s)
		wantWords(t, s)
	}
}

// wantCuts cuts a text at all widths.
func wantCuts(t *testing.T, s string) {
	t.Helper()
	for wide := -2; wide <= text.Wide(s)+2; wide++ {
		a, b := text.Cut(s, wide)
		if a+b != s || a != "" && text.Wide(a) > wide {
			t.Errorf("Cut(%q, %d): %q, %q", s, wide, a, b)
		}
		n := len(text.Cells(a))
		whole := text.Cells(s)
		if n < len(whole) && (whole[n].At != len(a) || text.Wide(a)+whole[n].Wide <= wide) {
			t.Errorf("Cut(%q, %d): %q, one cell more would fit, or half of one is in it", s, wide, a)
		}
	}
}

// wantWords sets the words back among blanks.
func wantWords(t *testing.T, s string) {
	t.Helper()
	back := []byte(strings.Repeat(" ", len(s)))
	end := -1
	for _, w := range text.Words(s) {
		if w.Text == "" || strings.Contains(w.Text, " ") || w.At <= end || w.At+len(w.Text) > len(s) || w.Wide != text.Wide(w.Text) {
			t.Fatalf("Words(%q): %q at %d, %d wide", s, w.Text, w.At, w.Wide)
		}
		end = w.At + copy(back[w.At:], w.Text) // two words side by side would be one
	}
	if string(back) != s {
		t.Errorf("Words(%q): they come to %q", s, back)
	}
}

// P2.11

func TestWidthsAddUp(t *testing.T) {
	l := texts(4, 250)
	for _, a := range l {
		for _, b := range l {
			r, _ := utf8.DecodeRuneInString(b)
			joined := utf8.RuneCountInString(a)+utf8.RuneCountInString(b) != utf8.RuneCountInString(a+b)
			if joined || b != "" && text.Width(r) == 0 {
				continue
			}
			if text.Wide(a+b) != text.Wide(a)+text.Wide(b) {
				t.Errorf("Wide of %q and %q", a, b)
			}
		}
	}
	if text.Wide("\xe4\xb8"+"\xad") != 2 || text.Wide("a"+"\u0301") != 1 {
		t.Error("what doesn't add up")
	}
}
