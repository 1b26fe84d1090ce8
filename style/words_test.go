package style_test

import (
	"math"
	"strings"
	"testing"

	"folio/api"
	"folio/style"
)

// P6.5

func wantWrite(t *testing.T, s api.Style, want string, e api.Errno) {
	t.Helper()
	if w, got := style.Write(s); w != want || got != e {
		t.Errorf("Write(%+v): %q, %d, want %q, %d", s, w, got, want, e)
	}
}

func wantParse(t *testing.T, text string, want api.Style, e api.Errno) {
	t.Helper()
	if s, got := style.Parse(text); s != want || got != e {
		t.Errorf("Parse(%.99q): %+v, %d, want %+v, %d", text, s, got, want, e)
	}
}

// word answers the word of a bit.
func word(bit int) string {
	return map[int]string{api.AttrBold: "bold", api.AttrItalic: "italic", api.AttrUnder: "under", api.AttrStrike: "strike", api.AttrMono: "mono", api.AttrSmall: "small", api.AttrReverse: "reverse"}[bit]
}

// inOneForm are styles with the text that Write makes of each.
func inOneForm() map[string]api.Style {
	return map[string]api.Style{
		"a":                              named("a"),
		"abcdefghijkl:mnopqrstuvwx":      named("abcdefghijkl:mnopqrstuvwx"),
		"a:a":                            named("a:a"), // its parents are the sheet's matter
		"color":                          named("color"),
		"color:color color 7":            doing("color:color", 0, 0, 7),
		"bold:bold -bold":                doing("bold:bold", 0, 1, -1),
		"a +bold":                        doing("a", 1, 0, -1),
		"a -reverse":                     doing("a", 0, 64, -1),
		"a color 0":                      doing("a", 0, 0, 0),
		"a color 1":                      doing("a", 0, 0, 1),
		"a color 9":                      doing("a", 0, 0, 9),
		"a color 10":                     doing("a", 0, 0, 10),
		"a color 15":                     doing("a", 0, 0, 15),
		"warn:b +under -bold color 1":    doing("warn:b", 4, 1, 1),
		"a +reverse -bold":               doing("a", 64, 1, -1), // all of On ahead of those of Off
		"a +italic +strike -bold -under": doing("a", 10, 5, -1),
		"a +bold +italic +under +strike +mono +small +reverse":            doing("a", 127, 0, -1),
		"a -bold -italic -under -strike -mono -small -reverse color 15":   doing("a", 0, 127, 15),
		"a +bold +under +mono +reverse -italic -strike -small color 0":    doing("a", 85, 42, 0),
		"a:b +italic +strike +small -bold -under -mono -reverse color 12": doing("a:b", 42, 85, 12),
	}
}

func TestWriteAndParse(t *testing.T) {
	for text, s := range inOneForm() {
		wantWrite(t, s, text, api.OK)
		wantParse(t, text, s, api.OK)
	}
	for bit := 1; bit < 128; bit *= 2 {
		wantWrite(t, doing("a", bit, 0, -1), "a +"+word(bit), api.OK)
		wantParse(t, "a -"+word(bit), doing("a", 0, bit, -1), api.OK)
	}
}

func TestWriteRefuses(t *testing.T) {
	for _, n := range notNames() {
		wantWrite(t, api.Style{Name: n, Own: none()}, "", api.ErrStyleName)
		wantWrite(t, api.Style{Name: n, Parent: n, Own: change(128, 0, 16)}, "", api.ErrStyleName)
		if n != "" {
			wantWrite(t, api.Style{Name: "a", Parent: n, Own: none()}, "", api.ErrStyleParent)
			wantWrite(t, api.Style{Name: "a", Parent: n, Own: change(0, 0, 16)}, "", api.ErrStyleColor)
		}
	}
	for _, bits := range []int{128, 129, 1 << 40, -1, -128, math.MinInt, math.MaxInt} {
		wantWrite(t, doing("a", bits, 0, -1), "", api.ErrStyleBits)
		wantWrite(t, doing("a", 0, bits, -1), "", api.ErrStyleBits)
		wantWrite(t, doing("a:B", bits, 0, 16), "", api.ErrStyleBits)
	}
	wantWrite(t, doing("a:B", 1, 1, 16), "", api.ErrStyleBits)
	wantWrite(t, doing("a", 6, 3, -1), "", api.ErrStyleBits)
	for _, color := range []int{-2, 16, 100, math.MinInt, math.MaxInt} {
		wantWrite(t, doing("a", 1, 2, color), "", api.ErrStyleColor)
	}
	wantWrite(t, api.Style{}, "", api.ErrStyleName)
}

func TestParseAnyOrder(t *testing.T) {
	want := doing("warn:b", 4, 1, 1)
	for _, text := range []string{
		" warn:b  color 1 +under -bold ",
		"warn:b +under -bold color 1",
		"warn:b +under color 1 -bold",
		"warn:b -bold +under color 1",
		"warn:b -bold color 1 +under",
		"warn:b color 1 -bold +under",
		"   warn:b +under    -bold color     1   ",
		strings.Repeat(" ", 2000) + "warn:b -bold" + strings.Repeat(" ", 2000) + "+under color 1",
	} {
		wantParse(t, text, want, api.OK)
	}
	wantParse(t, "a -reverse +bold -small +italic -mono +under color 15", doing("a", 7, 16|32|64, 15), api.OK)
}

func TestParseHowLong(t *testing.T) {
	fill := strings.Repeat(" ", api.MaxLine)
	wantParse(t, (fill + "a +bold")[7:], doing("a", 1, 0, -1), api.OK)
	wantParse(t, ("a +bold" + fill)[:api.MaxLine], doing("a", 1, 0, -1), api.OK)
	wantParse(t, (fill + "a +bold")[6:], api.Style{}, api.ErrLong)
	wantParse(t, fill, api.Style{}, api.ErrStyleText)
	wantParse(t, fill+" ", api.Style{}, api.ErrLong) // ahead of what it says
	wantParse(t, strings.Repeat("\xff", api.MaxLine+1), api.Style{}, api.ErrLong)
	wantParse(t, strings.Repeat("a", api.MaxLine), api.Style{}, api.ErrStyleText)
}

func TestParseRefuses(t *testing.T) {
	for _, text := range []string{
		"", " ", "   ",
		// names
		":", "a:", ":b", "a:b:", "a:b:c", "a::b", "a :b", "a: b", "a : b", "+bold", "-bold a", "a b", "a a", "warn:b b", "+bold a",
		// words
		"a bold", "a +", "a -", "a + bold", "a +Bold", "a +BOLD", "a +bol", "a +boldx", "a +bold:b", "a ++bold", "a +-bold", "a -+bold", "a *bold", "a b+bold", "a \u2212bold", "a +bold,-italic", "a +bold-italic", "a +fat", "a +color", "a +1",
		// once
		"a +bold +bold", "a -bold -bold", "a +bold -bold", "a -bold +bold", "a +bold +italic +bold", "a -reverse color 1 +reverse",
		// colors
		"a color", "a color ", "a color color", "a color color 1", "a color 16", "a color 99", "a color 01", "a color 00", "a color 007", "a color -1", "a color -0", "a color +1", "a color 1.", "a color 0x1", "a color 1_0", "a color x", "a color 1 2", "a color1", "a color:1", "a color +bold 1", "a colors 1", "a Color 1", "a 1 color", "a 1", "a color 1 color 1", "a color 1 color 2", "a color 1 color", "a color 0 color 0", "a color \u0661", "a color 18446744073709551617", "a color 4294967296", "a color 99999999999999999999999999",
		// other blanks, other bytes
		"a\t+bold", "a\n", "\ta", "a +bold\n", "a\u00a0+bold", "a +bold\x00", "a +bold\xff", "\xff", "a \xff", "a +\xff", "a color \xff", "a color 1\xff", "\xef\xbb\xbfa",
	} {
		wantParse(t, text, api.Style{}, api.ErrStyleText)
	}
	for _, n := range notNames() {
		e := api.ErrStyleText
		if len(n) > api.MaxLine {
			e = api.ErrLong
		}
		if strings.Contains(n, " ") { // a blank is the text's, not the name's
			continue
		}
		wantParse(t, n, api.Style{}, e)
		wantParse(t, "a:"+n, api.Style{}, e)
		wantParse(t, n+":a", api.Style{}, e)
	}
	for _, n := range names() {
		wantParse(t, n+":"+n, named(n+":"+n), api.OK)
	}
}
