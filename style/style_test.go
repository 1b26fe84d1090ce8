package style_test

import (
	"math"
	"slices"
	"strings"
	"testing"

	"folio/api"
	"folio/style"
)

// Makers of styles.

func change(on, off, color int) api.Change { return api.Change{On: on, Off: off, Color: color} }

func none() api.Change { return change(0, 0, -1) }

// named answers a style that changes nothing; names is its name, or its name, a colon and its parent's.
func named(names string) api.Style {
	name, parent, _ := strings.Cut(names, ":")
	return api.Style{Name: name, Parent: parent, Own: none()}
}

// sheet answers styles that change nothing.
func sheet(names ...string) []api.Style {
	var l []api.Style
	for _, n := range names {
		l = append(l, named(n))
	}
	return l
}

// doing answers a style with another change.
func doing(names string, on, off, color int) api.Style {
	s := named(names)
	s.Own = change(on, off, color)
	return s
}

// letters answers the name of two letters that a number has.
func letters(n int) string { return string([]byte{'a' + byte(n/26), 'a' + byte(n%26)}) }

// many answers so many styles without parents.
func many(n int) []api.Style {
	var l []api.Style
	for i := range n {
		l = append(l, named(letters(i)))
	}
	return l
}

// line answers so many styles of which each is the parent of the one ahead.
func line(n int) []api.Style {
	l := many(n)
	for i := range n - 1 {
		l[i].Parent = l[i+1].Name
	}
	return l
}

// ring answers so many styles of which each is the parent of the one ahead, the first one that of the last.
func ring(n int) []api.Style {
	l := line(n)
	l[n-1].Parent = l[0].Name
	return l
}

func backward(l []api.Style) []api.Style {
	slices.Reverse(l)
	return l
}

// join answers sheets one behind the other.
func join(l ...[]api.Style) []api.Style { return slices.Concat(l...) }

func wantCheck(t *testing.T, l []api.Style, at int, e api.Errno) {
	t.Helper()
	if gotAt, got := style.Check(l); gotAt != at || got != e {
		t.Errorf("Check(%+v): %d, %d, want %d, %d", l, gotAt, got, at, e)
	}
}

// notNames are texts that are no style's name.
func notNames() []string {
	return []string{"", " ", "A", "bB", "B", "a1", "1", "a b", " a", "a ", "a-b", "a:", ":a", "a\t", "a\x00", "ä", "\u0430", "aé", "a\xff", "\xff", "`", "{", "a.", "+bold", strings.Repeat("a", api.MaxWord+1), strings.Repeat("a", 70000)}
}

// names are texts that are just that.
func names() []string {
	return []string{"a", "z", "b", "color", "bold", "abcdefghijkl", "mnopqrstuvwx", "yz", strings.Repeat("a", api.MaxWord)}
}

// P6.1

func TestBase(t *testing.T) {
	want := []api.Style{doing("b", 1, 0, -1), doing("i", 2, 0, -1), doing("u", 4, 0, -1), doing("s", 8, 0, -1), doing("m", 16, 0, -1), doing("h", 5, 0, -1)}
	got := style.Base()
	if !slices.Equal(got, want) {
		t.Errorf("Base(): %+v", got)
	}
	wantCheck(t, got, 0, api.OK)
	clear(got[:cap(got)])
	if !slices.Equal(style.Base(), want) {
		t.Error("one answer of Base shares memory with the next")
	}
}

func TestBaseIsThoseAttributes(t *testing.T) {
	bits := map[string]int{"b": api.AttrBold, "i": api.AttrItalic, "u": api.AttrUnder, "s": api.AttrStrike, "m": api.AttrMono, "h": api.AttrBold | api.AttrUnder}
	for name, on := range bits {
		if c, e := style.Whole(style.Base(), name); e != api.OK || c != change(on, 0, -1) {
			t.Errorf("Whole(Base(), %s): %+v, %d", name, c, e)
		}
	}
}

// P6.2

func TestCheckTakes(t *testing.T) {
	for _, l := range [][]api.Style{
		nil,
		{},
		style.Base(),
		many(1),
		many(api.MaxStyles),
		line(api.MaxChain),
		backward(line(api.MaxChain)),
		join(line(api.MaxChain), sheet("x:ab", "y:ab", "z:ac")), // more than one style of the same parent
		{doing("a", 127, 0, 15), doing("b", 0, 127, 0), doing("c", 85, 42, -1)},
		sheet("color:bold", "bold"),
	} {
		wantCheck(t, l, 0, api.OK)
	}
}

func TestCheckHowMany(t *testing.T) {
	wantCheck(t, many(api.MaxStyles+1), 0, api.ErrLong)
	wantCheck(t, append(many(api.MaxStyles), api.Style{}), 0, api.ErrLong)
	wantCheck(t, join(sheet("A", "b:x"), many(api.MaxStyles)), 0, api.ErrLong) // ahead of all else
	wantCheck(t, append(many(api.MaxStyles-1), named("A")), api.MaxStyles-1, api.ErrStyleName)
	wantCheck(t, make([]api.Style, 100000), 0, api.ErrLong)
}

func TestCheckNames(t *testing.T) {
	for _, n := range notNames() {
		wantCheck(t, []api.Style{{Name: n, Own: none()}}, 0, api.ErrStyleName)
		wantCheck(t, []api.Style{named("q"), {Name: n, Own: none()}, named("r")}, 1, api.ErrStyleName)
	}
	for _, n := range names() {
		wantCheck(t, []api.Style{{Name: n, Own: none()}}, 0, api.OK)
	}
	for b := range 256 {
		e := api.ErrStyleName
		if b >= 'a' && b <= 'z' {
			e = api.OK
		}
		wantCheck(t, []api.Style{{Name: "n" + string([]byte{byte(b)}), Own: none()}}, 0, e)
	}
}

func TestCheckTwice(t *testing.T) {
	wantCheck(t, sheet("a", "a"), 1, api.ErrStyleTwice)
	wantCheck(t, sheet("a", "b", "c", "b", "a"), 3, api.ErrStyleTwice)
	wantCheck(t, append(style.Base(), named("h")), 6, api.ErrStyleTwice)
	wantCheck(t, append(many(api.MaxStyles-1), named("aa")), api.MaxStyles-1, api.ErrStyleTwice)
	wantCheck(t, sheet("a", "aa"), 0, api.OK)
}

func TestCheckBits(t *testing.T) {
	for _, bits := range []int{128, 127 + 128, 256, 1 << 40, math.MaxInt, -1, -2, -128, math.MinInt, math.MinInt + 1} {
		wantCheck(t, []api.Style{named("a"), doing("b", bits, 0, -1)}, 1, api.ErrStyleBits)
		wantCheck(t, []api.Style{named("a"), doing("b", 0, bits, -1)}, 1, api.ErrStyleBits)
		wantCheck(t, []api.Style{named("a"), doing("b", bits, bits, -1)}, 1, api.ErrStyleBits)
	}
	for on := range 128 {
		for off := range 128 {
			e := api.OK
			if on&off != 0 {
				e = api.ErrStyleBits
			}
			if at, got := style.Check([]api.Style{doing("b", on, off, 3)}); at != 0 || got != e {
				t.Fatalf("Check of On %d, Off %d: %d, %d", on, off, at, got)
			}
		}
	}
}

func TestCheckColors(t *testing.T) {
	for color := -40; color < 40; color++ {
		e := api.ErrStyleColor
		if color >= -1 && color <= 15 {
			e = api.OK
		}
		wantCheck(t, []api.Style{doing("a", 0, 0, color)}, 0, e)
	}
	wantCheck(t, []api.Style{doing("a", 0, 0, math.MaxInt)}, 0, api.ErrStyleColor)
	wantCheck(t, []api.Style{named("q"), doing("a", 0, 0, math.MinInt)}, 1, api.ErrStyleColor)
}

func TestCheckParents(t *testing.T) {
	wantCheck(t, sheet("a:b"), 0, api.ErrStyleParent)
	wantCheck(t, sheet("a", "b:a", "c:d"), 2, api.ErrStyleParent)
	wantCheck(t, append(style.Base(), named("warn:bb")), 6, api.ErrStyleParent)
	for _, n := range notNames()[1:] { // but the empty one, which says that there is none
		wantCheck(t, []api.Style{{Name: "a", Parent: n, Own: none()}}, 0, api.ErrStyleParent)
	}
	behind := sheet("a:b", "b")
	wantCheck(t, behind[:1], 0, api.ErrStyleParent) // what lies behind a list's length is not read
}

func TestCheckChains(t *testing.T) {
	wantCheck(t, line(api.MaxChain+1), 0, api.ErrStyleChain)
	wantCheck(t, backward(line(api.MaxChain+1)), api.MaxChain, api.ErrStyleChain)
	wantCheck(t, line(api.MaxStyles), 0, api.ErrStyleChain)
	wantCheck(t, backward(line(api.MaxStyles)), api.MaxChain, api.ErrStyleChain)
	wantCheck(t, join(sheet("x", "y:x"), line(api.MaxChain), sheet("z:aa")), 10, api.ErrStyleChain)
	for n := 1; n <= api.MaxStyles; n++ {
		wantCheck(t, ring(n), 0, api.ErrStyleChain)
	}
	wantCheck(t, sheet("a", "b:b"), 1, api.ErrStyleChain)
	wantCheck(t, sheet("x", "c:a", "a:b", "b:a"), 1, api.ErrStyleChain) // from one that the ring doesn't hold
	wantCheck(t, sheet("x", "d:e", "e:x", "a:b", "b:a", "c:a"), 3, api.ErrStyleChain)
}

func TestCheckFirst(t *testing.T) {
	for _, c := range []struct {
		l  []api.Style
		at int
		e  api.Errno
	}{
		{[]api.Style{doing("A", 128, 0, 16)}, 0, api.ErrStyleName},
		{sheet("", ""), 0, api.ErrStyleName},
		{[]api.Style{named("a"), doing("a:x", 128, 1, 16)}, 1, api.ErrStyleTwice},
		{[]api.Style{doing("a:x", 128, 0, 16)}, 0, api.ErrStyleBits},
		{[]api.Style{doing("a:a", 3, 2, 16)}, 0, api.ErrStyleBits},
		{[]api.Style{doing("a:x", 0, 0, 16)}, 0, api.ErrStyleColor},
		{[]api.Style{doing("a:a", 0, 0, -2)}, 0, api.ErrStyleColor},
		{[]api.Style{doing("a", 0, 0, 16), doing("a", 128, 0, 0)}, 0, api.ErrStyleColor}, // style by style
		{[]api.Style{doing("a", 128, 0, 0), named("A")}, 0, api.ErrStyleBits},
		{[]api.Style{named("a:x"), doing("b", 0, 0, 16)}, 1, api.ErrStyleColor}, // all of them ahead of their parents
		{sheet("a:a", "b", "C"), 2, api.ErrStyleName},
		{sheet("a:a", "a"), 1, api.ErrStyleTwice},
		{sheet("a:x", "b:b"), 0, api.ErrStyleParent},
		{sheet("b:b", "a:x"), 0, api.ErrStyleChain},
		{sheet("a:b", "b:x"), 1, api.ErrStyleParent}, // where it stands, not from below
		{join(line(api.MaxChain-1), sheet("z:ag", "y:x")), 8, api.ErrStyleParent},
	} {
		wantCheck(t, c.l, c.at, c.e)
	}
	long := line(api.MaxChain)
	long[api.MaxChain-1].Parent = "x"
	wantCheck(t, long, api.MaxChain-1, api.ErrStyleParent)
	longer := line(api.MaxChain + 1)
	longer[api.MaxChain].Parent = "x"
	wantCheck(t, longer, 0, api.ErrStyleChain)
}

func TestFind(t *testing.T) {
	odd := []api.Style{doing("a", 128, -1, 99), named("b"), named("a"), {}, {Name: "\xff"}, {Name: "A", Parent: "none"}}
	for _, c := range []struct {
		l    []api.Style
		name string
		at   int
		ok   bool
	}{
		{nil, "a", 0, false}, {nil, "", 0, false}, {[]api.Style{}, "", 0, false},
		{style.Base(), "b", 0, true}, {style.Base(), "h", 5, true}, {style.Base(), "x", 0, false}, {style.Base(), "", 0, false},
		{odd, "a", 0, true}, {odd, "b", 1, true}, {odd, "", 3, true}, {odd, "\xff", 4, true}, {odd, "A", 5, true}, {odd, "none", 0, false}, {odd, "\xfe", 0, false},
		{odd[:1], "b", 0, false}, {odd[2:], "a", 0, true},
		{many(1000), letters(0), 0, true}, {append(many(600), named("zzz")), "zzz", 600, true}, // nothing else is looked at
	} {
		if at, ok := style.Find(c.l, c.name); at != c.at || ok != c.ok {
			t.Errorf("Find(%q): %d, %v, want %d, %v", c.name, at, ok, c.at, c.ok)
		}
	}
}

// P6.3

func TestThen(t *testing.T) {
	for _, c := range []struct{ a, b, want api.Change }{
		{none(), none(), none()},
		{change(1, 0, -1), change(0, 1, 3), change(0, 1, 3)},
		{change(0, 1, 3), change(1, 0, -1), change(1, 0, 3)},
		{change(3, 4, 2), change(4, 8, 5), change(7, 8, 5)},
		{change(3, 12, -1), change(4, 1, 0), change(6, 9, 0)},
		{change(1, 2, 9), none(), change(1, 2, 9)},
		{none(), change(1, 2, 9), change(1, 2, 9)},
		{change(0, 0, 9), change(0, 0, 9), change(0, 0, 9)},
		// bits in both, and beyond the seven
		{change(1, 1, -1), none(), change(1, 1, -1)},
		{none(), change(1, 1, -1), change(1, 1, -1)},
		{change(3, 3, 1), change(1, 0, -1), change(3, 2, 1)},
		{change(3, 3, 1), change(0, 1, -1), change(2, 3, 1)},
		{change(2, 4, 1), change(7, 7, -1), change(7, 7, 1)},
		{change(1<<20, 1<<30, -1), change(1<<30, 0, -1), change(1<<20|1<<30, 0, -1)},
		{change(-1, 0, -1), change(0, 1, -1), change(-2, 1, -1)},
		{change(0, -1, -1), change(math.MinInt, 0, -1), change(math.MinInt, math.MaxInt, -1)},
		{change(math.MaxInt, math.MinInt, 0), change(math.MinInt, math.MaxInt, -1), change(math.MinInt, math.MaxInt, 0)},
		// colors that are none
		{change(0, 0, 16), none(), change(0, 0, 16)},
		{change(0, 0, 3), change(0, 0, -2), change(0, 0, -2)},
		{change(0, 0, 3), change(0, 0, math.MaxInt), change(0, 0, math.MaxInt)},
		{change(0, 0, math.MinInt), none(), change(0, 0, math.MinInt)},
	} {
		if got := style.Then(c.a, c.b); got != c.want {
			t.Errorf("Then(%+v, %+v): %+v, want %+v", c.a, c.b, got, c.want)
		}
	}
}

func TestApply(t *testing.T) {
	for _, c := range []struct {
		l    api.Look
		c    api.Change
		want api.Look
	}{
		{api.Look{Attr: 0, Color: 7}, none(), api.Look{Attr: 0, Color: 7}},
		{api.Look{Attr: 3, Color: 7}, change(4, 1, 2), api.Look{Attr: 6, Color: 2}},
		{api.Look{Attr: 127, Color: 0}, change(0, 127, 15), api.Look{Attr: 0, Color: 15}},
		{api.Look{Attr: 1, Color: 5}, change(1, 2, 0), api.Look{Attr: 1, Color: 0}},
		{api.Look{Attr: 2, Color: 5}, change(1, 1, -1), api.Look{Attr: 2, Color: 5}}, // Off behind On
		{api.Look{Attr: 1, Color: 5}, change(3, 2, -1), api.Look{Attr: 1, Color: 5}},
		{api.Look{Attr: 1 << 40, Color: 99}, change(1<<41, 0, -1), api.Look{Attr: 3 << 40, Color: 99}},
		{api.Look{Attr: -1, Color: -1}, change(0, 1, -1), api.Look{Attr: -2, Color: -1}},
		{api.Look{Attr: 0, Color: -7}, change(math.MinInt, math.MaxInt, 16), api.Look{Attr: math.MinInt, Color: 16}},
		{api.Look{Attr: math.MaxInt, Color: 7}, change(-1, math.MinInt, -2), api.Look{Attr: math.MaxInt, Color: -2}},
		{api.Look{}, change(0, 0, math.MinInt), api.Look{Attr: 0, Color: math.MinInt}},
	} {
		if got := style.Apply(c.l, c.c); got != c.want {
			t.Errorf("Apply(%+v, %+v): %+v, want %+v", c.l, c.c, got, c.want)
		}
	}
}

// P6.4

// warned answers the sheet of the chapter's example, with styles below one another.
func warned() []api.Style {
	return append(style.Base(), doing("warn:b", 4, 1, 1), doing("shout:warn", 1|64, 0, -1), doing("calm:shout", 0, 64|4, 0), doing("off", 0, 127, -1))
}

func TestWhole(t *testing.T) {
	for name, want := range map[string]api.Change{
		"b": change(1, 0, -1), "i": change(2, 0, -1), "h": change(5, 0, -1),
		"warn": change(4, 1, 1), "shout": change(1|4|64, 0, 1), "calm": change(1, 4|64, 0), "off": change(0, 127, -1),
	} {
		if c, e := style.Whole(warned(), name); e != api.OK || c != want {
			t.Errorf("Whole(%s): %+v, %d, want %+v", name, c, e, want)
		}
	}
	if c, e := style.Whole(sheet("a"), "a"); e != api.OK || c != none() {
		t.Errorf("Whole of a style that changes nothing: %+v, %d", c, e)
	}
}

func TestWholeOfTheLongestChain(t *testing.T) {
	l := line(api.MaxChain)
	for i := range l {
		l[i].Own = change(1<<(i%7), 0, i)
	}
	l[api.MaxChain-1].Own = change(0, 127, 15) // the farthest parent: all others put theirs over it
	for i := range api.MaxChain - 1 {
		want := change(0, 127, i)
		for j := i; j < 7; j++ {
			want.On |= 1 << j
			want.Off &^= 1 << j
		}
		for _, s := range [][]api.Style{l, backward(slices.Clone(l))} {
			if c, e := style.Whole(s, letters(i)); e != api.OK || c != want {
				t.Errorf("Whole of %s: %+v, %d, want %+v", letters(i), c, e, want)
			}
		}
	}
}

// refused are sheets that Check refuses, with their errors.
func refused() map[api.Errno][]api.Style {
	return map[api.Errno][]api.Style{
		api.ErrLong:        many(api.MaxStyles + 1),
		api.ErrStyleName:   sheet("aa", "A"),
		api.ErrStyleTwice:  sheet("aa", "b", "b"),
		api.ErrStyleBits:   {named("aa"), doing("b", 128, 0, -1)},
		api.ErrStyleColor:  {named("aa"), doing("b", 0, 0, 16)},
		api.ErrStyleParent: sheet("aa", "b:c"),
		api.ErrStyleChain:  sheet("aa", "b:b"),
	}
}

func TestRefusedSheets(t *testing.T) {
	for want, l := range refused() {
		for _, name := range []string{"aa", "b", "x", "", "A"} {
			if c, e := style.Whole(l, name); e != want || c != (api.Change{}) {
				t.Errorf("Whole(%q) of a sheet with %d: %+v, %d", name, want, c, e)
			}
			for _, names := range [][]string{nil, {name}, {"aa", name}, make([]string, api.MaxStack+1)} { // ahead of all else
				if look, at, e := style.Nest(l, names); e != want || at != 0 || look != (api.Look{}) {
					t.Errorf("Nest(%q) of a sheet with %d: %+v, %d, %d", names, want, look, at, e)
				}
			}
		}
	}
}

func TestWholeOfNoStyle(t *testing.T) {
	for _, l := range [][]api.Style{nil, {}, style.Base(), warned()} {
		for _, name := range append(notNames(), "x", "wa", "warns", "warn:b") {
			if c, e := style.Whole(l, name); e != api.ErrNoStyle || c != (api.Change{}) {
				t.Errorf("Whole(%q): %+v, %d", name, c, e)
			}
		}
	}
}

func wantNest(t *testing.T, l []api.Style, names []string, look api.Look, at int, e api.Errno) {
	t.Helper()
	if gotLook, gotAt, got := style.Nest(l, names); gotLook != look || gotAt != at || got != e {
		t.Errorf("Nest(%q): %+v, %d, %d, want %+v, %d, %d", names, gotLook, gotAt, got, look, at, e)
	}
}

func TestNest(t *testing.T) {
	plain := api.Look{Attr: 0, Color: 7}
	for _, l := range [][]api.Style{nil, {}, style.Base(), warned()} {
		wantNest(t, l, nil, plain, 0, api.OK)
		wantNest(t, l, []string{}, plain, 0, api.OK)
	}
	for _, c := range []struct {
		names string
		want  api.Look
	}{
		{"b", api.Look{Attr: 1, Color: 7}},
		{"b i", api.Look{Attr: 3, Color: 7}},
		{"i b", api.Look{Attr: 3, Color: 7}},
		{"b warn", api.Look{Attr: 4, Color: 1}},
		{"warn b", api.Look{Attr: 5, Color: 1}},
		{"warn warn", api.Look{Attr: 4, Color: 1}},
		{"b i u s m", api.Look{Attr: 31, Color: 7}},
		{"i shout calm", api.Look{Attr: 3, Color: 0}},
		{"i calm shout", api.Look{Attr: 71, Color: 1}},
		{"i calm shout off", api.Look{Attr: 0, Color: 1}},
		{"calm off s", api.Look{Attr: 8, Color: 0}},
	} {
		wantNest(t, warned(), strings.Fields(c.names), c.want, 0, api.OK)
	}
}

func TestNestHowMany(t *testing.T) {
	names := slices.Repeat([]string{"b", "i"}, api.MaxStack/2)
	wantNest(t, style.Base(), names, api.Look{Attr: 3, Color: 7}, 0, api.OK)
	wantNest(t, style.Base(), append(names[:api.MaxStack-1:api.MaxStack-1], "x"), api.Look{}, api.MaxStack-1, api.ErrNoStyle)
	wantNest(t, style.Base(), append(names, "b"), api.Look{}, 0, api.ErrLong)
	wantNest(t, style.Base(), append([]string{"b", "x"}, names...), api.Look{}, 0, api.ErrLong) // ahead of the names
	wantNest(t, nil, make([]string, 100000), api.Look{}, 0, api.ErrLong)
	wantNest(t, style.Base(), append(names, "x")[:2], api.Look{Attr: 3, Color: 7}, 0, api.OK)
}

func TestNestOfNoStyle(t *testing.T) {
	wantNest(t, style.Base(), []string{"b", "x"}, api.Look{}, 1, api.ErrNoStyle)
	wantNest(t, style.Base(), []string{"x"}, api.Look{}, 0, api.ErrNoStyle)
	wantNest(t, style.Base(), []string{"b", "i", "y", "x", "b"}, api.Look{}, 2, api.ErrNoStyle)
	wantNest(t, nil, []string{"b"}, api.Look{}, 0, api.ErrNoStyle)
	for _, n := range notNames() {
		wantNest(t, warned(), []string{"warn", n}, api.Look{}, 1, api.ErrNoStyle)
	}
}
