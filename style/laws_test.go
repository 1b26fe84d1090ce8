package style_test

import (
	"math"
	"regexp"
	"slices"
	"strconv"
	"strings"
	"testing"

	"folio/api"
	"folio/style"
)

// dice throws numbers that are the same each time.
type dice uint32

func (d *dice) throw(n int) int {
	*d = *d*1664525 + 1013904223
	return int(*d>>8) % n
}

func (d *dice) one(l ...string) string { return l[d.throw(len(l))] }

// change throws one in which no bit is in both, nor beyond the seven.
func (d *dice) change() api.Change {
	on, off := d.throw(128), d.throw(128)
	if d.throw(2) == 0 {
		on &^= off
	} else {
		off &^= on
	}
	return change(on, off, d.throw(17)-1)
}

// odd throws a change of any numbers.
func (d *dice) odd() api.Change {
	n := func() int {
		return []int{0, 1, 3, 64, 127, 128, 255, -1, -128, 1 << 40, math.MaxInt, math.MinInt, d.throw(1 << 20)}[d.throw(13)]
	}
	return change(n(), n(), []int{-1, -1, 0, 15, 16, -2, math.MaxInt, math.MinInt}[d.throw(8)])
}

// sheet throws one that Check takes.
func (d *dice) sheet() []api.Style {
	l := many(1 + d.throw(20))
	for i := range l {
		l[i].Own = d.change()
		if i > 0 && d.throw(4) > 0 {
			l[i].Parent = l[max(0, i-1-d.throw(3))].Name
			if _, e := style.Check(l[:i+1]); e != api.OK { // the chain is too long
				l[i].Parent = ""
			}
		}
	}
	return d.mixed(l)
}

// mixed answers a sheet's styles in another order.
func (d *dice) mixed(l []api.Style) []api.Style {
	out := slices.Clone(l)
	for i := range out {
		j := i + d.throw(len(out)-i)
		out[i], out[j] = out[j], out[i]
	}
	return out
}

// names throws some of a sheet's.
func (d *dice) names(l []api.Style, most int) []string {
	var out []string
	for range d.throw(most + 1) {
		out = append(out, l[d.throw(len(l))].Name)
	}
	return out
}

// A second reckoning of sheets: a style's parents as a list of their names.

// parents answers the names of a style's parents, as far as there are any, but no more than a hundred.
func parents(l []api.Style, s api.Style) []string {
	var out []string
	for len(out) < 100 {
		i := slices.IndexFunc(l, func(p api.Style) bool { return p.Name == s.Parent })
		if s.Parent == "" || i < 0 {
			break
		}
		s = l[i]
		out = append(out, s.Name)
	}
	return out
}

var goodName = regexp.MustCompile(`^[a-z]{1,12}$`)

// reckoned answers what Check must.
func reckoned(l []api.Style) (int, api.Errno) {
	if len(l) > 64 {
		return 0, api.ErrLong
	}
	has := func(l []api.Style, name string) bool {
		return slices.ContainsFunc(l, func(s api.Style) bool { return s.Name == name })
	}
	for i, s := range l {
		on, off := s.Own.On, s.Own.Off
		switch {
		case !goodName.MatchString(s.Name):
			return i, api.ErrStyleName
		case has(l[:i], s.Name):
			return i, api.ErrStyleTwice
		case on < 0 || on > 127 || off < 0 || off > 127 || on+off != on|off:
			return i, api.ErrStyleBits
		case s.Own.Color < -1 || s.Own.Color >= 16:
			return i, api.ErrStyleColor
		}
	}
	for i, s := range l {
		if s.Parent != "" && !has(l, s.Parent) {
			return i, api.ErrStyleParent
		}
		if len(parents(l, s)) >= 8 {
			return i, api.ErrStyleChain
		}
	}
	return 0, api.OK
}

// anySheet throws one in which much may be wrong.
func (d *dice) anySheet() []api.Style {
	l := d.sheet()
	for range d.throw(3) {
		i, j := d.throw(len(l)), d.throw(len(l))
		switch d.throw(9) {
		case 0:
			l[i].Name = d.one(notNames()...)
		case 1:
			l[i].Name = l[j].Name
		case 2:
			l[i].Own = d.odd()
		case 3:
			l[i].Own.Color = d.throw(20) - 2
		case 4:
			l[i].Parent = d.one("none", "B", "aaa")
		default:
			l[i].Parent = l[j].Name
		}
	}
	return l
}

func TestCheckIsAsReckoned(t *testing.T) {
	d := dice(1)
	told := map[api.Errno]int{}
	for range 20000 {
		l := d.anySheet()
		at, e := reckoned(l)
		wantCheck(t, l, at, e)
		told[e]++
		name := l[d.throw(len(l))].Name
		if _, got := style.Whole(l, name); got != e {
			t.Errorf("Whole(%+v, %q): %d, want %d", l, name, got, e)
		}
	}
	for _, e := range []api.Errno{api.OK, api.ErrStyleName, api.ErrStyleTwice, api.ErrStyleBits, api.ErrStyleColor, api.ErrStyleParent, api.ErrStyleChain} {
		if told[e] < 100 {
			t.Errorf("%d came %d times alone", e, told[e])
		}
	}
}

// A second reckoning of changes: bit by bit.

// sides answers whether a bit is in On, and whether in Off.
func sides(c api.Change, bit int) (bool, bool) { return c.On>>bit&1 == 1, c.Off>>bit&1 == 1 }

func TestThenIsAsReckoned(t *testing.T) {
	d := dice(2)
	for range 5000 {
		a, b := d.odd(), d.odd()
		if d.throw(2) == 0 {
			a, b = d.change(), d.change()
		}
		c := style.Then(a, b)
		for bit := range 64 {
			aOn, aOff := sides(a, bit)
			bOn, bOff := sides(b, bit)
			on, off := sides(c, bit)
			if on != (bOn || aOn && !bOff) || off != (bOff || aOff && !bOn) {
				t.Fatalf("Then(%+v, %+v): %+v, wrong at the bit %d", a, b, c, bit)
			}
		}
		l := api.Look{Attr: d.odd().On, Color: d.odd().Color}
		after := style.Apply(l, a)
		for bit := range 64 {
			on, off := sides(a, bit)
			was, is := l.Attr>>bit&1 == 1, after.Attr>>bit&1 == 1
			if is != ((was || on) && !off) {
				t.Fatalf("Apply(%+v, %+v): %+v, wrong at the bit %d", l, a, after, bit)
			}
		}
	}
}

// P6.6

func TestOneBehindTheOther(t *testing.T) {
	d := dice(3)
	apart := func() api.Change { // bits beyond the seven, too, but none in both
		c := d.odd()
		c.Off &^= c.On
		return c
	}
	for i := range 20000 {
		a, b, c := d.change(), d.change(), d.change()
		if i%2 == 1 {
			a, b, c = apart(), apart(), apart()
		}
		l := api.Look{Attr: d.odd().On, Color: d.odd().Color}
		if one, two := style.Apply(style.Apply(l, a), b), style.Apply(l, style.Then(a, b)); one != two {
			t.Fatalf("%+v with %+v, %+v: %+v, %+v", l, a, b, one, two)
		}
		if one, two := style.Then(style.Then(a, b), c), style.Then(a, style.Then(b, c)); one != two {
			t.Fatalf("Then of %+v, %+v, %+v: %+v, %+v", a, b, c, one, two)
		}
		if style.Then(none(), a) != a || style.Then(a, none()) != a || style.Apply(l, none()) != l {
			t.Fatalf("%+v with what changes nothing", a)
		}
		if both := style.Then(a, b); both.On&both.Off != 0 {
			t.Fatalf("Then(%+v, %+v): %+v", a, b, both)
		}
	}
}

// P6.4, P6.7

func TestNests(t *testing.T) {
	d := dice(4)
	for range 3000 {
		l := d.sheet()
		first, second := d.names(l, api.MaxStack/2), d.names(l, api.MaxStack/2)
		look, at, e := style.Nest(l, first)
		if at != 0 || e != api.OK {
			t.Fatalf("Nest(%+v, %q): %d, %d", l, first, at, e)
		}
		for _, n := range second {
			c, e := style.Whole(l, n)
			if e != api.OK {
				t.Fatalf("Whole(%+v, %q): %d", l, n, e)
			}
			look = style.Apply(look, c)
		}
		wantNest(t, l, slices.Concat(first, second), look, 0, api.OK)
		if len(second) > 0 {
			wantNest(t, l, slices.Concat(first, second, second[len(second)-1:])[:min(len(first)+len(second)+1, api.MaxStack)], look, 0, api.OK)
		}
	}
}

func TestWholeIsThatOfTheParentAndItsOwn(t *testing.T) {
	d := dice(5)
	for range 2000 {
		l := d.sheet()
		for _, s := range l {
			want := none()
			if s.Parent != "" {
				want, _ = style.Whole(l, s.Parent)
			}
			want = style.Then(want, s.Own)
			if c, e := style.Whole(l, s.Name); e != api.OK || c != want {
				t.Fatalf("Whole(%+v, %q): %+v, %d, want %+v", l, s.Name, c, e, want)
			}
			look := api.Look{Attr: want.On, Color: want.Color}
			if want.Color == -1 {
				look.Color = 7
			}
			wantNest(t, l, []string{s.Name}, look, 0, api.OK)
		}
	}
}

// A second reckoning of texts: a pattern, and how often each bit and the color come.

var (
	styleText = regexp.MustCompile(`^ *([a-z]{1,12})(?::([a-z]{1,12}))?((?: +(?:[+-](?:bold|italic|under|strike|mono|small|reverse)|color +(?:[0-9]|1[0-5])))*) *$`)
	styleBit  = regexp.MustCompile(`([+-])(\w+)`)
	styleInk  = regexp.MustCompile(`color +(\d+)`)
)

// read answers what Parse must tell, and whether it takes the text.
func read(s string) (api.Style, bool) {
	m := styleText.FindStringSubmatch(s)
	if m == nil {
		return api.Style{}, false
	}
	out := api.Style{Name: m[1], Parent: m[2], Own: none()}
	seen := map[string]bool{}
	for _, b := range styleBit.FindAllStringSubmatch(m[3], -1) {
		if seen[b[2]] {
			return api.Style{}, false
		}
		seen[b[2]] = true
		bit := 1 << slices.Index([]string{"bold", "italic", "under", "strike", "mono", "small", "reverse"}, b[2])
		if b[1] == "+" {
			out.Own.On += bit
		} else {
			out.Own.Off += bit
		}
	}
	inks := styleInk.FindAllStringSubmatch(m[3], -1)
	if len(inks) > 1 {
		return api.Style{}, false
	}
	if len(inks) == 1 {
		out.Own.Color, _ = strconv.Atoi(inks[0][1])
	}
	return out, true
}

// text throws one that may be a style's.
func (d *dice) text() string {
	var b strings.Builder
	b.WriteString(d.one("", "", " ", "  "))
	b.WriteString(d.one("warn", "a", "b", "abcdefghijkl", "color", "bold", "warn", "a", "B", "abcdefghijklm", ""))
	b.WriteString(d.one("", "", "", ":b", ":color", ":", ":a:b", ":B", " :b"))
	for range d.throw(6) {
		b.WriteString(d.one(" ", " ", " ", "  ", "   ", " ", " ", " ", "", "\t"))
		switch n := d.throw(20); {
		case n < 12:
			b.WriteString(d.one("+", "-") + d.one("bold", "italic", "under", "strike", "mono", "small", "reverse"))
		case n < 17:
			b.WriteString("color" + d.one(" ", " ", "  ", "") + d.one(strconv.Itoa(d.throw(18)), strconv.Itoa(d.throw(18)), "07", "-1", ""))
		case n == 17:
			b.WriteString(d.one("bold", "+fat", "+", "-", "++bold", "+bold\xff", "-colour"))
		}
	}
	b.WriteString(d.one("", "", " ", "  "))
	return b.String()
}

func TestParseIsAsReckoned(t *testing.T) {
	d := dice(6)
	taken := 0
	for range 40000 {
		text := d.text()
		want, ok := read(text)
		if !ok {
			wantParse(t, text, api.Style{}, api.ErrStyleText)
			continue
		}
		wantParse(t, text, want, api.OK)
		taken++
	}
	if taken < 5000 {
		t.Errorf("%d texts alone were a style's", taken)
	}
}

// P6.8

func TestThereAndBack(t *testing.T) {
	d := dice(7)
	for range 10000 {
		s := named(d.one(names()...))
		s.Parent = d.one(append(names(), "", "", "")...)
		s.Own = d.change()
		text, e := style.Write(s)
		if e != api.OK {
			t.Fatalf("Write(%+v): %d", s, e)
		}
		wantParse(t, text, s, api.OK)
	}
	for range 10000 {
		text := d.text()
		s, e := style.Parse(text)
		if e != api.OK {
			continue
		}
		form, e := style.Write(s)
		if e != api.OK {
			t.Fatalf("Write of what Parse(%q) tells, %+v: %d", text, s, e)
		}
		wantParse(t, form, s, api.OK)
		wantWrite(t, s, form, api.OK)
	}
}

func TestWriteTakesWhatCheckTakes(t *testing.T) {
	d := dice(8)
	for range 10000 {
		s := d.anySheet()[0]
		_, e := style.Check([]api.Style{s})
		if e == api.ErrStyleParent || e == api.ErrStyleChain {
			e = api.OK // it has no parent in a sheet by itself
		}
		if e == api.OK && s.Parent != "" && !goodName.MatchString(s.Parent) {
			e = api.ErrStyleParent
		}
		text, got := style.Write(s)
		if got != e || (e != api.OK) != (text == "") {
			t.Errorf("Write(%+v): %q, %d, want %d", s, text, got, e)
		}
	}
}

// P6.9

func TestOrderIsNoMatter(t *testing.T) {
	d := dice(9)
	for range 2000 {
		l := d.sheet()
		m := d.mixed(l)
		wantCheck(t, m, 0, api.OK)
		for _, s := range l {
			one, e := style.Whole(l, s.Name)
			if two, f := style.Whole(m, s.Name); two != one || e != api.OK || f != api.OK {
				t.Fatalf("Whole of %q: %+v of %+v, %+v of %+v", s.Name, one, l, two, m)
			}
		}
	}
}

func TestOneThatIsNoParentMayBeTakenOut(t *testing.T) {
	d := dice(10)
	for range 2000 {
		l := d.sheet()
		i := slices.IndexFunc(l, func(s api.Style) bool {
			return !slices.ContainsFunc(l, func(c api.Style) bool { return c.Parent == s.Name })
		})
		less := slices.Delete(slices.Clone(l), i, i+1)
		wantCheck(t, less, 0, api.OK)
		for _, s := range less {
			one, _ := style.Whole(l, s.Name)
			if two, e := style.Whole(less, s.Name); two != one || e != api.OK {
				t.Fatalf("Whole of %q without %q: %+v, %d, not %+v", s.Name, l[i].Name, two, e, one)
			}
		}
		if _, e := style.Whole(less, l[i].Name); e != api.ErrNoStyle {
			t.Fatalf("Whole of %q, which was taken out: %d", l[i].Name, e)
		}
	}
}

// The chapter's examples

func TestExamples(t *testing.T) {
	l := append(style.Base(), doing("warn:b", api.AttrUnder, api.AttrBold, 1))
	if c, e := style.Whole(style.Base(), "h"); c != change(5, 0, -1) || e != api.OK {
		t.Error(c, e)
	}
	if c, e := style.Whole(l, "warn"); c != change(4, 1, 1) || e != api.OK {
		t.Error(c, e)
	}
	wantNest(t, style.Base(), []string{"b", "i"}, api.Look{Attr: 3, Color: 7}, 0, api.OK)
	wantNest(t, l, []string{"b", "warn"}, api.Look{Attr: 4, Color: 1}, 0, api.OK)
	wantNest(t, style.Base(), []string{"b", "x"}, api.Look{}, 1, api.ErrNoStyle)
	wantCheck(t, sheet("a:b", "b:a"), 0, api.ErrStyleChain)
	wantCheck(t, sheet("a", "a"), 1, api.ErrStyleTwice)
	wantParse(t, " warn:b  color 1 +under -bold ", l[6], api.OK)
	wantWrite(t, l[6], "warn:b +under -bold color 1", api.OK)
	wantParse(t, "b +bold -bold", api.Style{}, api.ErrStyleText)
	if c := style.Then(change(1, 0, -1), change(0, 1, 3)); c != change(0, 1, 3) {
		t.Error(c)
	}
}

// What holds everywhere

func TestNothingIsChanged(t *testing.T) {
	d := dice(11)
	for range 3000 {
		l := d.anySheet()
		list := d.names(l, 9)
		keptStyles, keptNames := slices.Clone(l), slices.Clone(list)
		for range 2 { // a second time as the first
			at, e := style.Check(l)
			wantAt, want := reckoned(keptStyles)
			if at != wantAt || e != want {
				t.Fatalf("Check(%+v): %d, %d", l, at, e)
			}
			style.Find(l, l[0].Name)
			style.Whole(l, l[0].Name)
			style.Nest(l, list)
		}
		if !slices.Equal(l, keptStyles) || !slices.Equal(list, keptNames) {
			t.Fatalf("%+v, %q were changed to %+v, %q", keptStyles, keptNames, l, list)
		}
	}
}

func TestWhatLiesBehindIsNotRead(t *testing.T) {
	l := warned()
	room := append(slices.Clone(l), api.Style{Name: "A"}, api.Style{Name: "x"})
	wantCheck(t, room[:len(l)], 0, api.OK)
	if _, e := style.Whole(room[:len(l)], "x"); e != api.ErrNoStyle {
		t.Error(e)
	}
	wantNest(t, room[:len(l)], []string{"b", "x"}[:1], api.Look{Attr: 1, Color: 7}, 0, api.OK)
	if room[len(l)].Name != "A" || room[len(l)+1].Name != "x" {
		t.Error("what lies behind was written")
	}
}

func TestOddArgumentsEnd(t *testing.T) {
	bytes := make([]byte, 0, 600)
	for b := range 256 {
		bytes = append(bytes, byte(b), ' ')
	}
	for _, s := range []string{string(bytes), "a" + string(bytes), strings.Repeat("+bold ", 5000), strings.Repeat(":", 4000), strings.Repeat("color ", 680), strings.Repeat("a ", 2048)} {
		if out, e := style.Parse(s); e == api.OK || out != (api.Style{}) {
			t.Errorf("Parse(%.30q): %+v, %d", s, out, e)
		}
	}
	huge := make([]api.Style, 200000)
	if at, ok := style.Find(huge, "a"); at != 0 || ok {
		t.Error(at, ok)
	}
	wantCheck(t, huge, 0, api.ErrLong)
	wantNest(t, huge, nil, api.Look{}, 0, api.ErrLong)
}
