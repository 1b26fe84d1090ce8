package names_test

import (
	"slices"
	"strings"
	"testing"
	"unicode/utf8"

	"folio/api"
	"folio/fault"
	"folio/names"
	"folio/text"
)

// dice throws numbers that are the same each time.
type dice uint32

func (d *dice) throw(n int) int {
	*d = *d*1664525 + 1013904223
	return int(*d>>8) % n
}

func (d *dice) one(l ...string) string { return l[d.throw(len(l))] }

// text throws one of so many pieces, bad bytes among them.
func (d *dice) text(n int) string {
	var b strings.Builder
	for range n {
		b.WriteString(d.one("a", "b", "c", "A", "é", "中", " ", "\U0001f600", "\xff", "\xfe", "\xc3", "\ufffd"))
	}
	return b.String()
}

// changed throws a text so many changes away from s.
func (d *dice) changed(s string, changes int) string {
	for range changes {
		at := d.throw(len(s) + 1)
		end := at + d.throw(min(4, len(s)-at+1))
		s = s[:at] + d.text(d.throw(2)) + s[end:]
	}
	return s
}

// name throws a text that may be a name, of few letters, so that many begin alike and are near one another.
func (d *dice) name() string {
	var b strings.Builder
	for range 1 + d.throw(6) {
		b.WriteString(d.one("a", "b", "A", "B", "ab", "ä", "Ä", "1", "10", "-", "a b", "  a"))
	}
	return b.String() + strings.Repeat(" ", d.throw(3))
}

// oddName throws one that may be none.
func (d *dice) oddName() string {
	switch d.throw(40) {
	case 0:
		return d.one(badNames()...)
	case 1:
		return d.one(longNames()...)
	}
	return d.name()
}

// like throws a name that is one name with s: in letters of other cases, with other blanks.
func (d *dice) like(s string) string {
	var b strings.Builder
	for _, r := range strings.Trim(s, " ") {
		switch {
		case r == ' ':
			b.WriteString(strings.Repeat(" ", 1+d.throw(2)))
		case d.throw(2) == 0:
			b.WriteString(strings.ToUpper(string(r)))
		default:
			b.WriteString(strings.ToLower(string(r)))
		}
	}
	return strings.Repeat(" ", d.throw(2)) + b.String() + strings.Repeat(" ", d.throw(2))
}

// names throws some that New takes.
func (d *dice) names(most int) []string {
	var l []string
	for range d.throw(most + 1) {
		name := d.name()
		if !slices.ContainsFunc(l, func(s string) bool { return text.Fold(s) == text.Fold(name) }) {
			l = append(l, name)
		}
	}
	return l
}

// A second reckoning of names.

// folded goes by what the library knows of letters, which for those that are thrown here is the same.
func folded(s string) string {
	return strings.Join(strings.FieldsFunc(strings.ToLower(s), func(r rune) bool { return r == ' ' }), " ")
}

func isPlain(s string) bool {
	control := func(r rune) bool { return r < 0x20 || r >= 0x7f && r < 0xa0 }
	return utf8.ValidString(s) && !strings.ContainsFunc(s, control)
}

func reckonedNorm(s string) (string, api.Errno) {
	switch {
	case len(s) >= 65:
		return "", api.ErrLong
	case !isPlain(s), folded(s) == "":
		return "", api.ErrName
	}
	return folded(s), api.OK
}

// reckonedList answers the first name of a list that may not be, and why; the list's length, if all may.
func reckonedList(l []string) (int, api.Errno) {
	for i, name := range l {
		norm, e := reckonedNorm(name)
		if e != api.OK {
			return i, e
		}
		for _, other := range l[:i] {
			if n, _ := reckonedNorm(other); n == norm {
				return i, api.ErrTwice
			}
		}
	}
	return len(l), api.OK
}

// P7.1

func TestNormIsAsReckoned(t *testing.T) {
	d := dice(3)
	for range 20000 {
		s := d.oddName()
		if d.throw(2) == 0 {
			s = d.text(d.throw(30))
		}
		norm, e := reckonedNorm(s)
		wantNorm(t, s, norm, e)
		if e == api.OK {
			wantNorm(t, norm, norm, api.OK)
		}
	}
}

// P7.2, P7.3

func TestListsAreAsReckoned(t *testing.T) {
	d := dice(4)
	told := map[api.Errno]int{}
	for range 5000 {
		l := d.names(12)
		for range d.throw(3) {
			name := d.oddName()
			if len(l) > 0 && d.throw(3) == 0 {
				name = d.like(l[d.throw(len(l))])
			}
			l = slices.Insert(l, d.throw(len(l)+1), name)
		}
		at, e := reckonedList(l)
		told[e]++
		if e == api.OK {
			wantNew(t, l, 0, api.OK)
		} else {
			wantNew(t, l, at, e)
		}
		d.wantCollected(t, l, at, e)
	}
	for _, e := range []api.Errno{api.OK, api.ErrLong, api.ErrName, api.ErrTwice} {
		if told[e] < 40 {
			t.Errorf("%d came %d times alone", e, told[e])
		}
	}
}

// wantCollected lays names into sources by throws; what is wrong with the one at a number, Collect must tell of it.
func (d *dice) wantCollected(t *testing.T, l []string, at int, e api.Errno) {
	t.Helper()
	sources := make([]api.Source, 1+d.throw(4))
	var dir []api.Named
	n := 0
	for _, name := range l {
		if d.throw(3) == 0 {
			n = min(n+1+d.throw(2), len(sources)-1)
		}
		topic := api.Topic{Name: name, Title: d.name(), Kind: d.throw(2), Line: d.throw(500)}
		norm, _ := reckonedNorm(name)
		dir = append(dir, api.Named{Name: name, Norm: norm, Source: n, At: len(sources[n].Topics), Kind: topic.Kind, Line: topic.Line})
		sources[n].Topics = append(sources[n].Topics, topic)
	}
	if e == api.OK {
		wantDir(t, sources, dir...)
	} else {
		wantFault(t, sources, api.Fault{Code: e, Source: dir[at].Source, Line: dir[at].Line, Word: l[at]})
	}
}

// P7.5, P7.9

func TestSortedIsInOrder(t *testing.T) {
	d := dice(5)
	for range 2000 {
		l := d.names(30)
		x := made(t, l...)
		sorted := x.Sorted()
		if rising := slices.Sorted(slices.Values(sorted)); len(rising) != len(l) || !slices.Equal(slices.Compact(rising), rising) {
			t.Fatalf("Sorted of %q: %v", l, sorted)
		}
		for k := range sorted {
			if k > 0 && text.Compare(l[sorted[k-1]], l[sorted[k]]) != -1 {
				t.Fatalf("Sorted of %q: %v, wrong at %d", l, sorted, k)
			}
		}
		wantSorted(t, l, sorted...)
	}
}

// P7.6, P7.7

func TestFound(t *testing.T) {
	d := dice(6)
	for range 2000 {
		l := d.names(30)
		x := made(t, l...)
		for i, name := range l {
			for _, s := range []string{name, d.like(name), d.like(name), text.Fold(name)} {
				wantFind(t, x, s, i, true)
				wantNear(t, x, s, i)
				if !slices.Contains(x.Prefix(s), i) {
					t.Fatalf("Prefix(%q) has no %q", s, name)
				}
			}
		}
		other := d.name()
		i := slices.IndexFunc(l, func(s string) bool { return text.Fold(s) == text.Fold(other) })
		wantFind(t, x, other, max(i, 0), i >= 0)
	}
}

// reckonedPrefix goes over the numbers of names in their order.
func reckonedPrefix(l []string, sorted []int, s string) []int {
	var out []int
	for _, i := range sorted {
		begin, norm := folded(s), folded(l[i])
		if isPlain(s) && len(begin) <= len(norm) && norm[:len(begin)] == begin {
			out = append(out, i)
		}
	}
	return out
}

// reckonedNear asks for each number of steps from none on.
func reckonedNear(l []string, sorted []int, s string) []int {
	norm, e := reckonedNorm(s)
	for steps := 0; steps <= 3 && e == api.OK; steps++ {
		var out []int
		for _, i := range sorted {
			n, _ := reckonedNorm(l[i])
			if reckonedApart([]rune(norm), []rune(n), map[[2]int]int{}) == steps {
				out = append(out, i)
			}
		}
		if len(out) > 0 {
			return out
		}
	}
	return nil
}

func TestPrefixAndNearAreAsReckoned(t *testing.T) {
	d := dice(7)
	several := map[int]int{}
	for range 800 {
		l := d.names(15)
		x := made(t, l...)
		for range 4 {
			s := d.oddName()
			wantPrefix(t, x, s, reckonedPrefix(l, x.Sorted(), s)...)
			near := reckonedNear(l, x.Sorted(), s)
			wantNear(t, x, s, near...)
			several[len(near)]++
		}
	}
	if min(several[0], several[1], several[2], several[3]) < 100 {
		t.Errorf("how many were near, how many times: %v", several)
	}
}

// The chapter's examples

func TestExamples(t *testing.T) {
	wantNorm(t, "  My   Topic ", "my topic", api.OK)
	wantNew(t, []string{"Home", "home "}, 1, api.ErrTwice)
	wantSorted(t, []string{"b10", "b2", "A"}, 2, 1, 0)
	x := made(t, "Home", "Index", "Indices")
	wantFind(t, x, "INDEX", 1, true)
	wantPrefix(t, x, "ind", 1, 2)
	wantNear(t, x, "hoem", 0)
	wantNear(t, x, "indexes", 1, 2)
	wantNear(t, x, "zzzzzz")
	wantApart(t, "hoem", "home", 2)
	wantApart(t, "indexes", "index", 2)
	wantApart(t, "indexes", "indices", 2)
	wantApart(t, "kitten", "sitting", 3)
	wantApart(t, "", "abc", 3)
	_, err := names.Collect([]api.Source{source("Home"), {Topics: []api.Topic{{Name: "HOME", Line: 4}}}})
	if got := fault.Text(err); got != "fault 71 at 1:4:0 HOME" {
		t.Error(got)
	}
}

// What holds everywhere

func TestNothingIsShared(t *testing.T) {
	l := []string{"b10", "b2", "A", "b"}
	x := made(t, l...)
	clear(l) // the table keeps none of it
	for range 2 {
		if name, _ := x.Name(0); name != "b10" {
			t.Errorf("Name(0): %q", name)
		}
		for _, got := range []struct{ is, want []int }{
			{x.Sorted(), []int{2, 3, 1, 0}},
			{x.Prefix("b"), []int{3, 1, 0}},
			{x.Prefix(""), []int{2, 3, 1, 0}},
			{x.Near("b"), []int{3}},
		} {
			if !slices.Equal(got.is, got.want) {
				t.Errorf("%v, want %v", got.is, got.want)
			}
			clear(got.is[:cap(got.is)]) // nor does it hand out any
		}
	}
	wantFind(t, x, "B2", 1, true)

	sources := []api.Source{source("a", "b"), source("c")}
	dir, _ := names.Collect(sources)
	clear(dir[:cap(dir)])
	clear(sources[0].Topics[1:])
	wantDir(t, sources[1:], api.Named{Name: "c", Norm: "c", Line: 10})
	wantFault(t, sources, api.Fault{Code: api.ErrName})
}

func TestNothingIsChanged(t *testing.T) {
	room := []string{"b", "a", "", "a"}
	x := made(t, room[:2]...)
	x.Sorted()
	if !slices.Equal(room, []string{"b", "a", "", "a"}) || x.Len() != 2 {
		t.Errorf("changed: %q", room)
	}
	more := topics("b", "a", "", "a")
	wantDir(t, []api.Source{{Topics: more[:2]}, {}}[:1], api.Named{Name: "b", Norm: "b", Line: 10}, api.Named{Name: "a", Norm: "a", At: 1, Line: 20})
	for i, name := range []string{"b", "a", "", "a"} {
		if more[i].Name != name || more[i].Line != 10*(i+1) {
			t.Errorf("changed: %+v", more)
		}
	}
}

func TestTablesAreTheirOwn(t *testing.T) {
	x := made(t, "one", "two")
	y := made(t, "two", "three", "one")
	wantNew(t, []string{"one", ""}, 1, api.ErrName)
	wantFind(t, x, "two", 1, true)
	wantFind(t, y, "two", 0, true)
	wantFind(t, x, "three", 0, false)
	wantDir(t, []api.Source{source("one")}, api.Named{Name: "one", Norm: "one", Line: 10})
	wantDir(t, []api.Source{source("one")}, api.Named{Name: "one", Norm: "one", Line: 10}) // nothing is kept from the call ahead
}
