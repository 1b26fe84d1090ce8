package names_test

import (
	"errors"
	"math"
	"slices"
	"strconv"
	"strings"
	"testing"

	"folio/api"
	"folio/fault"
	"folio/names"
	"folio/src"
)

// longest is a name as long as may be.
func longest() string { return strings.Repeat("n", api.MaxName) }

// badNames are texts that may be no name, though they are not too long.
func badNames() []string {
	return []string{
		"", " ", "   ", strings.Repeat(" ", api.MaxName),
		"\t", "a\t", "\ta", "a\tb", "a\nb", "\r", "\x00", "a\x1f", "\x7f", "a\u0080b", "\u0085", "a\u009f",
		"\xff", "a\xffb", "a \xc3", "\xa9a", "\xed\xa0\x80", "\xe4\xb8", "\xc0\x80",
	}
}

// longNames are too long ones, some of which would not be taken if they were short either.
func longNames() []string {
	return []string{
		strings.Repeat("a", api.MaxName+1),
		strings.Repeat(" ", api.MaxName+1),
		strings.Repeat("a", api.MaxName) + " ",
		" a" + strings.Repeat(" ", api.MaxName),
		strings.Repeat("é", api.MaxName/2) + "e",
		strings.Repeat("\xff", api.MaxName+1),
		strings.Repeat("\x00", api.MaxName+1),
		strings.Repeat("中", api.MaxName),
		strings.Repeat("long ", 100000),
	}
}

// P7.1

func wantNorm(t *testing.T, s, norm string, e api.Errno) {
	t.Helper()
	if gotNorm, got := names.Norm(s); gotNorm != norm || got != e {
		t.Errorf("Norm(%.80q): %q, %d, want %q, %d", s, gotNorm, got, norm, e)
	}
}

func TestNorm(t *testing.T) {
	for s, norm := range map[string]string{
		"a":                                      "a",
		"A":                                      "a",
		"  My   Topic ":                          "my topic",
		"my topic":                               "my topic",
		"Übersicht ÆØ":                           "übersicht æø",
		"ПРИВЕТ Ёлка":                            "привет ёлка",
		"ΑΒΩ":                                    "αβω",
		"中 文":                                    "中 文",
		"e\u0301":                                "e\u0301", // a mark of its own is not the letter with it
		"É":                                      "é",
		"7":                                      "7",
		"007":                                    "007", // folding is no reckoning
		"-":                                      "-",
		"{link|x}":                               "{link|x}",
		".topic":                                 ".topic",
		"\u00a0":                                 "\u00a0", // no other character is a blank
		"A\u00a0 \u00a0B":                        "a\u00a0 \u00a0b",
		"\ufffd":                                 "\ufffd", // good in its own bytes
		"\u0300":                                 "\u0300",
		"\u200b":                                 "\u200b",
		"a\u00a0":                                "a\u00a0",
		"~":                                      "~",
		"ẞ":                                      "ẞ",
		"\U0001f600 X":                           "\U0001f600 x",
		longest():                                longest(),
		"N" + longest()[:63]:                     longest(),
		longest()[:62] + "  ":                    longest()[:62],
		strings.Repeat(" ", api.MaxName-1) + "A": "a",
		strings.Repeat("É", api.MaxName/2):       strings.Repeat("é", api.MaxName/2),
		strings.Repeat("中", api.MaxName/3) + "A":  strings.Repeat("中", api.MaxName/3) + "a",
		"a" + strings.Repeat(" ", 62) + "B":       "a b",
		strings.Repeat("a ", api.MaxName/2):       strings.Repeat("a ", api.MaxName/2-1) + "a",
		strings.Repeat("\U0001f600", 16):          strings.Repeat("\U0001f600", 16),
		"A" + strings.Repeat("\U0001f600", 15):    "a" + strings.Repeat("\U0001f600", 15),
		"  " + strings.Repeat("Ж", 15) + "      ": strings.Repeat("ж", 15),
	} {
		wantNorm(t, s, norm, api.OK)
	}
}

func TestNormRefuses(t *testing.T) {
	for _, s := range badNames() {
		wantNorm(t, s, "", api.ErrName)
	}
	for _, s := range longNames() { // ahead of all else
		wantNorm(t, s, "", api.ErrLong)
	}
	for n := range 200 {
		e := api.OK
		switch {
		case n > 64:
			e = api.ErrLong
		case n == 0:
			e = api.ErrName
		}
		if _, got := names.Norm(strings.Repeat("x", n)); got != e {
			t.Errorf("Norm of %d bytes: %d", n, got)
		}
	}
}

func TestNormOfEachCharacter(t *testing.T) {
	for r := rune(0); r < 0x500; r++ {
		e := api.OK
		if r < 0x20 || r >= 0x7f && r <= 0x9f {
			e = api.ErrName
		}
		if _, got := names.Norm("a" + string(r) + "b"); got != e {
			t.Errorf("Norm with U+%04X: %d", r, got)
		}
	}
	for b := 0x80; b < 0x100; b++ {
		wantNorm(t, "a"+string([]byte{byte(b)})+"b", "", api.ErrName)
	}
}

// P7.2

// topics answers topics of these names, each with a line of its own.
func topics(l ...string) []api.Topic {
	var out []api.Topic
	for i, name := range l {
		out = append(out, api.Topic{Name: name, Line: 10 * (i + 1)})
	}
	return out
}

// source answers one with topics of these names.
func source(l ...string) api.Source { return api.Source{Topics: topics(l...)} }

// manyNames answers so many names, no two alike.
func manyNames(n int) []string {
	var l []string
	for i := range n {
		l = append(l, "Name "+strconv.Itoa(i))
	}
	return l
}

func wantDir(t *testing.T, l []api.Source, dir ...api.Named) {
	t.Helper()
	got, err := names.Collect(l)
	if err != nil || !slices.Equal(got, dir) {
		t.Errorf("Collect: %+v, %v, want %+v", got, err, dir)
	}
}

func wantFault(t *testing.T, l []api.Source, f api.Fault) {
	t.Helper()
	dir, err := names.Collect(l)
	if len(dir) != 0 {
		t.Errorf("Collect with a fault tells %d topics", len(dir))
	}
	all := fault.All(err)
	if len(all) != 1 || len(all[0].Trail) != 0 {
		t.Errorf("Collect: %+v, want %+v alone", all, f)
		return
	}
	got := all[0]
	if got.Code != f.Code || got.Source != f.Source || got.Line != f.Line || got.Col != 0 || got.Word != f.Word {
		t.Errorf("Collect: %+v, want %+v", got, f)
	}
	var e *fault.Error
	if !errors.As(err, &e) || !errors.Is(err, fault.Code(f.Code)) || !fault.Is(err, f.Code) {
		t.Errorf("%v is no error of ours", err)
	}
}

func TestCollect(t *testing.T) {
	wantDir(t, nil)
	wantDir(t, []api.Source{})
	wantDir(t, make([]api.Source, api.MaxSources))
	wantDir(t, []api.Source{{Styles: []api.StyleDef{{Text: "a"}}}, {Topics: []api.Topic{}}})
	wantDir(t, []api.Source{source("Home")}, api.Named{Name: "Home", Norm: "home", Line: 10})
	wantDir(t, []api.Source{
		source("Home", "  My   Topic "),
		{},
		{Topics: []api.Topic{{Kind: api.KindNote, Name: "Ä", Title: "home", Line: 3, Level: 2}}},
		{Topics: []api.Topic{
			{Name: "b2", Line: 1, Keys: []api.KeyRef{{Term: "home"}}, Blocks: []api.Block{{Kind: api.BlockPara}}},
			{Name: "A", Line: 9},
			{Kind: api.KindNote, Name: "a b", Line: 7},
		}},
	},
		api.Named{Name: "Home", Norm: "home", Source: 0, At: 0, Line: 10},
		api.Named{Name: "  My   Topic ", Norm: "my topic", Source: 0, At: 1, Line: 20},
		api.Named{Name: "Ä", Norm: "ä", Source: 2, At: 0, Kind: 1, Line: 3},
		api.Named{Name: "b2", Norm: "b2", Source: 3, At: 0, Line: 1},
		api.Named{Name: "A", Norm: "a", Source: 3, At: 1, Line: 9},
		api.Named{Name: "a b", Norm: "a b", Source: 3, At: 2, Kind: 1, Line: 7},
	)
	wantDir(t, []api.Source{{Topics: []api.Topic{{Kind: 7, Name: longest(), Line: -4}, {Kind: math.MinInt, Name: "x", Line: math.MaxInt}}}}, // of what nobody read
		api.Named{Name: longest(), Norm: longest(), Kind: 7, Line: -4},
		api.Named{Name: "x", Norm: "x", At: 1, Kind: math.MinInt, Line: math.MaxInt},
	)
}

func TestCollectOfWhatWasRead(t *testing.T) {
	var l []api.Source
	for _, text := range []string{"# one\n.topic  Home | Start\nHi.\n.note Tip\nx\n", ".style a\n", "\n\n.topic a  B\n"} {
		s, err := src.Parse(text)
		if err != nil {
			t.Fatal(err)
		}
		l = append(l, s)
	}
	wantDir(t, l,
		api.Named{Name: "Home", Norm: "home", Source: 0, At: 0, Kind: api.KindTopic, Line: 2},
		api.Named{Name: "Tip", Norm: "tip", Source: 0, At: 1, Kind: api.KindNote, Line: 4},
		api.Named{Name: "a B", Norm: "a b", Source: 2, At: 0, Kind: api.KindTopic, Line: 3},
	)
}

func TestCollectHowMany(t *testing.T) {
	l := make([]api.Source, api.MaxSources)
	l[63] = source("last")
	wantDir(t, l, api.Named{Name: "last", Norm: "last", Source: 63, Line: 10})
	wantFault(t, append(l, api.Source{}), api.Fault{Code: api.ErrLong})
	wantFault(t, make([]api.Source, 100000), api.Fault{Code: api.ErrLong})

	most := manyNames(api.MaxTopics)
	for _, l := range [][]api.Source{
		{source(most...)},
		{source(most[:1]...), {}, source(most[1:]...)},
		{source(most[:500]...), source(most[500:999]...), source(most[999:]...)},
	} {
		dir, err := names.Collect(l)
		if err != nil || len(dir) != api.MaxTopics {
			t.Fatalf("Collect of the most topics: %d, %v", len(dir), err)
		}
		for i, d := range dir {
			if d.Name != most[i] {
				t.Fatalf("the topic %d: %+v", i, d)
			}
		}
		one := l[len(l)-1]
		one.Topics = append(slices.Clone(one.Topics), api.Topic{Name: "one more", Line: 5})
		wantFault(t, append(slices.Clone(l[:len(l)-1]), one), api.Fault{Code: api.ErrLong})
		wantFault(t, append(slices.Clone(l), source("one more")), api.Fault{Code: api.ErrLong})
	}
}

func TestCollectHowManyIsAheadOfAllElse(t *testing.T) {
	l := make([]api.Source, api.MaxSources+1)
	l[0] = source("", "a", "a")
	wantFault(t, l, api.Fault{Code: api.ErrLong})
	wantFault(t, []api.Source{source("", "a", "a"), source(manyNames(api.MaxTopics)...)}, api.Fault{Code: api.ErrLong})
	wantFault(t, []api.Source{source(slices.Repeat([]string{"a"}, api.MaxTopics+1)...)}, api.Fault{Code: api.ErrLong})
	wantFault(t, []api.Source{source(slices.Repeat([]string{"a"}, api.MaxTopics)...)}, api.Fault{Code: api.ErrTwice, Line: 20, Word: "a"})
}

func TestCollectNames(t *testing.T) {
	for _, name := range badNames() {
		wantFault(t, []api.Source{source(name)}, api.Fault{Code: api.ErrName, Line: 10, Word: name})
		wantFault(t, []api.Source{source("a"), {}, source("b", name, "c")}, api.Fault{Code: api.ErrName, Source: 2, Line: 20, Word: name})
	}
	for _, name := range longNames() {
		wantFault(t, []api.Source{source("a", "b"), source("c", "d", name)}, api.Fault{Code: api.ErrLong, Source: 1, Line: 30, Word: name})
	}
	l := []api.Source{{}, {Topics: []api.Topic{{Name: "", Kind: api.KindNote, Line: -7}}}}
	wantFault(t, l, api.Fault{Code: api.ErrName, Source: 1, Line: -7})
}

// likes are names that are one name.
func likes() [][2]string {
	return [][2]string{
		{"Home", "Home"}, {"Home", "HOME"}, {"home", "Home "}, {" home", "home"}, {"a b", "A   B"}, {"Äpfel", "äpfel"},
		{"ЁЖ", "ёж"}, {"Ω", "ω"}, {"ö  Ö", " Ö ö"}, {longest(), strings.ToUpper(longest())},
		{"x", strings.Repeat(" ", api.MaxName-1) + "X"},
	}
}

// unlikes are names that aren't.
func unlikes() [][2]string {
	return [][2]string{
		{"Home", "Homes"}, {"a b", "ab"}, {"ä", "a"}, {"ß", "ss"}, {"ẞ", "ß"}, {"é", "e\u0301"}, {"a2", "a02"}, {"a\u00a0b", "a b"},
		{"А", "A"}, {"Ā", "ā"}, {"a", "a\u200b"}, {"-", "_"}, {longest(), longest()[1:]},
	}
}

func TestCollectTwice(t *testing.T) {
	for _, p := range likes() {
		wantFault(t, []api.Source{source(p[0], p[1])}, api.Fault{Code: api.ErrTwice, Line: 20, Word: p[1]})
		wantFault(t, []api.Source{source(p[0]), source("other"), source("third", "fourth", p[1], "fifth")}, api.Fault{Code: api.ErrTwice, Source: 2, Line: 30, Word: p[1]})
	}
	for _, p := range unlikes() {
		if dir, err := names.Collect([]api.Source{source(p[0]), source(p[1])}); err != nil || len(dir) != 2 {
			t.Errorf("Collect of %q: %v", p, err)
		}
	}
	wantFault(t, []api.Source{ // a note and a topic of one name, of other titles
		{Topics: []api.Topic{{Name: "Tip", Title: "x", Line: 1}, {Kind: api.KindNote, Name: "TIP", Title: "y", Line: 6}}},
	}, api.Fault{Code: api.ErrTwice, Line: 6, Word: "TIP"})
	most := append(manyNames(api.MaxTopics-1), "name  0")
	wantFault(t, []api.Source{source(most...)}, api.Fault{Code: api.ErrTwice, Line: 10000, Word: "name  0"})
}

func TestCollectFirst(t *testing.T) {
	long := longNames()[0]
	for _, c := range []struct {
		l []api.Source
		f api.Fault
	}{
		{[]api.Source{source("a", "", long)}, api.Fault{Code: api.ErrName, Line: 20}},
		{[]api.Source{source("a", long, "")}, api.Fault{Code: api.ErrLong, Line: 20, Word: long}},
		{[]api.Source{source("a", "A", "")}, api.Fault{Code: api.ErrTwice, Line: 20, Word: "A"}},
		{[]api.Source{source("a", "\t", "a")}, api.Fault{Code: api.ErrName, Line: 20, Word: "\t"}},
		{[]api.Source{source("a", "b"), source("B", "\xff")}, api.Fault{Code: api.ErrTwice, Source: 1, Line: 10, Word: "B"}},
		{[]api.Source{source("a", "b", "B"), source("")}, api.Fault{Code: api.ErrTwice, Line: 30, Word: "B"}},
		{[]api.Source{source("a", "b", "b", "a")}, api.Fault{Code: api.ErrTwice, Line: 30, Word: "b"}},
		{[]api.Source{source("\xff", "\xff")}, api.Fault{Code: api.ErrName, Line: 10, Word: "\xff"}},
		{[]api.Source{{Topics: []api.Topic{{Name: "a", Line: 9}, {Name: "b", Line: 8}, {Name: "a", Line: 7}, {Name: "b", Line: 1}}}}, api.Fault{Code: api.ErrTwice, Line: 7, Word: "a"}}, // by their order, not by their lines
	} {
		wantFault(t, c.l, c.f)
	}
}
