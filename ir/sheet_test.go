package ir_test

import (
	"errors"
	"slices"
	"strconv"
	"strings"
	"testing"

	"folio/api"
	"folio/fault"
	"folio/ir"
	"folio/src"
	"folio/style"
)

// P11.1

// styled answers a source of these styles, in the lines 3, 6, 9 and so on.
func styled(texts ...string) api.Source {
	var s api.Source
	for n, text := range texts {
		s.Styles = append(s.Styles, api.StyleDef{Text: text, Line: 3 * (n + 1)})
	}
	return s
}

// letters answers a style's name for each number below 26 times 26.
func letters(n int) string { return "x" + string(rune('a'+n/26)) + string(rune('a'+n%26)) }

func wantSheet(t *testing.T, l []api.Source, want ...api.Style) {
	t.Helper()
	got, err := ir.Sheet(l)
	if all := append(style.Base(), want...); err != nil || !slices.Equal(got, all) {
		t.Errorf("Sheet of %v: %v, %v, want %v", short(l), short(got), err, short(all))
	}
}

func wantSheetFault(t *testing.T, l []api.Source, f api.Fault) {
	t.Helper()
	got, err := ir.Sheet(l)
	if len(got) != 0 {
		t.Errorf("Sheet with a fault tells %d styles", len(got))
	}
	wantFaultOf(t, "Sheet", err, f)
}

// wantFaultOf asks an error for its one fault.
func wantFaultOf(t *testing.T, what string, err error, f api.Fault) {
	t.Helper()
	all := fault.All(err)
	if len(all) != 1 || len(all[0].Trail) != 0 {
		t.Errorf("%s tells the faults %v, want %d alone", what, all, f.Code)
		return
	}
	got := all[0]
	if got.Code != f.Code || got.Source != f.Source || got.Line != f.Line || got.Col != f.Col || got.Word != f.Word {
		t.Errorf("%s: %d in %d at %d:%d %.80q, want %d in %d at %d:%d %.80q", what, got.Code, got.Source, got.Line, got.Col, got.Word, f.Code, f.Source, f.Line, f.Col, f.Word)
	}
	var e *fault.Error
	if !errors.As(err, &e) || !errors.Is(err, fault.Code(f.Code)) || !fault.Is(err, f.Code) {
		t.Errorf("%s: %v is no error of ours", what, err)
	}
}

func TestSheetOfNoStyles(t *testing.T) {
	for _, l := range [][]api.Source{
		nil, {}, {{}}, {{Styles: []api.StyleDef{}}}, make([]api.Source, api.MaxSources+1),
		{{Topics: []api.Topic{{Name: "a", Blocks: []api.Block{{Kind: api.BlockPara, Style: "none"}}}}}},
	} {
		wantSheet(t, l)
	}
}

func TestSheet(t *testing.T) {
	wantSheet(t, []api.Source{styled("warn:b color 1", " note -bold  +under "), {}, styled(), styled("loud:warn +small")},
		api.Style{Name: "warn", Parent: "b", Own: api.Change{Color: 1}},
		api.Style{Name: "note", Own: api.Change{On: api.AttrUnder, Off: api.AttrBold, Color: -1}},
		api.Style{Name: "loud", Parent: "warn", Own: api.Change{On: api.AttrSmall, Color: -1}},
	)
	// a parent may stand behind the style that names it, and in another source
	wantSheet(t, []api.Source{styled("x:y"), styled("y")},
		api.Style{Name: "x", Parent: "y", Own: api.Change{Color: -1}}, api.Style{Name: "y", Own: api.Change{Color: -1}})
}

func TestSheetOfWhatWasRead(t *testing.T) {
	one, err1 := src.Parse(".style warn:h +italic\n.topic a\nx\n")
	two, err2 := src.Parse("# none\n.topic b\n")
	three, err3 := src.Parse("\n.style  dim   color  8\n")
	if err := errors.Join(err1, err2, err3); err != nil {
		t.Fatal(err)
	}
	wantSheet(t, []api.Source{one, two, three},
		api.Style{Name: "warn", Parent: "h", Own: api.Change{On: api.AttrItalic, Color: -1}},
		api.Style{Name: "dim", Own: api.Change{Color: 8}})
}

func TestSheetOfTextsThatAreNone(t *testing.T) {
	for _, text := range []string{"", " ", "B", "b +bold -bold", "warn:", "x color 16", "x color", "x y", "abcdefghijklm", "x\t", "x:y:z", "\xff"} {
		wantSheetFault(t, []api.Source{{}, styled("x", "y", text)}, api.Fault{Code: api.ErrStyleText, Source: 1, Line: 9, Word: text})
	}
	long := "x" + strings.Repeat(" ", api.MaxLine)
	wantSheetFault(t, []api.Source{styled(long)}, api.Fault{Code: api.ErrLong, Line: 3, Word: long})
	wantSheet(t, []api.Source{styled(long[:api.MaxLine])}, api.Style{Name: "x", Own: api.Change{Color: -1}})
}

func TestSheetOfStylesThatMayNotBe(t *testing.T) {
	wantSheetFault(t, []api.Source{styled("x"), styled("y", "x +bold")}, api.Fault{Code: api.ErrStyleTwice, Source: 1, Line: 6, Word: "x"})
	wantSheetFault(t, []api.Source{styled("a", " b  color 1")}, api.Fault{Code: api.ErrStyleTwice, Line: 6, Word: "b"}) // a base one
	wantSheetFault(t, []api.Source{{}, {}, styled("x:none")}, api.Fault{Code: api.ErrStyleParent, Source: 2, Line: 3, Word: "x"})
	wantSheetFault(t, []api.Source{styled("p:q"), styled("q:p")}, api.Fault{Code: api.ErrStyleChain, Line: 3, Word: "p"})
	wantSheetFault(t, []api.Source{styled("p"), styled("q:q")}, api.Fault{Code: api.ErrStyleChain, Source: 1, Line: 3, Word: "q"})
	chain := []string{letters(0)}
	for n := range api.MaxChain {
		chain = append(chain, letters(n+1)+":"+letters(n))
	}
	if _, err := ir.Sheet([]api.Source{styled(chain[:api.MaxChain]...)}); err != nil {
		t.Errorf("a chain of %d: %v", api.MaxChain, err)
	}
	wantSheetFault(t, []api.Source{styled(chain...)}, api.Fault{Code: api.ErrStyleChain, Line: 3 * len(chain), Word: letters(api.MaxChain)})
}

func TestSheetOfTooManyStyles(t *testing.T) {
	base := len(style.Base())
	var texts []string
	var want []api.Style
	for n := range api.MaxStyles - base {
		texts = append(texts, letters(n))
		want = append(want, api.Style{Name: letters(n), Own: api.Change{Color: -1}})
	}
	wantSheet(t, []api.Source{styled(texts...)}, want...)
	wantSheet(t, []api.Source{styled(texts[:9]...), {}, styled(texts[9:]...)}, want...)
	wantSheetFault(t, []api.Source{styled(texts...), styled("more")}, api.Fault{Code: api.ErrLong})
	wantSheetFault(t, []api.Source{styled(append(texts, texts...)...)}, api.Fault{Code: api.ErrLong}) // ahead of those that come twice
	wantSheetFault(t, []api.Source{styled(append(texts, "more", "No")...)}, api.Fault{Code: api.ErrStyleText, Line: 3 * (len(texts) + 2), Word: "No"})
}

func TestSheetsFirstFault(t *testing.T) {
	// of two texts that are none the first one's, whatever the second one is
	wantSheetFault(t, []api.Source{styled("x", "A"), styled("B")}, api.Fault{Code: api.ErrStyleText, Line: 6, Word: "A"})
	wantSheetFault(t, []api.Source{{}, styled("B", "A")}, api.Fault{Code: api.ErrStyleText, Source: 1, Line: 3, Word: "B"})
	// all texts ahead of all styles
	wantSheetFault(t, []api.Source{styled("x", "x"), styled("A")}, api.Fault{Code: api.ErrStyleText, Source: 1, Line: 3, Word: "A"})
	// as style.Check tells them
	wantSheetFault(t, []api.Source{styled("x:none", "b", "y:none")}, api.Fault{Code: api.ErrStyleTwice, Line: 6, Word: "b"})
	wantSheetFault(t, []api.Source{styled("x:none"), styled("y:y")}, api.Fault{Code: api.ErrStyleParent, Line: 3, Word: "x"})
}

// TestSheetsAreAsReckoned holds random sources against the faults of style.Parse and of style.Check, told of all styles as one list.
func TestSheetsAreAsReckoned(t *testing.T) {
	d := dice(1)
	codes := map[api.Errno]int{}
	for range 5000 {
		var l []api.Source
		var places []api.Fault
		var texts []string
		for source := range 1 + d.throw(3) {
			var s api.Source
			for range d.throw(4) {
				text := letters(d.throw(9)) + d.text("", "", ":b", ":xaa", ":xab", ":xac", " +bold", " color 3")
				if d.throw(20) == 0 {
					text = d.text("b", "h +mono", "Q", "x:", "x +bold +bold")
				}
				line := d.throw(100)
				s.Styles = append(s.Styles, api.StyleDef{Text: text, Line: line})
				places = append(places, api.Fault{Source: source, Line: line})
				texts = append(texts, text)
			}
			l = append(l, s)
		}
		sheet, f := reckonedSheet(texts, places)
		codes[f.Code]++
		if f.Code != api.OK {
			wantSheetFault(t, l, f)
			continue
		}
		wantSheet(t, l, sheet[len(style.Base()):]...)
	}
	for _, code := range []api.Errno{api.OK, api.ErrStyleText, api.ErrStyleTwice, api.ErrStyleParent, api.ErrStyleChain} {
		if codes[code] < 100 {
			t.Errorf("too few of %d: %v", code, codes)
		}
	}
}

func reckonedSheet(texts []string, places []api.Fault) ([]api.Style, api.Fault) {
	sheet := style.Base()
	for n, text := range texts {
		s, e := style.Parse(text)
		if e != api.OK {
			f := places[n]
			f.Code, f.Word = e, text
			return nil, f
		}
		sheet = append(sheet, s)
	}
	n, e := style.Check(sheet)
	if e == api.OK {
		return sheet, api.Fault{}
	}
	f := places[n-len(style.Base())]
	f.Code, f.Word = e, strings.SplitN(strings.SplitN(texts[n-len(style.Base())], ":", 2)[0], " ", 2)[0]
	return nil, f
}

func TestSheetsShareNothing(t *testing.T) {
	l := []api.Source{styled("x +bold", "y"), styled("z:x")}
	l[0].Styles = l[0].Styles[:1] // what lies behind counts for nothing
	behind := l[0].Styles[:2][1]
	for range 2 {
		sheet, err := ir.Sheet(l[:1])
		if err != nil || len(sheet) != len(style.Base())+1 || sheet[len(sheet)-1].Name != "x" {
			t.Fatal(sheet, err)
		}
		clear(sheet[:cap(sheet)])
		if l[0].Styles[0].Text != "x +bold" || l[0].Styles[:2][1] != behind || l[1].Styles[0].Text != "z:x" {
			t.Fatal("changed: " + strconv.Quote(l[0].Styles[0].Text))
		}
	}
	sheet, _ := ir.Sheet(l)
	l[0].Styles[0].Text = "other"
	if sheet[len(sheet)-2].Name != "x" || sheet[len(sheet)-1].Parent != "x" {
		t.Errorf("what was told goes with the sources: %v", sheet)
	}
}
