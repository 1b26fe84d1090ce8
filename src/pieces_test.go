package src_test

import (
	"strings"
	"testing"

	"folio/api"
)

// wantPieces holds the pieces of a paragraph that stands in line 2 against what they should be.
func wantPieces(t *testing.T, s string, want ...api.Inline) {
	t.Helper()
	wantSource(t, ".topic t\n"+s, topics(topic(1, "t", para(want[0].Line, want...))))
}

// wantBrace holds the fault of a paragraph that stands in line 2, wherever it may stand, against what it should be.
func wantBrace(t *testing.T, s string, col int, word string) {
	t.Helper()
	wantFault(t, ".topic t\n"+s, api.ErrBrace, 2, col, word)
	wantFault(t, ".note t\n.list bullet\n.item\n\n"+s+"\n.end\n", api.ErrBrace, 5, col, word)
	wantFault(t, ".topic t\n.table 1\n.row\n.para b\n"+s+"\n.end\n", api.ErrBrace, 5, col, word)
}

func TestExamplesOfPieces(t *testing.T) {
	wantPieces(t, "one {b two} {link Home|go} {link X}",
		text("one ", 2, 1), named(api.InStyle, "b", 2, 5), text("two", 2, 8), closing(2, 11), text(" ", 2, 12),
		named(api.InLink, "Home", 2, 13), text("go", 2, 24), closing(2, 26), text(" ", 2, 27),
		named(api.InLink, "X", 2, 28), text("X", 2, 34), closing(2, 35))
	wantBrace(t, "{link a|{link b|c}}", 9, "link")
	wantBrace(t, "{tab x}", 1, "tab")
	wantBrace(t, "{b x|y}", 5, "")
}

func TestRuns(t *testing.T) {
	wantPieces(t, "a", text("a", 2, 1))
	wantPieces(t, " \t a  b\n\tc ", text("a b c", 2, 4))
	wantPieces(t, `\{\}\\\|\.\# | . #`, text(`{}\|.# | . #`, 2, 1))
	wantPieces(t, "a\n# {b|}\nb", text("a b", 2, 1))
	wantPieces(t, "\n\n\u4e2d \ufffd", text("\u4e2d \ufffd", 4, 1))
}

func TestStylesOfPieces(t *testing.T) {
	wantPieces(t, "{b}", named(api.InStyle, "b", 2, 1), closing(2, 3))
	wantPieces(t, "{b {i x} }y", named(api.InStyle, "b", 2, 1), named(api.InStyle, "i", 2, 4), text("x", 2, 7), closing(2, 8), text(" ", 2, 9), closing(2, 10), text("y", 2, 11))
	wantPieces(t, "{abcdefghijkl x}", named(api.InStyle, "abcdefghijkl", 2, 1), text("x", 2, 15), closing(2, 16))
	for _, name := range []string{"tabs", "ta", "links", "lin", "notes", "b", "bra", "topic", "style", "text", "end"} { // none of ours
		n := len(name)
		wantPieces(t, "{"+name+" x}", named(api.InStyle, name, 2, 1), text("x", 2, n+3), closing(2, n+4))
	}
	wantPieces(t, "x {b\ny\n}", text("x ", 2, 1), named(api.InStyle, "b", 2, 3), text("y ", 3, 1), closing(4, 1))
	deep := strings.Repeat("{b ", api.MaxNest) + strings.Repeat("}", api.MaxNest)
	var want []api.Inline
	for i := range api.MaxNest {
		want = append(want, named(api.InStyle, "b", 2, 3*i+1))
	}
	for i := range api.MaxNest {
		want = append(want, closing(2, 3*api.MaxNest+i+1))
	}
	wantPieces(t, deep, want...)
}

func TestTabsAndBreaks(t *testing.T) {
	wantPieces(t, "{tab}", sign(api.InTab, 2, 1))
	wantPieces(t, "{br}", sign(api.InBreak, 2, 1))
	wantPieces(t, "a {tab} b{br \t}\n{tab\n}c",
		text("a ", 2, 1), sign(api.InTab, 2, 3), text(" b", 2, 8), sign(api.InBreak, 2, 10), text(" ", 2, 16), sign(api.InTab, 3, 1), text("c", 4, 2))
	wantPieces(t, "{b {tab}}{link a|{br}}", named(api.InStyle, "b", 2, 1), sign(api.InTab, 2, 4), closing(2, 9), named(api.InLink, "a", 2, 10), sign(api.InBreak, 2, 18), closing(2, 22))
	for _, name := range []string{"tab", "br"} {
		for _, within := range []string{" x", "|", " |", " {b}", " {" + name + "}", " x {b|}", " \\|", "\nx\n", " {link a|b}"} {
			wantBrace(t, "{"+name+within+"}", 1, name)
			wantBrace(t, "{b {i}{"+name+"}{"+name+within+"}}", 9+len(name), name)
		}
	}
}

func TestLinksAndNotes(t *testing.T) {
	for name, kind := range map[string]api.InlineKind{"link": api.InLink, "note": api.InNote} {
		wantPieces(t, "{"+name+" a|b}", named(kind, "a", 2, 1), text("b", 2, 9), closing(2, 10))
		wantPieces(t, "{"+name+" a|}", named(kind, "a", 2, 1), closing(2, 9))
		wantPieces(t, "{"+name+"  a \t b\n  c  | d }", named(kind, "a b c", 2, 1), text(" d ", 3, 7), closing(3, 10))
		wantPieces(t, "{"+name+"\n a  b }", named(kind, "a b", 2, 1), text("a b", 3, 2), closing(3, 7))
		wantPieces(t, "{"+name+` \|x\}|\|\\}`, named(kind, "|x}", 2, 1), text(`|\`, 2, 13), closing(2, 17))
		wantPieces(t, "{"+name+` \{\\}`, named(kind, `{\`, 2, 1), text(`{\`, 2, 7), closing(2, 11))
		wantPieces(t, "{"+name+" .a #}", named(kind, ".a #", 2, 1), text(".a #", 2, 7), closing(2, 11))
		wantPieces(t, "{"+name+" a|x {b y{i}} {tab}{br}z}",
			named(kind, "a", 2, 1), text("x ", 2, 9), named(api.InStyle, "b", 2, 11), text("y", 2, 14), named(api.InStyle, "i", 2, 15), closing(2, 17), closing(2, 18),
			text(" ", 2, 19), sign(api.InTab, 2, 20), sign(api.InBreak, 2, 25), text("z", 2, 29), closing(2, 30))
		wantPieces(t, "{b {"+name+" a}{"+name+" c|}}",
			named(api.InStyle, "b", 2, 1), named(kind, "a", 2, 4), text("a", 2, 10), closing(2, 11), named(kind, "c", 2, 12), closing(2, 20), closing(2, 21))
		wantPieces(t, "{"+name+" "+a(64)+"}", named(kind, a(64), 2, 1), text(a(64), 2, 7), closing(2, 71))
		wantPieces(t, "{"+name+" "+a(31)+"  \t\n "+a(32)+" |}", named(kind, a(31)+" "+a(32), 2, 1), closing(3, 36))
		for _, within := range []string{
			"", " ", "|", "|x", " |x", " \n|", " " + a(65), " " + a(65) + "|x", " " + a(32) + "  " + a(32), " " + strings.Repeat("\u00e9", 33) + "|",
			" {b}", " {b x}|y", " a{b}", " a {b x}|y", " a {tab}|b", " {tab}", " {br}|x", " {link a|b}|c", " a{note b}", " {b {i|}}",
		} {
			wantBrace(t, "{"+name+within+"}", 1, name)
			wantBrace(t, "x {b {i}{"+name+within+"}}", 9, name)
		}
	}
}

func TestLinksWithinLinks(t *testing.T) {
	for _, outer := range []string{"link", "note"} {
		for _, inner := range []string{"link", "note"} {
			for _, s := range []string{" b}", " b|c}", "}", "|}", " {b}}"} {
				wantBrace(t, "{"+outer+" a|{"+inner+s+"}", 9, inner)
				wantBrace(t, "{"+outer+" a|x {b y {i z} {"+inner+s+"}}", 22, inner)
				wantBrace(t, "{b {"+outer+" a|{b {"+inner+s+"}}}", 15, inner)
			}
			wantPieces(t, "{"+outer+" a|}{"+inner+" b|}",
				named(linkKind(outer), "a", 2, 1), closing(2, 9), named(linkKind(inner), "b", 2, 10), closing(2, 18))
			wantPieces(t, "{b {"+outer+" a|{i}}}{"+inner+" b|}",
				named(api.InStyle, "b", 2, 1), named(linkKind(outer), "a", 2, 4), named(api.InStyle, "i", 2, 12), closing(2, 14), closing(2, 15), closing(2, 16),
				named(linkKind(inner), "b", 2, 17), closing(2, 25))
		}
	}
}

func linkKind(name string) api.InlineKind {
	if name == "note" {
		return api.InNote
	}
	return api.InLink
}

func TestBarsElsewhere(t *testing.T) {
	wantPieces(t, "| a | {b x} |", text("| a | ", 2, 1), named(api.InStyle, "b", 2, 7), text("x", 2, 10), closing(2, 11), text(" |", 2, 12))
	wantBrace(t, "{b|}", 3, "")
	wantBrace(t, "{b |}", 4, "")
	wantBrace(t, "{b {i x}|}", 9, "")
	wantBrace(t, "{link a||}", 9, "")
	wantBrace(t, "{link a|b|c}", 10, "")
	wantBrace(t, "{note a|{b|}}", 11, "")
	wantBrace(t, "{link a|{b x}|}", 14, "")
	wantBrace(t, "{link a|b} {i|}", 14, "")
	wantFault(t, ".topic a\n\n x {b\n y\n |}", api.ErrBrace, 5, 2, "")
}
