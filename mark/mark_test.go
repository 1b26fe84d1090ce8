package mark_test

import (
	"errors"
	"slices"
	"strconv"
	"strings"
	"testing"

	"folio/api"
	"folio/fault"
	"folio/mark"
)

// Makers of tokens.

func directive(name, text string, line int) api.Token {
	return api.Token{Kind: api.TokDirective, Name: name, Text: text, Line: line, Col: 1}
}
func para(line int) api.Token { return api.Token{Kind: api.TokPara, Line: line, Col: 1} }
func open(name string, line, col int) api.Token {
	return api.Token{Kind: api.TokOpen, Name: name, Line: line, Col: col}
}
func bar(line, col int) api.Token     { return api.Token{Kind: api.TokBar, Line: line, Col: col} }
func closing(line, col int) api.Token { return api.Token{Kind: api.TokClose, Line: line, Col: col} }
func run(s string, line, col int) api.Token {
	return api.Token{Kind: api.TokRun, Text: s, Line: line, Col: col}
}

// short is a source for a message.
func short(s string) string {
	if len(s) > 90 {
		return strconv.Quote(s[:80]) + ".. of " + strconv.Itoa(len(s)) + " bytes"
	}
	return strconv.Quote(s)
}

func wantTokens(t *testing.T, s string, want ...api.Token) {
	t.Helper()
	got, err := mark.Lex(s)
	if err != nil || !slices.Equal(got, want) {
		t.Errorf("Lex(%s): %v, %v; want %v", short(s), got, err, want)
	}
}

// wantFault holds the error of a source against a fault, all its fields, and what stands beside it.
func wantFault(t *testing.T, s string, code api.Errno, line, col int, word string) {
	t.Helper()
	got, err := mark.Lex(s)
	var e *fault.Error
	if !errors.As(err, &e) {
		t.Errorf("Lex(%s): %v, %v; want fault %d", short(s), got, err, code)
		return
	}
	if len(got) != 0 {
		t.Errorf("Lex(%s): tokens beside a fault: %v", short(s), got)
	}
	f := fault.Told(err)
	if f.Code != code || f.Source != 0 || f.Line != line || f.Col != col || f.Word != word || len(f.Trail) != 0 {
		t.Errorf("Lex(%s): %v; want %d at %d:%d %q", short(s), f, code, line, col, word)
	}
	if len(fault.All(err)) != 1 {
		t.Errorf("Lex(%s): several faults: %v", short(s), fault.All(err))
	}
}

func nothing(n int) string { return strings.Repeat("\n", n) }

// P4.1: lines

func TestNoBytes(t *testing.T) { wantTokens(t, "") }

func TestExamplesOfTokens(t *testing.T) {
	wantTokens(t, ".topic a | B", directive("topic", "a | B", 1))
	wantTokens(t, "one {b two}  three\nfour",
		run("one ", 1, 1), open("b", 1, 5), run("two", 1, 8), closing(1, 11), run(" three four", 1, 12))
	wantTokens(t, "{link x|y}", open("link", 1, 1), run("x", 1, 7), bar(1, 8), run("y", 1, 9), closing(1, 10))
	wantTokens(t, "a | b", run("a | b", 1, 1))
	wantTokens(t, `\.a \{ # .`, run(".a { # .", 1, 1))
}

func TestExamplesOfFaults(t *testing.T) {
	wantFault(t, ".Topic", api.ErrDirective, 1, 2, "")
	wantFault(t, ".topics1", api.ErrDirective, 1, 2, "topics")
	wantFault(t, "{ x}", api.ErrNameless, 1, 1, "")
	wantFault(t, "a}", api.ErrClose, 1, 2, "")
	wantFault(t, "{b x", api.ErrUnclosed, 1, 1, "b")
	wantFault(t, `a\q`, api.ErrEscape, 1, 2, "q")
}

func TestEndsOfLines(t *testing.T) {
	want := []api.Token{run("a", 1, 1), para(2), run("b", 3, 1)}
	for _, s := range []string{"a\n\nb", "a\n\nb\n", "a\r\n\r\nb\r\n", "a\n\r\nb\r", "a\r\n\nb"} {
		wantTokens(t, s, want...)
	}
	wantTokens(t, "a\n\nb\n\n", append(want, para(4))...)
	wantTokens(t, "\n", para(1))
	wantTokens(t, "\r\n", para(1))
	wantTokens(t, "\r", para(1))
	wantTokens(t, "a\n\r", run("a", 1, 1), para(2))
	wantTokens(t, nothing(3), para(1), para(2), para(3))
	wantTokens(t, ".a\r", directive("a", "", 1))
	wantTokens(t, ".a b\r\n", directive("a", "b", 1))
	wantTokens(t, "{b\r\n}", open("b", 1, 1), closing(2, 1))
	wantFault(t, "a\r\r\n", api.ErrChar, 1, 2, "")
	wantFault(t, "a\r\r", api.ErrChar, 1, 2, "")
	wantFault(t, "a\rb\n", api.ErrChar, 1, 2, "")
	wantFault(t, "\r\r", api.ErrChar, 1, 1, "")
	wantFault(t, "a\\\r\n", api.ErrEscape, 1, 2, "")
}

func TestBlankLines(t *testing.T) {
	for _, blank := range []string{"", " ", "\t", " \t \t", "   "} {
		wantTokens(t, blank+"\n", para(1))
		wantTokens(t, "a\n"+blank+"\nb", run("a", 1, 1), para(2), run("b", 3, 1))
		wantTokens(t, blank+"\n.a\n"+blank+"\r\n", para(1), directive("a", "", 2), para(3))
	}
	wantTokens(t, " ", para(1))
	wantTokens(t, "\t\t", para(1))
	wantTokens(t, "a\n \n\t\nb", run("a", 1, 1), para(2), para(3), run("b", 4, 1))
	wantTokens(t, strings.Repeat(" ", api.MaxLine), para(1))
	wantTokens(t, "\u00a0", run("\u00a0", 1, 1)) // no blank of ours
}

func TestComments(t *testing.T) {
	wantTokens(t, "#")
	wantTokens(t, "# {\n#}\n#\\q\n#.Topic\n#\n", nil...)
	wantTokens(t, "#\n\na\n", para(2), run("a", 3, 1))
	wantTokens(t, " # a", run("# a", 1, 2))
	wantTokens(t, "a #\n", run("a #", 1, 1))
	wantTokens(t, `\# a`, run("# a", 1, 1))
	wantTokens(t, "a\n# {\nb", run("a b", 1, 1)) // a paragraph goes on behind it
	wantTokens(t, "a {b\n#\n c}\n#\n# x\n d",
		run("a ", 1, 1), open("b", 1, 3), run("c", 3, 2), closing(3, 3), run(" d", 3, 4))
	wantFault(t, "# a\xff", api.ErrChar, 1, 4, "")
	wantFault(t, "#\x01", api.ErrChar, 1, 2, "")
	wantFault(t, "#"+strings.Repeat("a", api.MaxLine), api.ErrLong, 1, 1, "")
	wantTokens(t, "#"+strings.Repeat("a", api.MaxLine-1))
}

// Which characters may not be

func TestCharacters(t *testing.T) {
	for s, col := range map[string]int{
		"a\x00": 2, "\x08": 1, "ab\x0b": 3, "\x1f": 1, "é\x7f": 3, "\u0080": 1, "a\u0085b": 2, "\u4e2d\u009f": 4,
		"\xff": 1, "ab\xff\xfe": 3, "\u4e2d\xe4\xb8": 4, "\x80a": 1, "a\xed\xa0\x80": 2, "\xc0\x80": 1, "\t\x01": 2, "a\t\t\xff": 4,
		" \x02": 2, ".a\x02": 3, ".Topic \xff": 8, "{b \x1b": 4, `\q` + "\x03": 3, "\t \ufffd\xff": 6,
	} {
		wantFault(t, s, api.ErrChar, 1, col, "")
		wantFault(t, "a\n"+s+"\n.Topic", api.ErrChar, 2, col, "")
	}
	for _, s := range []string{"\x20", "~", "\u00a0", "é", "\ufffd", "\u200b", "\u0301", "\u4e2d", "\U0010ffff", "\u2028", "\u00ad"} {
		want := "a" + s + "b"
		wantTokens(t, want, run(want, 1, 1))
		wantTokens(t, ".a "+want, directive("a", want, 1))
		wantTokens(t, "#"+want)
	}
	wantTokens(t, "a\tb", run("a b", 1, 1))
}

// Limits of sources and lines

func TestLongSources(t *testing.T) {
	long := strings.Repeat("a\n", api.MaxSource/2)
	l, err := mark.Lex(long)
	if err != nil || len(l) != 1 || len(l[0].Text) != api.MaxSource-1 {
		t.Error(len(l), err)
	}
	l, err = mark.Lex(nothing(api.MaxSource))
	if err != nil || len(l) != api.MaxSource || l[api.MaxSource-1] != para(api.MaxSource) {
		t.Error(len(l), err)
	}
	wantFault(t, long+"\n", api.ErrLong, 0, 0, "")
	wantFault(t, long+"\r", api.ErrLong, 0, 0, "")
	wantFault(t, nothing(api.MaxSource+1), api.ErrLong, 0, 0, "")
	wantFault(t, "\xff.Topic}"+long, api.ErrLong, 0, 0, "") // ahead of what else is wrong
	wantFault(t, strings.Repeat("a", api.MaxSource+1), api.ErrLong, 0, 0, "")
	wantFault(t, strings.Repeat("a", api.MaxSource), api.ErrLong, 1, 1, "")
	wantFault(t, strings.Repeat("#", 1<<24), api.ErrLong, 0, 0, "")
}

func TestLongLines(t *testing.T) {
	full := strings.Repeat("a", api.MaxLine)
	for _, end := range []string{"", "\n", "\r\n", "\r"} {
		wantTokens(t, full+end, run(full, 1, 1))
		wantTokens(t, "b\n"+full+end, run("b "+full, 1, 1))
		wantTokens(t, "."+full[:4]+strings.Repeat(" ", api.MaxLine-5)+end, directive("aaaa", "", 1))
		wantFault(t, full+"a"+end, api.ErrLong, 1, 1, "")
		wantFault(t, "\n\n"+full+" "+end, api.ErrLong, 3, 1, "")
		wantFault(t, strings.Repeat(" ", api.MaxLine+1)+end, api.ErrLong, 1, 1, "")
		wantFault(t, ".a "+full+end, api.ErrLong, 1, 1, "")
	}
	many := strings.Repeat("\u4e2d", api.MaxLine/3)
	wantTokens(t, many+"a", run(many+"a", 1, 1)) // bytes are counted
	wantFault(t, many+"aa", api.ErrLong, 1, 1, "")
	wantFault(t, "\xff"+full, api.ErrLong, 1, 1, "")
	wantFault(t, full+"\xff", api.ErrLong, 1, 1, "")
	wantFault(t, full+"\r\r\n", api.ErrLong, 1, 1, "")
	wantFault(t, full[1:]+"\r\r\n", api.ErrChar, 1, api.MaxLine, "")
}

// Directives

func TestDirectives(t *testing.T) {
	wantTokens(t, ".a", directive("a", "", 1))
	wantTokens(t, ".az", directive("az", "", 1))
	wantTokens(t, ".abcdefghijkl", directive("abcdefghijkl", "", 1))
	wantTokens(t, ".mnopqrstuvwx yz", directive("mnopqrstuvwx", "yz", 1))
	wantTokens(t, ".a\t b  \t", directive("a", "b", 1))
	wantTokens(t, ".a  b \t c ", directive("a", "b \t c", 1)) // within they stay
	wantTokens(t, ".a \t ", directive("a", "", 1))
	wantTokens(t, `.a {b} | \q } # .`, directive("a", `{b} | \q } # .`, 1)) // no text: none of these means anything
	wantTokens(t, ".a \u00a0b\u00a0", directive("a", "\u00a0b\u00a0", 1))
	wantTokens(t, ".a\n.b\n", directive("a", "", 1), directive("b", "", 2))
	wantTokens(t, "x\n.a y\nz", run("x", 1, 1), directive("a", "y", 2), run("z", 3, 1))
	wantTokens(t, "x {b y}\n.a\n{i}", run("x ", 1, 1), open("b", 1, 3), run("y", 1, 6), closing(1, 7), directive("a", "", 2), open("i", 3, 1), closing(3, 3))
	wantTokens(t, " .a", run(".a", 1, 2))
	wantTokens(t, "\t.Topic", run(".Topic", 1, 2))
	wantTokens(t, "a .b", run("a .b", 1, 1))
	wantTokens(t, `\.a`, run(".a", 1, 1))
}

func TestDirectivesWithoutAName(t *testing.T) {
	for s, word := range map[string]string{
		".": "", ". a": "", ".\ta": "", "..a": "", ".1": "", ".A": "", ".é": "", ".{b}": "", ".#": "", ".`": "", ".-": "",
		".aB": "a", ".ab1": "ab", ".ab|": "ab", ".ab.": "ab", ".ab{": "ab", ".ab}": "ab", ".ab\\": "ab", ".abé x": "ab", ".ab\u00a0": "ab", ".az{": "az",
		".abcdefghijkl1":                  "abcdefghijkl",
		".abcdefghijklm":                  "abcdefghijkl",
		".abcdefghijklm x":                "abcdefghijkl",
		"." + strings.Repeat("z", 4000):   "zzzzzzzzzzzz",
		".abcdefghijk\u00e9lmnopqrstuvwx": "abcdefghijk",
	} {
		wantFault(t, s, api.ErrDirective, 1, 2, word)
		wantFault(t, "x\n\n"+s+"\r\n.Topic", api.ErrDirective, 3, 2, word)
	}
}

// Text

func TestBlanksAreOne(t *testing.T) {
	wantTokens(t, "a  b", run("a b", 1, 1))
	wantTokens(t, " \ta \t b\t ", run("a b", 1, 3))
	wantTokens(t, "a \n\t b", run("a b", 1, 1))
	wantTokens(t, "a\nb\r\nc\nd", run("a b c d", 1, 1))
	wantTokens(t, "  a {b x }\t {i  y}  \n z  ",
		run("a ", 1, 3), open("b", 1, 5), run("x ", 1, 8), closing(1, 10), run(" ", 1, 11), open("i", 1, 13), run("y", 1, 17), closing(1, 18), run(" z", 1, 19))
	wantTokens(t, "{b}\t\t{i}", open("b", 1, 1), closing(1, 3), run(" ", 1, 4), open("i", 1, 6), closing(1, 8))
	wantTokens(t, "{b}{i}", open("b", 1, 1), closing(1, 3), open("i", 1, 4), closing(1, 6))
	wantTokens(t, "a\n{b}\nc", run("a ", 1, 1), open("b", 2, 1), closing(2, 3), run(" c", 2, 4))
	wantTokens(t, "{b}\n{i}", open("b", 1, 1), closing(1, 3), run(" ", 1, 4), open("i", 2, 1), closing(2, 3)) // a line's end has a place
	wantTokens(t, "é\u4e2d{b}  \n  {i}", run("é\u4e2d", 1, 1), open("b", 1, 6), closing(1, 8), run(" ", 1, 9), open("i", 2, 3), closing(2, 5))
}

func TestBlanksAreNone(t *testing.T) {
	wantTokens(t, "  {b   x}  ", open("b", 1, 3), run("x", 1, 8), closing(1, 9))
	wantTokens(t, "{b\n  \tx\n}\n", open("b", 1, 1), run("x ", 2, 4), closing(3, 1))
	wantTokens(t, "{b \t}", open("b", 1, 1), closing(1, 5))
	wantTokens(t, "{b {i x}}", open("b", 1, 1), open("i", 1, 4), run("x", 1, 7), closing(1, 8), closing(1, 9))
	wantTokens(t, "{b | x | }",
		open("b", 1, 1), bar(1, 4), run(" x ", 1, 5), bar(1, 8), run(" ", 1, 9), closing(1, 10))
	wantTokens(t, "{b|}", open("b", 1, 1), bar(1, 3), closing(1, 4))
	wantTokens(t, "{b||}", open("b", 1, 1), bar(1, 3), bar(1, 4), closing(1, 5))
	wantTokens(t, "{b x} \t\n\ny", open("b", 1, 1), run("x", 1, 4), closing(1, 5), para(2), run("y", 3, 1))
	wantTokens(t, "x \n.a\n y", run("x", 1, 1), directive("a", "", 2), run("y", 3, 2))
}

func TestEscapes(t *testing.T) {
	wantTokens(t, `\\\{\}\|\.\#`, run(`\{}|.#`, 1, 1))
	wantTokens(t, `{b \}\|\{}`, open("b", 1, 1), run("}|{", 1, 4), closing(1, 10))
	wantTokens(t, `{b}\{c`, open("b", 1, 1), closing(1, 3), run("{c", 1, 4))
	wantTokens(t, ` \\ x`, run(`\ x`, 1, 2))
	wantTokens(t, `a\\q`, run(`a\q`, 1, 1))
	wantTokens(t, `\\{b}`, run(`\`, 1, 1), open("b", 1, 3), closing(1, 5))
	for behind, word := range map[string]string{
		"": "", "\nx": "", "\r\n": "", "é": "é", "\u4e2dx": "\u4e2d", " ": " ", "\t": "\t", "a": "a", "n": "n", "-": "-", "\"": "\"", "[": "[", "\ufffd": "\ufffd", "\u0301": "\u0301", "/": "/", ",": ",",
	} {
		wantFault(t, `a\`+behind, api.ErrEscape, 1, 2, word)
		wantFault(t, "x\n{b \\\\\\"+behind, api.ErrEscape, 2, 6, word)
	}
}

func TestNamesOfBraces(t *testing.T) {
	wantTokens(t, "{abcdefghijkl x}", open("abcdefghijkl", 1, 1), run("x", 1, 15), closing(1, 16))
	wantTokens(t, "{mnopqrstuvwx|}", open("mnopqrstuvwx", 1, 1), bar(1, 14), closing(1, 15))
	wantTokens(t, "{z\t}", open("z", 1, 1), closing(1, 4))
	for _, s := range []string{
		"{", "{ ", "{}", "{|", "{{", "{\nb}", "{B}", "{1}", "{é}", "{bB}", "{b1}", "{b{i}}", "{b.}", "{b#}", `{b\}`, `{b\\}`, "{bé}", "{b\u00a0}", "{`}", "{b{",
		"{abcdefghijklm}", "{abcdefghijklm", "{abcdefghijklm x}", "{" + strings.Repeat("a", 4000) + "}",
	} {
		wantFault(t, s, api.ErrNameless, 1, 1, "")
		wantFault(t, "x\n {b}"+s, api.ErrNameless, 2, 5, "")
	}
}

func TestBracesWithinBraces(t *testing.T) {
	deep := strings.Repeat("{b ", api.MaxNest)
	ends := strings.Repeat("}", api.MaxNest)
	var want []api.Token
	for i := range api.MaxNest {
		want = append(want, open("b", 1, 3*i+1))
	}
	for i := range api.MaxNest {
		want = append(want, closing(1, 3*api.MaxNest+i+1))
	}
	wantTokens(t, deep+ends, want...)
	wantFault(t, deep+"{link", api.ErrNest, 1, 49, "link")
	wantFault(t, deep+"\n x{i}"+ends, api.ErrNest, 2, 3, "i")
	wantFault(t, deep+"{B", api.ErrNameless, 1, 49, "")
	wantFault(t, deep+"{abcdefghijklm", api.ErrNameless, 1, 49, "")
	wantFault(t, deep+ends+"}", api.ErrClose, 1, 65, "")
	wantFault(t, deep+ends[1:], api.ErrUnclosed, 1, 1, "b")
	wantFault(t, deep, api.ErrUnclosed, 1, 46, "b")
	l, err := mark.Lex(strings.Repeat("{b}", 100) + deep + "}{i" + ends)
	if err != nil || len(l) != 2*(100+api.MaxNest+1) {
		t.Error(len(l), err)
	}
}

func TestClosing(t *testing.T) {
	wantFault(t, "}", api.ErrClose, 1, 1, "")
	wantFault(t, "{b}}", api.ErrClose, 1, 4, "")
	wantFault(t, "{b x}\n\n  }", api.ErrClose, 3, 3, "")
	wantFault(t, "{b x}\n}", api.ErrClose, 2, 1, "")
	wantTokens(t, "{b x\n}", open("b", 1, 1), run("x ", 1, 4), closing(2, 1))
}

func TestUnclosed(t *testing.T) {
	for _, end := range []string{"", "\n", "\r\n", "\n\n", "\n \t\ny}", "\n.a\n}", "\n# }", "\n#\n\n}"} {
		wantFault(t, "{b x"+end, api.ErrUnclosed, 1, 1, "b")
		wantFault(t, "a\n{i {link x"+end, api.ErrUnclosed, 2, 4, "link")
		wantFault(t, "a\n{i {link x}"+end, api.ErrUnclosed, 2, 1, "i") // the one that was opened last of those that are open
		wantFault(t, "\n\na {b\n{i}"+end, api.ErrUnclosed, 3, 3, "b")
	}
}

func TestBars(t *testing.T) {
	wantTokens(t, "|", run("|", 1, 1))
	wantTokens(t, "a|b {i c|d} e|f", run("a|b ", 1, 1), open("i", 1, 5), run("c", 1, 8), bar(1, 9), run("d", 1, 10), closing(1, 11), run(" e|f", 1, 12))
	wantTokens(t, "{b\n|}|", open("b", 1, 1), bar(2, 1), closing(2, 2), run("|", 2, 3))
}

// Two faults, of which the first is told

func TestTheFirstOfSeveral(t *testing.T) {
	wantFault(t, "a}\n\xff", api.ErrClose, 1, 2, "")
	wantFault(t, "\xff\na}", api.ErrChar, 1, 1, "")
	wantFault(t, "a}{ \\q", api.ErrClose, 1, 2, "")
	wantFault(t, "{ }}", api.ErrNameless, 1, 1, "")
	wantFault(t, "a\\q}", api.ErrEscape, 1, 2, "q")
	wantFault(t, "a}\x01", api.ErrChar, 1, 3, "")         // a line is looked at as a whole ahead of its text
	wantFault(t, ".Topic \x01", api.ErrChar, 1, 8, "")    // and of its name
	wantFault(t, ".Topic\n.", api.ErrDirective, 1, 2, "") // line by line
	wantFault(t, "{b x\n\xff", api.ErrChar, 2, 1, "")
	wantFault(t, "{b x\n \xff", api.ErrChar, 2, 2, "")
	wantFault(t, "{b x\n"+strings.Repeat(" ", api.MaxLine+1), api.ErrLong, 2, 1, "")
	wantFault(t, "{b x\n.a \xff", api.ErrChar, 2, 4, "")
	wantFault(t, "{b x\n.A", api.ErrDirective, 2, 2, "") // it stands ahead of the paragraph's end
	wantFault(t, "{b x\n.a\n.A", api.ErrUnclosed, 1, 1, "b")
	wantFault(t, "{b x\n\n\xff", api.ErrUnclosed, 1, 1, "b")
	wantFault(t, "{b {", api.ErrNameless, 1, 4, "")
	wantFault(t, "{b x\n\\q", api.ErrEscape, 2, 1, "q")
	wantFault(t, "# \xff\n}", api.ErrChar, 1, 3, "")
}

// P4.2

func TestEscape(t *testing.T) {
	for s, want := range map[string]string{
		"":              "",
		".a{":           `\.a\{`,
		"#":             `\#`,
		".":             `\.`,
		"a.#":           "a.#",
		"..":            `\..`,
		"##":            `\##`,
		" .":            " .",
		`\{}|`:          `\\\{\}\|`,
		`a\b{c}d|e`:     `a\\b\{c\}d\|e`,
		"a\n.b\n#c":     "a\n.b\n#c",
		"\xff{\xe4\xb8": "\xff\\{\xe4\xb8",
		".\xff\x00":     "\\.\xff\x00",
		"é\u4e2d|":      `é` + "\u4e2d" + `\|`,
		"|":             `\|`,
		"[]/~z^_`":      "[]/~z^_`",
	} {
		if got := mark.Escape(s); got != want {
			t.Errorf("Escape(%q): %q, want %q", s, got, want)
		}
	}
	for c := range 256 {
		b := string([]byte{byte(c)})
		first, later := b, "a"+b
		if strings.Contains(`\{}|.#`, b) {
			first = `\` + b
		}
		if strings.Contains(`\{}|`, b) {
			later = `a\` + b
		}
		if mark.Escape(b) != first || mark.Escape("a"+b) != later {
			t.Errorf("Escape of byte %d: %q, %q", c, mark.Escape(b), mark.Escape("a"+b))
		}
	}
	long := strings.Repeat("{", 1<<20)
	if got := mark.Escape(long); got != strings.Repeat(`\{`, 1<<20) {
		t.Error("Escape of a long text: ", len(got))
	}
}
