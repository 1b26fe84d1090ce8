package mark_test

import (
	"regexp"
	"slices"
	"strings"
	"testing"

	"folio/api"
	"folio/fault"
	"folio/mark"
	"folio/text"
)

// dice throws numbers that are the same each time.
type dice uint32

func (d *dice) throw(n int) int {
	*d = *d*1664525 + 1013904223
	return int(*d>>8) % n
}

func (d *dice) one(l []string) string { return l[d.throw(len(l))] }

// words are what a source may have anywhere in its paragraphs, and what ends a line.
func words() []string {
	return []string{
		"a", "b", "one", "\u4e2d", "é", ".", "#", "|", "|", " ", " ", "  ", "\t", "\n", "\n", "\r\n", " \n ", "\n# x {\n", "\n#\r\n#\n",
		`\\`, `\{`, `\}`, `\|`, `\.`, `\#`, "\ufffd", "\u00a0", "\u0301",
	}
}

// slips are what may be a fault, or make one.
func slips() []string {
	return []string{
		"{", "}", `\`, `\q`, `\é`, "\r", "\x01", "\xff", "\xe4\xb8", "\n.", "\n.Topic\n", "\n.abcdefghijklm", "\n.a\xff\n", "{B ", "{abcdefghijklm ", "{b",
		"\n\n", "\n.a b\n", "{b ", "{b {b {b {b {b {b {b {b {b {b {b {b {b {b {b {b {b {b ", strings.Repeat("a", api.MaxLine+1),
	}
}

// source throws a source that has braces closed and names where they must be; then slips into it as many as are wanted.
func (d *dice) source(slipped int) string {
	var l []string
	depth := 0
	for range d.throw(30) {
		switch n := d.throw(10); {
		case n == 0 && depth < api.MaxNest:
			l = append(l, d.one([]string{"{b ", "{link  ", "{abcdefghijkl\n", "{tab|", "{i\t{x}", "{br}{b "}))
			depth++
		case n == 1 && depth > 0:
			l = append(l, "}")
			depth--
		case n == 2 && depth == 0:
			l = append(l, d.one([]string{"\n\n", "\n \t\n", "\n.topic a | B\n", "\r\n.end\r\n", "\n.abcdefghijkl \t x  y\t\n", "\n.a {b\n"}))
		default:
			l = append(l, d.one(words()))
		}
	}
	l = append(l, strings.Repeat("}", depth), d.one([]string{"", "", "\n", "\r", "\n\n"}))
	for range slipped {
		at := d.throw(len(l) + 1)
		l = slices.Insert(l, at, d.one(slips()))
	}
	return strings.Join(l, "")
}

// sources answers sources of all sorts, most of them such as are taken.
func sources(seed dice, count int) []string {
	var l []string
	for i := range count {
		l = append(l, seed.source(i%3*i%4))
	}
	return l
}

// plainly is Lex reckoned another way: a paragraph's pieces are told by patterns, and its blanks are cut when all of them are there.
type plainly struct {
	tokens []api.Token
	pieces []api.Token // of the open paragraph; characters are runs of their own, blanks those of one blank
	open   []api.Token
}

var (
	directiveLine = regexp.MustCompile(`^\.([a-z]{1,12})([ \t].*)?$`)
	directiveName = regexp.MustCompile(`^\.([a-z]{0,12})`)
	badCharacter  = regexp.MustCompile(`[\x00-\x08\x0a-\x1f\x7f-\x{9f}]`)
	openingBrace  = regexp.MustCompile(`^\{([a-z]{1,12})([ \t|}]|$)`)
	escapedSign   = regexp.MustCompile(`^\\([\\{}|.#])`)
	blankLine     = regexp.MustCompile(`^[ \t]*$`)
	oneCharacter  = regexp.MustCompile(`^(?s:.)`)
)

func lexPlainly(s string) ([]api.Token, api.Fault) {
	if len(s) > api.MaxSource {
		return nil, api.Fault{Code: api.ErrLong}
	}
	var p plainly
	lines := strings.Split(s, "\n")
	if lines[len(lines)-1] == "" {
		lines = lines[:len(lines)-1]
	}
	for i, line := range lines {
		if f := p.line(strings.TrimSuffix(line, "\r"), i+1); f.Code != 0 {
			return nil, f
		}
	}
	f := p.end()
	if f.Code != 0 {
		return nil, f
	}
	return p.tokens, f
}

func (p *plainly) line(line string, n int) api.Fault {
	if len(line) > 4096 {
		return api.Fault{Code: api.ErrLong, Line: n, Col: 1}
	}
	at := len(line)
	if place, good := text.Good(line); !good {
		at = place
	}
	if place := badCharacter.FindStringIndex(line[:at]); place != nil {
		at = place[0]
	}
	if at < len(line) {
		return api.Fault{Code: api.ErrChar, Line: n, Col: at + 1}
	}
	whole := api.Token{Kind: api.TokPara, Line: n, Col: 1}
	switch {
	case strings.HasPrefix(line, "#"):
		return api.Fault{}
	case strings.HasPrefix(line, "."):
		parts := directiveLine.FindStringSubmatch(line)
		if parts == nil {
			return api.Fault{Code: api.ErrDirective, Line: n, Col: 2, Word: directiveName.FindStringSubmatch(line)[1]}
		}
		whole.Kind, whole.Name, whole.Text = api.TokDirective, parts[1], strings.Trim(parts[2], " \t")
	case !blankLine.MatchString(line):
		return p.text(line, n)
	}
	f := p.end()
	p.tokens = append(p.tokens, whole)
	return f
}

func (p *plainly) text(line string, n int) api.Fault {
	for at := 0; at < len(line); {
		rest := line[at:]
		t := api.Token{Line: n, Col: at + 1}
		f := api.Fault{Line: n, Col: at + 1}
		sign := oneCharacter.FindString(rest)
		long := len(sign)
		switch {
		case strings.HasPrefix(rest, `\`):
			parts := escapedSign.FindStringSubmatch(rest)
			if parts == nil {
				f.Code, f.Word = api.ErrEscape, oneCharacter.FindString(rest[1:])
				return f
			}
			t.Kind, t.Text, long = api.TokRun, parts[1], 2
		case strings.HasPrefix(rest, "{"):
			parts := openingBrace.FindStringSubmatch(rest)
			if parts == nil {
				f.Code = api.ErrNameless
				return f
			}
			if len(p.open) == 16 {
				f.Code, f.Word = api.ErrNest, parts[1]
				return f
			}
			t.Kind, t.Name, long = api.TokOpen, parts[1], 1+len(parts[1])
			p.open = append(p.open, t)
		case strings.HasPrefix(rest, "}"):
			if len(p.open) == 0 {
				f.Code = api.ErrClose
				return f
			}
			t.Kind = api.TokClose
			p.open = p.open[:len(p.open)-1]
		case strings.HasPrefix(rest, "|") && len(p.open) > 0:
			t.Kind = api.TokBar
		case strings.ContainsAny(sign, " \t"):
			t.Kind, t.Text = api.TokRun, " "
		default:
			t.Kind, t.Text = api.TokRun, sign
		}
		p.pieces = append(p.pieces, t)
		at += long
	}
	p.pieces = append(p.pieces, api.Token{Kind: api.TokRun, Text: " ", Line: n, Col: len(line) + 1})
	return api.Fault{}
}

func (p *plainly) end() api.Fault {
	if n := len(p.open); n > 0 {
		t := p.open[n-1]
		return api.Fault{Code: api.ErrUnclosed, Line: t.Line, Col: t.Col, Word: t.Name}
	}
	blank := func(t api.Token) bool { return t.Text == " " }
	l := slices.CompactFunc(p.pieces, func(a, b api.Token) bool { return blank(a) && blank(b) })
	for len(l) > 0 && blank(l[len(l)-1]) {
		l = l[:len(l)-1]
	}
	last := api.Token{Kind: api.TokOpen} // a blank directly behind it is none
	for _, t := range l {
		switch {
		case blank(t) && last.Kind == api.TokOpen:
			continue
		case t.Kind == api.TokRun && last.Kind == api.TokRun:
			p.tokens[len(p.tokens)-1].Text += t.Text
		default:
			p.tokens = append(p.tokens, t)
		}
		last = t
	}
	p.pieces = nil
	return api.Fault{}
}

// P4.1

func TestLexIsWhatIsReckonedPlainly(t *testing.T) {
	seen := map[api.Errno]int{}
	for _, s := range sources(1, 20000) {
		got, err := mark.Lex(s)
		want, f := lexPlainly(s)
		told := fault.Told(err)
		seen[told.Code]++
		if told.Code != f.Code || told.Line != f.Line || told.Col != f.Col || told.Word != f.Word || told.Source != 0 || len(told.Trail) > 0 {
			t.Fatalf("Lex(%s): %v; want %v", short(s), told, f)
		}
		if !slices.Equal(got, want) {
			t.Fatalf("Lex(%s): %v; want %v", short(s), got, want)
		}
		if again, _ := mark.Lex(s); !slices.Equal(again, want) {
			t.Fatalf("Lex(%s) a second time: %v", short(s), again)
		}
	}
	for code, least := range map[api.Errno]int{
		api.OK: 8000, api.ErrLong: 50, api.ErrChar: 50, api.ErrDirective: 50, api.ErrEscape: 50, api.ErrNameless: 50, api.ErrClose: 50, api.ErrUnclosed: 50, api.ErrNest: 50,
	} {
		if seen[code] < least {
			t.Errorf("too few of error %d: %v", code, seen)
		}
	}
}

func TestAnyBytes(t *testing.T) {
	d := dice(2)
	const some = "ab \t\n\r.#{}|\\\\{b\xe4\xb8\xad\xff\x00\x7fZ"
	for range 50000 {
		b := make([]byte, d.throw(12))
		for i := range b {
			b[i] = some[d.throw(len(some))]
			if d.throw(20) == 0 {
				b[i] = byte(d.throw(256))
			}
		}
		got, err := mark.Lex(string(b))
		want, f := lexPlainly(string(b))
		if told := fault.Told(err); told.Code != f.Code || told.Line != f.Line || told.Col != f.Col || told.Word != f.Word || !slices.Equal(got, want) {
			t.Fatalf("Lex(%q): %v, %v; want %v, %v", b, got, told, want, f)
		}
	}
}

func TestAnswersShareNoMemory(t *testing.T) {
	const s = "a {b x}\n\nc"
	one, _ := mark.Lex(s)
	want := slices.Clone(one)
	two, _ := mark.Lex(s)
	for i := range two[:cap(two)] {
		two[:cap(two)][i] = api.Token{Text: "?"}
	}
	if !slices.Equal(one, want) {
		t.Error(one)
	}
}

// taken answers those sources that Lex takes, with their tokens.
func taken(t *testing.T, seed dice, count int) ([]string, [][]api.Token) {
	var l []string
	var tokens [][]api.Token
	for _, s := range sources(seed, count) {
		if got, err := mark.Lex(s); err == nil {
			l, tokens = append(l, s), append(tokens, got)
		}
	}
	if len(l) < count/3 {
		t.Fatal("too few sources are taken: ", len(l))
	}
	return l, tokens
}

// P4.3

func TestPlaces(t *testing.T) {
	l, all := taken(t, 3, 10000)
	for i, s := range l {
		lines := strings.Split(s, "\n")
		var last api.Token
		for _, x := range all[i] {
			if x.Line < last.Line || x.Line == last.Line && x.Col <= last.Col {
				t.Fatalf("Lex(%q): %v behind %v", s, x, last)
			}
			if x.Line < 1 || x.Line > len(lines) || x.Col < 1 || x.Col > len(strings.TrimSuffix(lines[x.Line-1], "\r"))+1 {
				t.Fatalf("Lex(%q): %v stands nowhere", s, x)
			}
			standsThere(t, s, lines[x.Line-1][x.Col-1:], x)
			last = x
		}
	}
}

// standsThere holds a token against what the source has at its place.
func standsThere(t *testing.T, s, rest string, x api.Token) {
	t.Helper()
	begin := map[int]string{api.TokDirective: "." + x.Name, api.TokOpen: "{" + x.Name, api.TokBar: "|", api.TokClose: "}"}[x.Kind]
	good := strings.HasPrefix(rest, begin)
	switch {
	case x.Kind == api.TokPara:
		good = blankLine.MatchString(strings.TrimSuffix(rest, "\r"))
	case x.Kind == api.TokRun && x.Text[0] == ' ':
		good = strings.Trim(rest, " \t\r") != rest || rest == ""
	case x.Kind == api.TokRun:
		good = strings.HasPrefix(strings.TrimPrefix(rest, `\`), x.Text[:1]) || strings.HasPrefix(rest, x.Text[:1])
	}
	if !good {
		t.Fatalf("Lex(%q): %v, but there stands %q", s, x, rest)
	}
}

// P4.4

func TestBraces(t *testing.T) {
	l, all := taken(t, 4, 10000)
	deepest := 0
	for i, s := range l {
		depth := 0
		begins := true // a paragraph
		var last api.Token
		for _, x := range append(all[i], api.Token{Kind: api.TokPara}) {
			ends := x.Kind == api.TokPara || x.Kind == api.TokDirective
			switch {
			case x.Kind == api.TokOpen:
				depth++
			case x.Kind == api.TokClose:
				depth--
			case x.Kind == api.TokBar && depth == 0, ends && depth != 0:
				t.Fatalf("Lex(%q): %v where %d braces are open", s, x, depth)
			case x.Kind == api.TokRun:
				if x.Text == "" || strings.Contains(x.Text, "  ") || strings.ContainsAny(x.Text, "\t\r\n") || begins && x.Text[0] == ' ' || last.Kind == api.TokRun {
					t.Fatalf("Lex(%q): %v behind %v", s, x, last)
				}
			}
			if depth < 0 || depth > api.MaxNest {
				t.Fatalf("Lex(%q): %d braces are open", s, depth)
			}
			if ends && last.Kind == api.TokRun && strings.HasSuffix(last.Text, " ") {
				t.Fatalf("Lex(%q): %v ends a paragraph", s, last)
			}
			deepest = max(deepest, depth)
			begins, last = ends, x
		}
	}
	if deepest < 4 {
		t.Error("too few braces within one another: ", deepest)
	}
}

// P4.5

func TestEscapedTextIsOneRun(t *testing.T) {
	d := dice(5)
	signs := []string{`\`, "{", "}", "|", ".", "#", "a", "q", "é", "\u4e2d", "\u00a0", "\ufffd", "\u0301", "b c", "{b x}", `\\`, "{ ", " }", " .", " #", ".topic"}
	l := []string{"a", ".", "#", "|", "{", "}", `\`, ".a", "# a", "{b x|y}", `\n`, strings.Repeat("{", 2000), strings.Repeat("\\", 2000), "." + strings.Repeat("|", 1999), strings.Repeat("é", 1000)}
	for range 10000 {
		var b strings.Builder
		for range 1 + d.throw(12) {
			b.WriteString(d.one(signs))
		}
		if s := strings.Trim(b.String(), " "); s != "" && !strings.Contains(s, "  ") {
			l = append(l, s)
		}
	}
	if len(l) < 5000 {
		t.Error("too few texts: ", len(l))
	}
	for _, s := range l {
		wantTokens(t, mark.Escape(s), run(s, 1, 1))
	}
}

// P4.6

// counted answers tokens with so many added to their lines.
func counted(l []api.Token, by int) []api.Token {
	l = slices.Clone(l)
	for i := range l {
		l[i].Line += by
	}
	return l
}

func TestLinesPart(t *testing.T) {
	l, all := taken(t, 6, 4000)
	pairs := 0
	for i, one := range l {
		if one == "" || strings.HasSuffix(one, "\n") || strings.HasSuffix(one, "\r") {
			continue
		}
		lines := strings.Count(one, "\n") + 1
		for j := i + 1; j < min(i+4, len(l)); j++ {
			want := append(slices.Clone(all[i]), para(lines+1))
			want = append(want, counted(all[j], lines+1)...)
			wantTokens(t, one+"\n\n"+l[j], want...)
			pairs++
		}
	}
	if pairs < 1000 {
		t.Error("too few pairs: ", pairs)
	}
	wantTokens(t, "a\n\n", run("a", 1, 1), para(2))
	wantTokens(t, "a\n\n\r", run("a", 1, 1), para(2), para(3))
	wantTokens(t, "a\n#\n\nb", run("a", 1, 1), para(3), run("b", 4, 1))
}

// P4.7

func TestACommentAhead(t *testing.T) {
	l, all := taken(t, 7, 4000)
	for i, s := range l {
		for _, c := range []string{"#", "# {", "#}\\q|", "#.Topic \u4e2d", "## ", "#" + strings.Repeat("a", api.MaxLine-1)} {
			for _, end := range []string{"\n", "\r\n"} {
				wantTokens(t, c+end+s, counted(all[i], 1)...)
			}
		}
	}
	wantTokens(t, "# a")
	wantTokens(t, "# a\n")
}
