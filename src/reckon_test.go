package src_test

import (
	"errors"
	"fmt"
	"regexp"
	"slices"
	"strconv"
	"strings"

	"folio/api"
	"folio/fault"
	"folio/mark"
)

// Here Parse and Write are reckoned another way: what has come in a topic is a string of letters, and patterns tell what may follow.

// letterOf is that of each directive; a paragraph is p, what has ended is d.
func letterOf(name string) string {
	l := map[string]string{
		"style": "S", "topic": "T", "note": "N", "toc": "C", "key": "K", "see": "E", "para": "P",
		"list": "L", "item": "I", "table": "B", "row": "R", "end": "X",
	}
	return l[name]
}

var (
	ended    = regexp.MustCompile(`[LB][^LBX]*X`)
	lastOpen = regexp.MustCompile(`[LB][^LB]*$`)
	headOnly = regexp.MustCompile(`^T[CKE]*$`)
	oneSpace = regexp.MustCompile(`[ \t]+`)
	letters  = regexp.MustCompile(`^[a-z]{1,12}$`)
	levels   = regexp.MustCompile(`^[1-8]$`)
	columns  = regexp.MustCompile(`^(0|[1-9][0-9]?|100)( (0|[1-9][0-9]?|100)){0,7}$`)
	halves   = regexp.MustCompile(`^([^|]+)\|(.+)$`)
	subs     = regexp.MustCompile(`^([^;]+);(.+)$`)
	arrow    = regexp.MustCompile(`^(.+?)->(.+)$`)
)

func squeezed(s string) string { return strings.Trim(oneSpace.ReplaceAllString(s, " "), " ") }

// reckoned is a source that is being reckoned: for each letter the token with which it begins.
type reckoned struct {
	s      api.Source
	come   string
	tokens []api.Token
	f      api.Fault
}

func (x *reckoned) wrong(code api.Errno, t api.Token, word string) {
	if x.f.Code == api.OK {
		x.f = api.Fault{Code: code, Line: t.Line, Col: t.Col, Word: word}
	}
}

// topic answers what has come in the topic that has begun last, what has ended as d's; and where that begins in come.
func (x *reckoned) topic() (string, int) {
	at := strings.LastIndexAny(x.come, "TN")
	if at < 0 {
		return "", 0
	}
	l := x.come[at:]
	for next := ""; next != l; {
		if next != "" {
			l = next
		}
		next = ended.ReplaceAllStringFunc(l, func(s string) string { return strings.Repeat("d", len(s)) })
	}
	return l, at
}

// wide answers how many columns a table has, whose letter stands at that place.
func (x *reckoned) wide(at int) int { return len(strings.Fields(x.tokens[at].Text)) }

// room answers what is wrong with a paragraph; and whether a row lacks paragraphs.
func (x *reckoned) room() (api.Errno, bool) {
	l, at := x.topic()
	if l == "" {
		return api.ErrOutside, false
	}
	in := lastOpen.FindStringIndex(l)
	if in == nil {
		return api.OK, false
	}
	part := l[in[0]:]
	switch {
	case part[0] == 'L' && strings.Contains(part, "I"):
		return api.OK, false
	case part[0] == 'L' || !strings.Contains(part, "R"):
		return api.ErrOutside, false
	case strings.Count(part[strings.LastIndex(part, "R"):], "p") < x.wide(at+in[0]):
		return api.OK, true
	}
	return api.ErrRow, false
}

func parsePlainly(s string) (api.Source, api.Fault) {
	tokens, err := mark.Lex(s)
	if err != nil {
		f := fault.Told(err)
		f.Trail = []api.Step{{Layer: "mark", What: 0}}
		return api.Source{}, f
	}
	var x reckoned
	for i := 0; i < len(tokens) && x.f.Code == api.OK; {
		n := 1
		switch tokens[i].Kind {
		case api.TokDirective:
			x.directive(tokens[i])
		case api.TokPara:
		default:
			for i+n < len(tokens) && tokens[i+n].Kind > api.TokPara {
				n++
			}
			x.paragraph(tokens[i : i+n])
		}
		i += n
	}
	x.waiting()
	x.ending()
	if x.f.Code != api.OK {
		return api.Source{}, x.f
	}
	return x.s, x.f
}

func (x *reckoned) waiting() {
	if strings.HasSuffix(x.come, "P") {
		x.wrong(api.ErrOpen, x.tokens[len(x.tokens)-1], "para")
	}
}

// ending looks at the end of a topic.
func (x *reckoned) ending() {
	l, at := x.topic()
	if in := lastOpen.FindStringIndex(l); in != nil {
		t := x.tokens[at+in[0]]
		x.wrong(api.ErrOpen, t, t.Name)
	}
	long := 0
	for _, b := range x.blocks() {
		for _, p := range b.Text {
			long += len(p.Text)
		}
	}
	if long > 16384 {
		x.wrong(api.ErrLong, x.tokens[at], x.tokens[at].Name)
	}
}

func (x *reckoned) last() *api.Topic {
	if len(x.s.Topics) == 0 {
		return &api.Topic{}
	}
	return &x.s.Topics[len(x.s.Topics)-1]
}

func (x *reckoned) blocks() []api.Block { return x.last().Blocks }

// stands answers whether a directive may stand behind what has come.
func (x *reckoned) stands(letter string) bool {
	l, _ := x.topic()
	part := lastOpen.FindString(l)
	code, _ := x.room()
	head := headOnly.MatchString(l)
	switch letter {
	case "S":
		return l == ""
	case "T", "N":
		return true
	case "C":
		return head && !strings.Contains(l, "C")
	case "K", "E":
		return head
	case "P":
		return code == api.OK
	case "L":
		return l != "" && (part == "" || strings.HasPrefix(part, "L") && strings.Contains(part, "I"))
	case "I":
		return strings.HasPrefix(part, "L")
	case "B":
		return l != "" && part == ""
	case "R":
		return strings.HasPrefix(part, "B")
	case "X":
		return part != ""
	}
	return false
}

func (x *reckoned) directive(t api.Token) {
	x.waiting()
	letter := letterOf(t.Name)
	if letter == "T" || letter == "N" {
		x.ending()
	}
	if !x.stands(letter) {
		x.wrong(api.ErrOrder, t, t.Name)
	}
	if _, lacks := x.room(); lacks && (letter == "R" || letter == "X") {
		x.wrong(api.ErrRow, t, t.Name)
	}
	if x.f.Code == api.OK {
		x.act(letter, t, squeezed(t.Text))
	}
	x.come += letter
	x.tokens = append(x.tokens, t)
}

func (x *reckoned) block(kind api.BlockKind, t api.Token, change func(b *api.Block)) {
	b := api.Block{Kind: kind, Line: t.Line}
	if change != nil {
		change(&b)
	}
	x.last().Blocks = append(x.last().Blocks, b)
}

// act does what a directive does, or tells that its argument is wrong, or that there are too many.
func (x *reckoned) act(letter string, t api.Token, arg string) {
	last := x.last()
	many, ok := false, true
	fits := func(s string, long int) bool { return len(s) > 0 && len(s) <= long }
	two := func(by *regexp.Regexp, long int) (string, string, bool) {
		if l := by.FindStringSubmatch(arg); l != nil {
			one, other := squeezed(l[1]), squeezed(l[2])
			return one, other, fits(one, 64) && fits(other, long)
		}
		return "", "", false
	}
	switch letter {
	case "S":
		ok, many = arg != "", len(x.s.Styles) == 64
		x.s.Styles = append(x.s.Styles, api.StyleDef{Text: arg, Line: t.Line})
	case "T", "N":
		name, title, both := two(halves, 200)
		if !strings.Contains(arg, "|") {
			name, title, both = arg, arg, fits(arg, 64)
		}
		ok, many = both, len(x.s.Topics) == 1000
		x.s.Topics = append(x.s.Topics, api.Topic{Kind: strings.Index("TN", letter), Name: name, Title: title, Line: t.Line})
	case "C":
		ok = levels.MatchString(arg)
		last.Level, _ = strconv.Atoi(arg)
	case "K":
		term, sub, both := two(subs, 64)
		if !strings.Contains(arg, ";") {
			term, sub, both = arg, "", fits(arg, 64)
		}
		ok, many = both, len(last.Keys) == 64
		last.Keys = append(last.Keys, api.KeyRef{Term: term, Sub: sub, Line: t.Line})
	case "E":
		from, to, both := two(arrow, 64)
		ok, many = both && !strings.HasPrefix(arg, "->"), len(last.Sees) == 64
		last.Sees = append(last.Sees, api.SeeRef{From: from, To: to, Line: t.Line})
	case "P":
		ok = letters.MatchString(arg)
	case "L":
		l, _ := x.topic()
		ok, many = arg == "bullet" || arg == "number", strings.Count(l, "L") == 8
		x.block(api.BlockList, t, func(b *api.Block) { b.N = strings.Count(arg, "number") })
	case "B":
		ok = columns.MatchString(arg)
		x.block(api.BlockTable, t, func(b *api.Block) { b.Widths = integers(arg) })
	case "I", "R", "X":
		ok = arg == ""
		x.block(api.BlockKind(map[string]int{"I": 3, "R": 5, "X": 6}[letter]), t, nil)
	}
	if !ok {
		x.wrong(api.ErrArg, t, t.Name)
	}
	if many {
		x.wrong(api.ErrLong, t, t.Name)
	}
}

func integers(s string) []int {
	var l []int
	for _, f := range strings.Fields(s) {
		n, _ := strconv.Atoi(f)
		l = append(l, n)
	}
	return l
}

func (x *reckoned) paragraph(l []api.Token) {
	code, _ := x.room()
	if code != api.OK {
		x.wrong(code, l[0], "")
	}
	p := within{tokens: l}
	text, err := p.all(false)
	if err != nil {
		var f *fault.Error
		errors.As(err, &f)
		x.wrong(api.ErrBrace, api.Token{Line: f.Fault().Line, Col: f.Fault().Col}, f.Fault().Word)
	}
	x.block(api.BlockPara, l[0], func(b *api.Block) {
		b.Text = text
		if strings.HasSuffix(x.come, "P") {
			b.Style = squeezed(x.tokens[len(x.tokens)-1].Text)
		}
	})
	x.come += "p"
	x.tokens = append(x.tokens, l[0])
}

// within goes down into a paragraph's braces, call by call.
type within struct {
	tokens []api.Token
	at     int
}

// follow answers whether tokens of these kinds come next.
func (p *within) follow(kinds ...int) bool {
	for i, kind := range kinds {
		if p.at+i >= len(p.tokens) || p.tokens[p.at+i].Kind != kind {
			return false
		}
	}
	return true
}

// all answers the pieces up to the brace that closes, or to the end.
func (p *within) all(linked bool) ([]api.Inline, error) {
	var l []api.Inline
	for p.at < len(p.tokens) && !p.follow(api.TokClose) {
		some, err := p.one(linked)
		if err != nil {
			return nil, err
		}
		l = append(l, some...)
	}
	return l, nil
}

func (p *within) one(linked bool) ([]api.Inline, error) {
	t := p.tokens[p.at]
	first := api.Inline{Kind: api.InText, Text: t.Text, Line: t.Line, Col: t.Col}
	wrong := fault.New(api.ErrBrace, 0, t.Line, t.Col, t.Name)
	p.at++
	if t.Kind == api.TokRun {
		return []api.Inline{first}, nil
	}
	if t.Kind == api.TokBar {
		return nil, wrong
	}
	switch t.Name {
	case "tab", "br":
		if !p.follow(api.TokClose) {
			return nil, wrong
		}
		p.at++
		first.Kind = map[string]api.InlineKind{"tab": api.InTab, "br": api.InBreak}[t.Name]
		return []api.Inline{first}, nil
	case "link", "note":
		bar, alone := p.follow(api.TokRun, api.TokBar), p.follow(api.TokRun, api.TokClose)
		if linked || !bar && !alone {
			return nil, wrong
		}
		r := p.tokens[p.at]
		first.Kind, first.Name = linkKind(t.Name), squeezed(r.Text)
		if len(first.Name) > 64 {
			return nil, wrong
		}
		p.at++
		if bar {
			p.at++
			return p.closed(first, true)
		}
		l, err := p.closed(first, true)
		return slices.Insert(l, 1, api.Inline{Kind: api.InText, Text: first.Name, Line: r.Line, Col: r.Col}), err
	}
	first.Kind, first.Name = api.InStyle, t.Name
	return p.closed(first, linked)
}

// closed answers a piece, those within, and the one that closes it.
func (p *within) closed(first api.Inline, linked bool) ([]api.Inline, error) {
	l, err := p.all(linked)
	if err != nil {
		return nil, err
	}
	t := p.tokens[p.at]
	p.at++
	return append(append([]api.Inline{first}, l...), api.Inline{Kind: api.InClose, Line: t.Line, Col: t.Col}), nil
}

// writePlainly is Write.
func writePlainly(s api.Source) string {
	var l []string
	add := func(form string, args ...any) { l = append(l, fmt.Sprintf(form, args...)) }
	for _, d := range s.Styles {
		add(".style %s", d.Text)
	}
	for _, t := range s.Topics {
		add("")
		form := map[bool]string{true: ".note %s", false: ".topic %s"}[t.Kind == 1] + map[bool]string{true: "%.0s", false: " | %s"}[t.Title == t.Name]
		add(form, t.Name, t.Title)
		for range min(1, t.Level*t.Level) {
			add(".toc %d", t.Level)
		}
		for _, k := range t.Keys {
			add(map[bool]string{true: ".key %s%s", false: ".key %s ; %s"}[k.Sub == ""], k.Term, k.Sub)
		}
		for _, e := range t.Sees {
			add(".see %s -> %s", e.From, e.To)
		}
		for _, b := range t.Blocks {
			l = append(l, blockPlainly(b)...)
		}
	}
	return strings.Join(append(l, ""), "\n")
}

func blockPlainly(b api.Block) []string {
	switch b.Kind {
	case api.BlockPara:
		l := cutPlainly(strings.FieldsFunc(piecesPlainly(b.Text), func(r rune) bool { return r == ' ' }))
		if b.Style != "" {
			l = slices.Insert(l, 0, ".para "+b.Style)
		}
		return append(l, "")
	case api.BlockList:
		return []string{map[bool]string{true: ".list bullet", false: ".list number"}[b.N == 0]}
	case api.BlockTable:
		return []string{strings.TrimSuffix(".table "+strings.Trim(fmt.Sprint(b.Widths), "[]"), " ")}
	case api.BlockItem, api.BlockRow, api.BlockEnd:
		return []string{map[api.BlockKind]string{3: ".item", 5: ".row", 6: ".end"}[b.Kind]}
	}
	return nil
}

// cutPlainly answers the lines of pieces: the most that go into the first one, and then the others'.
func cutPlainly(l []string) []string {
	n := len(l)
	for n > 1 && len(strings.Join(l[:n], " ")) > 78 {
		n--
	}
	line := regexp.MustCompile(`^[.#]`).ReplaceAllString(strings.Join(l[:n], " "), `\$0`)
	if n == len(l) {
		return []string{line}
	}
	return append([]string{line}, cutPlainly(l[n:])...)
}

func piecesPlainly(l []api.Inline) string {
	var b strings.Builder
	within, outside := strings.NewReplacer(`\`, `\\`, "{", `\{`, "}", `\}`, "|", `\|`), strings.NewReplacer(`\`, `\\`, "{", `\{`, "}", `\}`)
	for i, p := range l {
		opened := slices.DeleteFunc(slices.Clone(l[:i]), func(p api.Inline) bool { return p.Kind < api.InStyle || p.Kind > api.InNote })
		closed := slices.DeleteFunc(slices.Clone(l[:i]), func(p api.Inline) bool { return p.Kind != api.InClose })
		escape := outside.Replace
		if len(closed) < len(opened) {
			escape = within.Replace
		}
		switch p.Kind {
		case api.InText:
			b.WriteString(escape(p.Text))
		case api.InStyle:
			b.WriteString("{" + p.Name + " ")
			if i == len(l)-1 || l[i+1].Kind == api.InClose {
				s := strings.TrimSuffix(b.String(), " ")
				b.Reset()
				b.WriteString(s)
			}
		case api.InLink:
			b.WriteString("{link " + within.Replace(p.Name) + "|")
		case api.InNote:
			b.WriteString("{note " + within.Replace(p.Name) + "|")
		default:
			b.WriteString(map[api.InlineKind]string{api.InClose: "}", api.InTab: "{tab}", api.InBreak: "{br}"}[p.Kind])
		}
	}
	return b.String()
}
