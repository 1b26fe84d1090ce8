package src

import (
	"slices"

	"folio/api"
	"folio/fault"
)

// reader takes tokens one behind the other. What it keeps beside the source belongs to the topic that has begun last.
type reader struct {
	source api.Source
	began  api.Token // the directive by which the topic has begun
	open   []opened  // its lists and tables that have begun and not ended, the innermost last
	para   api.Token // the directive whose paragraph has not come yet; the zero token: there is none
}

// opened is a list or a table that is open.
type opened struct {
	by    api.Token // the directive by which it has begun
	wide  int       // how many paragraphs a row has; 0: it is a list
	parts int       // how many items or rows have begun
	cells int       // how many paragraphs the last row has so far
}

func (o opened) table() bool { return o.wide > 0 }

// short answers whether the last row lacks paragraphs.
func (o opened) short() bool { return o.table() && o.parts > 0 && o.cells < o.wide }

// must throws a fault, with the place and the name of a token, unless all is well: Parse catches it.
func must(well bool, code api.Errno, t api.Token) {
	if !well {
		panic(fault.New(code, 0, t.Line, t.Col, t.Name))
	}
}

// read answers the source of which these are the tokens; it throws the first fault.
func read(tokens []api.Token) api.Source {
	var x reader
	acts := x.directives()
	for len(tokens) > 0 {
		taken := 1
		switch t := tokens[0]; t.Kind {
		case api.TokDirective:
			x.ready()
			act, ok := acts[t.Name]
			must(ok, api.ErrOrder, t)
			act(t, joined(t.Text))
		case api.TokPara:
		default:
			taken = paragraphEnd(tokens)
			x.paragraph(tokens[:taken])
		}
		tokens = tokens[taken:]
	}
	x.ready()
	x.endTopic()
	return x.source
}

// paragraphEnd answers how many tokens ahead of the next directive or TokPara there are.
func paragraphEnd(tokens []api.Token) int {
	end := slices.IndexFunc(tokens, func(t api.Token) bool {
		return t.Kind == api.TokDirective || t.Kind == api.TokPara
	})
	if end < 0 {
		return len(tokens)
	}
	return end
}

// ready throws, if a paragraph must come next.
func (x *reader) ready() { must(x.para.Kind == 0, api.ErrOpen, x.para) }

// endTopic ends the topic that has begun last, if one has.
func (x *reader) endTopic() {
	if in := x.innermost(); in != nil {
		must(false, api.ErrOpen, in.by)
	}
	if t := x.topic(); t != nil {
		must(Bytes(*t) <= api.MaxText, api.ErrLong, x.began)
	}
}

// topic answers the one that has begun last; nil: none has.
func (x *reader) topic() *api.Topic {
	if n := len(x.source.Topics); n > 0 {
		return &x.source.Topics[n-1]
	}
	return nil
}

// innermost answers what has begun last of what is open; nil: nothing is open.
func (x *reader) innermost() *opened {
	if n := len(x.open); n > 0 {
		return &x.open[n-1]
	}
	return nil
}

// put puts a block down behind those of the topic.
func (x *reader) put(b api.Block) {
	t := x.topic()
	t.Blocks = append(t.Blocks, b)
}

// bare answers whether a topic has begun, no note, and nothing but what goes ahead of its blocks has come.
func (x *reader) bare() bool {
	t := x.topic()
	return t != nil && t.Kind == api.KindTopic && len(t.Blocks) == 0
}

// inItem answers whether the innermost is a list that has an item.
func (x *reader) inItem() bool {
	in := x.innermost()
	return in != nil && !in.table() && in.parts > 0
}

// room answers what is wrong with a paragraph that comes here: OK, if it may stand.
func (x *reader) room() api.Errno {
	in := x.innermost()
	switch {
	case x.topic() == nil:
		return api.ErrOutside
	case in == nil:
		return api.OK
	case in.parts == 0:
		return api.ErrOutside
	case in.table() && !in.short():
		return api.ErrRow
	}
	return api.OK
}

// paragraph takes the tokens of one.
func (x *reader) paragraph(l []api.Token) {
	first := api.Token{Line: l[0].Line, Col: l[0].Col} // no name: a brace's is not told
	code := x.room()
	must(code == api.OK, code, first)
	x.put(api.Block{Kind: api.BlockPara, Style: x.para.Text, Text: pieces(l), Line: first.Line})
	x.para = api.Token{}
	if in := x.innermost(); in != nil {
		in.cells++
	}
}
