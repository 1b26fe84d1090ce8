package src

import "folio/api"

// directives answers what each directive does, by its name; it is handed its token and its argument.
func (x *reader) directives() map[string]func(t api.Token, arg string) {
	return map[string]func(t api.Token, arg string){
		"style": x.style,
		"topic": x.begin,
		"note":  x.begin,
		"toc":   x.level,
		"key":   x.key,
		"see":   x.see,
		"para":  x.paraStyle,
		"list":  x.list,
		"item":  x.item,
		"table": x.table,
		"row":   x.row,
		"end":   x.end,
	}
}

func (x *reader) style(t api.Token, arg string) {
	must(x.topic() == nil, api.ErrOrder, t)
	must(arg != "", api.ErrArg, t)
	must(len(x.source.Styles) < api.MaxStyles, api.ErrLong, t)
	x.source.Styles = append(x.source.Styles, api.StyleDef{Text: arg, Line: t.Line})
}

// begin is that of a topic and of a note.
func (x *reader) begin(t api.Token, arg string) {
	x.endTopic()
	kind := api.KindTopic
	if t.Name == "note" {
		kind = api.KindNote
	}
	name, title, two := parted(arg, "|")
	if !two {
		title = name
	}
	must(fits(name, api.MaxName) && fits(title, api.MaxTitle), api.ErrArg, t)
	must(len(x.source.Topics) < api.MaxTopics, api.ErrLong, t)
	x.source.Topics = append(x.source.Topics, api.Topic{Kind: kind, Name: name, Title: title, Line: t.Line})
	x.began = t
}

func (x *reader) level(t api.Token, arg string) {
	must(x.bare() && x.topic().Level == 0, api.ErrOrder, t)
	n, ok := number(arg, 1, api.MaxLevel)
	must(ok, api.ErrArg, t)
	x.topic().Level = n
}

func (x *reader) key(t api.Token, arg string) {
	must(x.bare(), api.ErrOrder, t)
	term, sub, two := parted(arg, ";")
	must(fits(term, api.MaxName) && (!two || fits(sub, api.MaxName)), api.ErrArg, t)
	in := x.topic()
	must(len(in.Keys) < api.MaxKeys, api.ErrLong, t)
	in.Keys = append(in.Keys, api.KeyRef{Term: term, Sub: sub, Line: t.Line})
}

func (x *reader) see(t api.Token, arg string) {
	must(x.bare(), api.ErrOrder, t)
	from, to, two := parted(arg, "->")
	must(two && fits(from, api.MaxName) && fits(to, api.MaxName), api.ErrArg, t)
	in := x.topic()
	must(len(in.Sees) < api.MaxKeys, api.ErrLong, t)
	in.Sees = append(in.Sees, api.SeeRef{From: from, To: to, Line: t.Line})
}

func (x *reader) paraStyle(t api.Token, arg string) {
	must(x.room() == api.OK, api.ErrOrder, t)
	must(styleName(arg), api.ErrArg, t)
	x.para = t
}

func (x *reader) list(t api.Token, arg string) {
	must(x.topic() != nil && (x.innermost() == nil || x.inItem()), api.ErrOrder, t)
	must(arg == "bullet" || arg == "number", api.ErrArg, t)
	must(len(x.open) < api.MaxDepth, api.ErrLong, t) // lists stand in nothing but lists
	n := 0
	if arg == "number" {
		n = 1
	}
	x.put(api.Block{Kind: api.BlockList, N: n, Line: t.Line})
	x.open = append(x.open, opened{by: t})
}

func (x *reader) item(t api.Token, arg string) {
	in := x.innermost()
	must(in != nil && !in.table(), api.ErrOrder, t)
	must(arg == "", api.ErrArg, t)
	x.put(api.Block{Kind: api.BlockItem, Line: t.Line})
	in.parts++
}

func (x *reader) table(t api.Token, arg string) {
	must(x.topic() != nil && x.innermost() == nil, api.ErrOrder, t)
	columns, ok := widths(arg)
	must(ok, api.ErrArg, t)
	x.put(api.Block{Kind: api.BlockTable, Widths: columns, Line: t.Line})
	x.open = append(x.open, opened{by: t, wide: len(columns)})
}

func (x *reader) row(t api.Token, arg string) {
	in := x.innermost()
	must(in != nil && in.table(), api.ErrOrder, t)
	must(!in.short(), api.ErrRow, t)
	must(arg == "", api.ErrArg, t)
	x.put(api.Block{Kind: api.BlockRow, Line: t.Line})
	in.parts++
	in.cells = 0
}

func (x *reader) end(t api.Token, arg string) {
	in := x.innermost()
	must(in != nil, api.ErrOrder, t)
	must(!in.short(), api.ErrRow, t)
	must(arg == "", api.ErrArg, t)
	x.put(api.Block{Kind: api.BlockEnd, Line: t.Line})
	x.open = x.open[:len(x.open)-1]
}
