package layout

import "folio/api"

// plain is the look of what no style has changed.
func plain() api.Look { return api.Look{Color: 7} }

// looks are looks laid one on the other: the plain one, that of a paragraph, and those of what is open in it.
type looks struct {
	stack [2 + api.MaxNest]worn
	high  int
}

// worn is a look, and whether a link or a note wears it.
type worn struct {
	look api.Look
	link bool
}

func (s *looks) lay(look api.Look, link bool) {
	s.stack[s.high] = worn{look, link}
	s.high++
}

func (s *looks) top() api.Look { return s.stack[s.high-1].look }

// takeOff takes the top look off, and answers whether a link or a note wore it.
func (s *looks) takeOff() bool {
	s.high--
	return s.stack[s.high].link
}
