package style

import (
	"slices"
	"strings"

	"folio/api"
)

// The colors that have a meaning of their own.
const (
	sameColor  = -1 // of a change: it leaves the color as it was
	plainColor = 7
	lastColor  = 15
)

// basic answers a style without a parent that puts bits and does nothing else.
func basic(name string, on int) api.Style {
	return api.Style{Name: name, Own: api.Change{On: on, Color: sameColor}}
}

// isName answers whether a text may be a style's name.
func isName(s string) bool {
	return s != "" && len(s) <= api.MaxWord && strings.Trim(s, "abcdefghijklmnopqrstuvwxyz") == ""
}

// checkOwn answers what is wrong with a style, whatever its parents are.
func checkOwn(sheet []api.Style, n int) api.Errno {
	s := sheet[n]
	first, _ := Find(sheet, s.Name)
	switch {
	case !isName(s.Name):
		return api.ErrStyleName
	case first < n:
		return api.ErrStyleTwice
	case (s.Own.On|s.Own.Off)&^allBits != 0: // of a number below 0, too: its sign is one more bit
		return api.ErrStyleBits
	case s.Own.On&s.Own.Off != 0:
		return api.ErrStyleBits
	case s.Own.Color < sameColor || s.Own.Color > lastColor:
		return api.ErrStyleColor
	}
	return api.OK
}

// checkParents answers what is wrong with a style's parents.
func checkParents(sheet []api.Style, n int) api.Errno {
	parent := sheet[n].Parent
	if _, ok := Find(sheet, parent); parent != "" && !ok {
		return api.ErrStyleParent
	}
	if _, ok := chain(sheet, n); !ok {
		return api.ErrStyleChain
	}
	return api.OK
}

// chain answers the numbers of a style and of its parents, itself ahead, and whether they are at most MaxChain. Styles that
// come back to themselves are told by that, too: they never come to an end.
func chain(sheet []api.Style, n int) ([]int, bool) {
	var l []int
up:
	for {
		l = append(l, n)
		parent, ok := Find(sheet, sheet[n].Parent)
		switch {
		case sheet[n].Parent == "" || !ok: // a parent that there isn't is told of the style that names it
			break up
		case len(l) == api.MaxChain:
			return nil, false
		}
		n = parent
	}
	return l, true
}

// whole answers the change of a style of a sheet that Check takes, with all that it inherits.
func whole(sheet []api.Style, n int) api.Change {
	l, _ := chain(sheet, n)
	c := api.Change{Color: sameColor}
	for _, k := range slices.Backward(l) {
		c = Then(c, sheet[k].Own)
	}
	return c
}

// over answers a color when a change gives another one to what has it.
func over(color, change int) int {
	if change == sameColor {
		return color
	}
	return change
}
