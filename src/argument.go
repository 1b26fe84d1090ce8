package src

import (
	"strconv"
	"strings"

	"folio/api"
	"folio/text"
)

// joined answers a text as an argument: without blanks at its ends, and with one between its words.
func joined(s string) string {
	var words []string
	for _, w := range text.Words(strings.ReplaceAll(s, "\t", " ")) {
		words = append(words, w.Text)
	}
	return strings.Join(words, " ")
}

// parted answers the two parts of an argument, and whether there are two.
func parted(arg, by string) (string, string, bool) {
	first, second, ok := strings.Cut(arg, by)
	return joined(first), joined(second), ok
}

// fits answers whether an argument or a part of one is something, and not too long.
func fits(s string, long int) bool { return s != "" && len(s) <= long }

// number answers the number that a text is, if it is one from least to most, in its one form.
func number(s string, least, most int) (int, bool) {
	n, err := strconv.Atoi(s)
	if err != nil || strconv.Itoa(n) != s || n < least || n > most {
		return 0, false
	}
	return n, true
}

// widths answers the columns of a table.
func widths(arg string) ([]int, bool) {
	parts := strings.Split(arg, " ")
	if len(parts) > api.MaxColumns {
		return nil, false
	}
	var l []int
	for _, p := range parts {
		n, ok := number(p, 0, 100)
		if !ok {
			return nil, false
		}
		l = append(l, n)
	}
	return l, true
}

// styleName answers whether a text is letters as a style's name has them.
func styleName(s string) bool {
	return fits(s, api.MaxWord) && strings.Trim(s, "abcdefghijklmnopqrstuvwxyz") == ""
}
