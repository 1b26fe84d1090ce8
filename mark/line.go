package mark

import (
	"strings"
	"unicode/utf8"

	"folio/api"
	"folio/text"
)

// blanks are the bytes that part words.
const blanks = " \t"

// meant are the bytes that may stand behind a backslash.
const meant = "\\{}|.#"

// fit answers what is wrong with a line, whatever it means.
func fit(line string) error {
	if len(line) > api.MaxLine {
		return wrong(api.ErrLong, 1, "")
	}
	if at, ok := text.Plain(strings.ReplaceAll(line, "\t", " ")); !ok {
		return wrong(api.ErrChar, at+1, "")
	}
	return nil
}

// blank answers whether a line parts paragraphs.
func blank(line string) bool { return strings.Trim(line, blanks) == "" }

// directive answers a directive's name and text.
func directive(line string) (string, string, error) {
	name := letters(line[1:])
	rest := line[1+len(name):]
	if !named(name, rest, blanks) {
		return "", "", wrong(api.ErrDirective, 2, name[:min(len(name), api.MaxWord)])
	}
	return name, strings.Trim(rest, blanks), nil
}

// brace answers the name of a brace; col is the brace's, rest what stands behind it.
func brace(rest string, col int) (string, error) {
	name := letters(rest)
	if !named(name, rest[len(name):], blanks+"|}") {
		return "", wrong(api.ErrNameless, col, "")
	}
	return name, nil
}

// escaped answers the character that a backslash stands ahead of; col is the backslash's, rest what stands behind it.
func escaped(rest string, col int) (string, error) {
	_, long := utf8.DecodeRuneInString(rest)
	if long == 0 || !strings.Contains(meant, rest[:long]) {
		return "", wrong(api.ErrEscape, col, rest[:long])
	}
	return rest[:long], nil
}

// letters answers the letters with which a text begins.
func letters(s string) string {
	return s[:len(s)-len(strings.TrimLeft(s, "abcdefghijklmnopqrstuvwxyz"))]
}

// named answers whether letters are a name that ends where it may: at the line's end, or ahead of one of the bytes of ends.
func named(name, rest, ends string) bool {
	if name == "" || len(name) > api.MaxWord {
		return false
	}
	return rest == "" || strings.Contains(ends, rest[:1])
}
