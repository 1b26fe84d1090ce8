package style

import (
	"strconv"
	"strings"

	"folio/api"
)

// The attributes by their numbers: the bit of each is 1 shifted by its number.
const (
	bold = iota
	italic
	under
	strike
	mono
	small
	reverse
	attributes // how many they are
)

// allBits are those of all attributes.
const allBits = 1<<attributes - 1

// colorWord is what stands ahead of a color in a style's text.
const colorWord = "color"

// attributeWords are the attributes' words in a style's text.
var attributeWords = [attributes]string{
	bold:    "bold",
	italic:  "italic",
	under:   "under",
	strike:  "strike",
	mono:    "mono",
	small:   "small",
	reverse: "reverse",
}

// writeBits writes the words of bits, each with what stands ahead of it.
func writeBits(b *strings.Builder, ahead string, bits int) {
	for n := range attributes {
		if bits&(1<<n) != 0 {
			b.WriteString(ahead + attributeWords[n])
		}
	}
}

// readNames answers a style that changes nothing yet, of the first word of its text.
func readNames(word string) (api.Style, bool) {
	name, parent, inherits := strings.Cut(word, ":")
	if !isName(name) || inherits && !isName(parent) {
		return api.Style{}, false
	}
	return api.Style{Name: name, Parent: parent, Own: api.Change{Color: sameColor}}, true
}

// readChange puts into a change what the first of the words says, and answers how many words that took; 0: it may not stand
// there.
func readChange(c *api.Change, words []api.Word) int {
	if words[0].Text == colorWord {
		return readColor(c, words[1:])
	}
	return readBit(c, words[0].Text)
}

// readColor is readChange of a color, behind its word.
func readColor(c *api.Change, words []api.Word) int {
	if len(words) == 0 || c.Color != sameColor {
		return 0
	}
	word := words[0].Text
	n, err := strconv.Atoi(word)
	if err != nil || strconv.Itoa(n) != word || n < 0 || n > lastColor {
		return 0
	}
	c.Color = n
	return 2
}

// readBit is readChange of an attribute, its sign ahead.
func readBit(c *api.Change, word string) int {
	bit := bitOf(word[1:])
	if bit == 0 || (c.On|c.Off)&bit != 0 {
		return 0
	}
	switch word[0] {
	case '+':
		c.On |= bit
	case '-':
		c.Off |= bit
	default:
		return 0
	}
	return 1
}

// bitOf answers the bit of an attribute's word; 0: it is none.
func bitOf(word string) int {
	for n := range attributes {
		if attributeWords[n] == word {
			return 1 << n
		}
	}
	return 0
}
