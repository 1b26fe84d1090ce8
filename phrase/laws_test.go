package phrase_test

import (
	"cmp"
	"slices"
	"strings"
	"testing"

	"folio/api"
	"folio/phrase"
)

// dice throws numbers that are the same each time.
type dice uint64

func (d *dice) throw(n int) int {
	*d = *d*6364136223846793005 + 1442695040888963407
	return int(*d>>33) % n
}

func (d *dice) one(l ...int) int { return l[d.throw(len(l))] }

// text throws a text of so many words and blanks, of few kinds, so that runs come again.
func (d *dice) text(words, kinds int) string {
	all := []string{"the ", "cat ", "a ", "of  ", "dogs ", "\n ", "\x00\x01\x02 ", "x", " ", "in ", "sat.", "\xff\xfe ", "on on ", "mat"}
	var b strings.Builder
	for range words {
		b.WriteString(all[d.throw(min(kinds, len(all)))])
	}
	return b.String()
}

func (d *dice) texts() []string {
	var l []string
	kinds := 1 + d.throw(14)
	for range d.throw(5) {
		s := d.text(d.throw(40), kinds)
		l = append(l, s)
		if d.throw(6) == 0 {
			l = append(l, s)
		}
	}
	return l
}

// dictionary throws one that may be, out of runs of texts and of others.
func (d *dice) dictionary(texts []string) []string {
	all := slices.Concat(runsOf(texts), runsOf([]string{d.text(6, 14)}))
	var dict []string
	for range d.throw(40) {
		if len(all) == 0 {
			break
		}
		if p := all[d.throw(len(all))]; reckonedMayBe(p) && !slices.Contains(dict, p) {
			dict = append(dict, p)
		}
	}
	if d.throw(3) == 0 { // so that the numbers are greater
		dict = append(numbered("p", d.one(10, 20, 30, 300), 5), dict...)
	}
	return dict
}

// eachText hands over all texts of up to so many of these bytes.
func eachText(chars string, most int, try func(s string)) {
	var grow func(s string, n int)
	grow = func(s string, n int) {
		try(s)
		if n < most {
			for i := range len(chars) {
				grow(s+chars[i:i+1], n+1)
			}
		}
	}
	grow("", 0)
}

// A second reckoning, word for word as the chapter has it.

func reckonedPieces(s string) []string {
	var l []string
	for i := range len(s) {
		if i == 0 || s[i] != 32 && s[i-1] == 32 {
			l = append(l, "")
		}
		l[len(l)-1] += s[i : i+1]
	}
	return l
}

func reckonedMayBe(s string) bool {
	n := len(reckonedPieces(s))
	return len(s) >= 3 && len(s) <= 64 && n >= 1 && n <= 3
}

func reckonedCheck(dict []string) (int, api.Errno) {
	if len(dict) > 1024 {
		return 0, api.ErrLong
	}
	for i, p := range dict {
		switch {
		case !reckonedMayBe(p):
			return i, api.ErrPhrase
		case slices.Contains(dict[:i], p):
			return i, api.ErrTwicePhrase
		}
	}
	return 0, api.OK
}

// runsOf answers the runs of texts, each as often as it comes.
func runsOf(texts []string) []string {
	var l []string
	for _, s := range texts {
		p := reckonedPieces(s)
		for i := range p {
			for n := 1; n <= 3 && i+n <= len(p); n++ {
				l = append(l, strings.Join(p[i:i+n], ""))
			}
		}
	}
	return l
}

func reckonedCode(dict []string, s string) string {
	var b []byte
	p := reckonedPieces(s)
next:
	for len(p) > 0 {
		for n := min(3, len(p)); n > 0; n-- {
			if at := slices.Index(dict, strings.Join(p[:n], "")); at >= 0 {
				if at < 24 {
					b = append(b, byte(at+1))
				} else {
					b = append(b, byte(25+(at-24)>>8), byte(at-24))
				}
				p = p[n:]
				continue next
			}
		}
		for i := range len(p[0]) {
			if p[0][i] < 32 {
				b = append(b, 0)
			}
			b = append(b, p[0][i])
		}
		p = p[1:]
	}
	return string(b)
}

func reckonedTaken(dict, texts []string) int {
	n := 0
	for _, p := range dict {
		n += 1 + len(p)
	}
	for _, s := range texts {
		n += len(reckonedCode(dict, s))
	}
	return n
}

func reckonedGain(texts []string, p string) int {
	if !reckonedMayBe(p) {
		return 0
	}
	return reckonedTaken(nil, texts) - reckonedTaken([]string{p}, texts)
}

func reckonedCandidates(texts []string) []string {
	gains := map[string]int{}
	var l []string
	for _, r := range runsOf(texts) {
		if _, seen := gains[r]; !seen {
			gains[r] = reckonedGain(texts, r)
			if gains[r] > 0 {
				l = append(l, r)
			}
		}
	}
	slices.SortFunc(l, func(a, b string) int { return cmp.Or(gains[b]-gains[a], strings.Compare(a, b)) })
	return l[:min(len(l), 1024)]
}

func reckonedChoice(texts []string) []string {
	l := reckonedCandidates(texts)
	best := l[:0]
	for _, n := range []int{1, 2, 4, 8, 16, 32, 64, 128, 256, 512, 1024, len(l)} {
		if n <= len(l) && reckonedTaken(l[:n], texts) < reckonedTaken(best, texts) {
			best = l[:n]
		}
	}
	return best
}

// P14.1

func TestShortTextsHavePiecesAsReckoned(t *testing.T) {
	eachText("a \n\xa0", 6, func(s string) {
		wantPieces(t, s, reckonedPieces(s)...)
		if l := phrase.Pieces(s); strings.Join(l, "") != s {
			t.Errorf("Pieces of %q: %q", s, l)
		}
	})
}

func TestShortPhrasesAreAsReckoned(t *testing.T) {
	eachText("a b", 7, func(s string) {
		at, e := reckonedCheck([]string{s})
		wantCheck(t, []string{s}, at, e)
	})
	d := dice(3)
	for range 20000 {
		var dict []string
		for range d.throw(8) {
			dict = append(dict, d.text(1+d.throw(4), 14))
		}
		at, e := reckonedCheck(dict)
		wantCheck(t, dict, at, e)
		n := 0
		for _, p := range dict { // none of them has more than 127 bytes
			n += 1 + len(p)
		}
		wantSize(t, dict, n)
	}
}

// P14.2, P14.6, P14.8

// wantCodeAsReckoned asks for what s is coded, that it is decoded back, and that it is not much longer.
func wantCodeAsReckoned(t *testing.T, dict []string, s string) {
	t.Helper()
	c := reckonedCode(dict, s)
	wantCode(t, dict, s, c)
	if len(c) > 2*len(s) || strings.IndexFunc(s, func(r rune) bool { return r < 32 }) < 0 && len(c) > len(s) {
		t.Errorf("Code of %q by %s: %d bytes of %d", s, few(dict), len(c), len(s))
	}
}

func TestShortTextsAreCodedAsReckoned(t *testing.T) {
	for _, dict := range [][]string{
		nil, {"aa "}, {"aaa"}, {"a a"}, {"a a a"}, {"   "}, {"  a"}, {"a  "}, {"aa ", "a a ", "a a a "}, {"\n\n\n", "\n a ", "a\n "},
		{"a a ", "a a", "aa a", " a ", "  a ", " aa"}, append(numbered("p", 24, 4), "a a ", "a a", "aa a", " a ", "  a ", " aa"),
	} {
		eachText("a \n", 8, func(s string) { wantCodeAsReckoned(t, dict, s) })
	}
}

func TestTextsAreCodedAsReckoned(t *testing.T) {
	d := dice(4)
	for range 3000 {
		texts := d.texts()
		dict := d.dictionary(texts)
		for _, s := range append(texts, d.text(20, 14)) {
			wantCodeAsReckoned(t, dict, s)
		}
	}
}

func TestTextsOfAnyBytesAreCodedAsReckoned(t *testing.T) {
	d := dice(5)
	for range 5000 {
		b := make([]byte, d.throw(30))
		for i := range b {
			b[i] = byte(d.one(' ', ' ', d.throw(256), d.throw(34), 'a'))
		}
		texts := []string{string(b)}
		wantCodeAsReckoned(t, d.dictionary(texts), texts[0])
	}
}

// P14.4

func TestGainsAreAsReckoned(t *testing.T) {
	d := dice(6)
	for range 800 {
		texts := d.texts()
		for _, p := range append(d.dictionary(texts), "", "ab", "a b c d ", "   ", d.text(1+d.throw(4), 14)) {
			wantGain(t, texts, p, reckonedGain(texts, p))
		}
	}
}

// P14.5, P14.7, P14.9, P14.10

// wantChoiceAsReckoned asks for Choose's answer, and for what follows of it.
func wantChoiceAsReckoned(t *testing.T, texts []string) {
	t.Helper()
	wantChoice(t, texts, reckonedChoice(texts)...)
	dict := phrase.Choose(texts)
	wantCheck(t, dict, 0, api.OK)
	runs := runsOf(texts)
	for _, p := range dict {
		if !slices.Contains(runs, p) {
			t.Errorf("Choose of %s: %q is no run of a text", few(texts), p)
		}
	}
	n, least := taken(dict, texts), taken(nil, texts)
	for _, r := range runs {
		if reckonedMayBe(r) {
			least = min(least, taken([]string{r}, texts))
		}
	}
	if n > least {
		t.Errorf("Choose of %s: %d bytes, with one phrase or none %d", few(texts), n, least)
	}
}

func TestChoicesAreAsReckoned(t *testing.T) {
	d := dice(7)
	for range 700 {
		wantChoiceAsReckoned(t, d.texts())
	}
	eachText("ab ", 5, func(s string) {
		s += " "
		wantChoiceAsReckoned(t, []string{s + s + s, s})
	})
}

func TestTheOrderOfTextsDoesNotCount(t *testing.T) {
	d := dice(8)
	for range 300 {
		texts := d.texts()
		want := phrase.Choose(texts)
		for range 4 {
			for i := range texts {
				j := d.throw(i + 1)
				texts[i], texts[j] = texts[j], texts[i]
			}
			wantChoice(t, texts, want...)
		}
	}
	texts := []string{"the cat the dog", "the dog the cat", "the cat", "the dog", "a cat a dog "}
	want := phrase.Choose(texts)
	eachOrder(texts, func(l []string) { wantChoice(t, l, want...) })
}

// eachOrder hands over a list in each of its orders.
func eachOrder(l []string, try func(l []string)) {
	var place func(n int)
	place = func(n int) {
		if n == len(l) {
			try(l)
		}
		for i := n; i < len(l); i++ {
			l[n], l[i] = l[i], l[n]
			place(n + 1)
			l[n], l[i] = l[i], l[n]
		}
	}
	place(0)
}
