package text_test

import (
	"cmp"
	"math/big"
	"slices"
	"strings"
	"testing"
	"unicode/utf8"

	"folio/text"
)

// P2.5

func TestSmall(t *testing.T) {
	small := map[rune]rune{}
	for _, p := range []struct{ from, to, by rune }{{'A', 'Z', 32}, {0xc0, 0xd6, 32}, {0xd8, 0xde, 32}, {0x391, 0x3a1, 32}, {0x3a3, 0x3a9, 32}, {0x400, 0x40f, 80}, {0x410, 0x42f, 32}} {
		for r := p.from; r <= p.to; r++ {
			small[r] = r + p.by
		}
	}
	for r := rune(0); r <= 0x200000; r++ {
		want := r
		if s, ok := small[r]; ok {
			want = s
		}
		if got := text.Small(r); got != want {
			t.Fatalf("Small of U+%04X: U+%04X, want U+%04X", r, got, want)
		}
	}
	for _, r := range some() {
		if got := text.Small(r); got != r {
			t.Errorf("Small of %d: %d", r, got)
		}
	}
	if text.Small('Q') != 'q' || text.Small('Ä') != 'ä' || text.Small('Þ') != 'þ' || text.Small('Ω') != 'ω' || text.Small('Я') != 'я' || text.Small('Ё') != 'ё' || text.Small('ẞ') != 'ẞ' {
		t.Error("letters")
	}
}

// P2.6

// base has the small letters that have marks, or stand for two, and what they are without.
func base() map[rune]string {
	m := map[rune]string{}
	for b, letters := range map[string]string{"a": "àáâãäå", "ae": "æ", "c": "ç", "e": "èéêë", "i": "ìíîï", "d": "ð", "n": "ñ", "o": "òóôõöø", "u": "ùúûü", "y": "ýÿ", "th": "þ", "ss": "ß"} {
		for _, r := range letters {
			m[r] = b
		}
	}
	return m
}

func TestBase(t *testing.T) {
	m := base()
	for r := rune(0); r <= 0x200000; r++ {
		want, ok := m[text.Small(r)]
		if !ok {
			want = string(text.Small(r))
		}
		if !utf8.ValidRune(r) {
			want = "\ufffd"
		}
		if got := text.Base(r); got != want {
			t.Fatalf("Base of U+%04X: %q, want %q", r, got, want)
		}
	}
	for _, r := range some() {
		if got := text.Base(r); got != "\ufffd" {
			t.Errorf("Base of %d: %q", r, got)
		}
	}
	if text.Base('Æ') != "ae" || text.Base('Ø') != "o" || text.Base('÷') != "÷" || text.Base('×') != "×" || text.Base(0xd800) != "\ufffd" || text.Base('Ж') != "ж" || text.Base('7') != "7" {
		t.Error("letters")
	}
}

// P2.7

func TestFold(t *testing.T) {
	for s, want := range map[string]string{
		"":                  "",
		" ":                 "",
		"    ":              "",
		"  Ä  B":            "ä b",
		"a":                 "a",
		"A b   C  ":         "a b c",
		"\tA\u00a0 \n":      "\ta\u00a0 \n", // no other character is a blank
		"É\u0301 ЁЯ ΩΣ × ß": "é\u0301 ёя ωσ × ß",
		"\xff A\xe4\xb8":    "\xff a\xe4\xb8",
		"\xc3 \xa9":         "\xc3 \xa9",
		" \xc3A\xa9 ":       "\xc3a\xa9",
		"\ufffdX":           "\ufffdx",
		"\x00 Z":            "\x00 z",
	} {
		if got := text.Fold(s); got != want {
			t.Errorf("Fold(%q): %q, want %q", s, got, want)
		}
	}
}

// P2.12

// large puts the large letter for each small one that Small comes to, all bad bytes as they are.
func large(s string) string {
	up := map[rune]rune{}
	for r := rune(0); r < 0x500; r++ {
		if text.Small(r) != r {
			up[text.Small(r)] = r
		}
	}
	var b strings.Builder
	for i, r := range s {
		if l, ok := up[r]; ok {
			b.WriteRune(l)
		} else {
			b.WriteString(firstOf(s[i:]))
		}
	}
	return b.String()
}

func TestFoldOnce(t *testing.T) {
	for _, s := range texts(5, 3000) {
		f := text.Fold(s)
		if text.Fold(f) != f {
			t.Errorf("Fold of Fold of %q: %q, not %q", s, text.Fold(f), f)
		}
		if strings.Contains(f, "  ") || strings.HasPrefix(f, " ") || strings.HasSuffix(f, " ") {
			t.Errorf("Fold(%q): %q", s, f)
		}
		for _, like := range []string{large(s), " " + s + "  ", strings.ReplaceAll(s, " ", "   "), strings.ReplaceAll(large(s), " ", "  ")} {
			if text.Fold(like) != f {
				t.Errorf("Fold of %q and %q: %q and %q", s, like, f, text.Fold(like))
			}
		}
	}
	if text.Fold("ab") == text.Fold("a b") || text.Fold("a") == text.Fold("ä") {
		t.Error("Fold parts too little")
	}
}

// P2.8

// wantAhead asks for -1, both ways round.
func wantAhead(t *testing.T, a, b string) {
	t.Helper()
	if c, d := text.Compare(a, b), text.Compare(b, a); c != -1 || d != 1 {
		t.Errorf("Compare of %q and %q: %d and %d", a, b, c, d)
	}
}

// wantInOrder holds each of a list against each behind it.
func wantInOrder(t *testing.T, l ...string) {
	t.Helper()
	for i, a := range l {
		if c := text.Compare(a, a); c != 0 {
			t.Errorf("Compare of %q with itself: %d", a, c)
		}
		for _, b := range l[i+1:] {
			wantAhead(t, a, b)
		}
	}
}

func TestLettersPart(t *testing.T) {
	wantInOrder(t, "", " ", " a", "-", "-1", "×", "÷", "0", "1", "1-", "1a", "2", "10", "a", "a-", "a1", "aa", "ab", "b", "ss", "t", "thz", "ÞZZ", "u", "z", "\u03b1", "Жа", "\u4e2d", "\uffee", "\U0001f600")
	wantInOrder(t, "ad", "æ", "aef")
	wantInOrder(t, "ä", "az") // the letters are "a" alone
	wantInOrder(t, "Äa", "äb", "Zz")
	wantInOrder(t, "ss", "ßa", "st")
	wantInOrder(t, "~", "¿", "Àb") // a sign of two bytes
	wantInOrder(t, "ˀ", "е", "Ѐ")  // letters by their code points
	wantInOrder(t, "a b", "ab")    // a blank is a sign
	wantInOrder(t, "a  z", "a b")
	wantInOrder(t, "\ue000", "\xff", "\ufffe") // a bad byte is the letter U+FFFD
	wantInOrder(t, "a9", "a10", "a010b", "a11")
	wantInOrder(t, "a\u0301b", "ac", "a\u0301c")
	wantInOrder(t, "1\u0301b", "2", "12")   // what takes no cell is no element
	wantInOrder(t, "1\u03012", "2", "12")   // but it parts two runs of digits
	wantInOrder(t, "\u0660", "\u0661")      // other scripts' digits are letters
	wantInOrder(t, "x1y2", "x1y10", "x2y1") // more than one number
}

func TestLongNumbers(t *testing.T) {
	nines := strings.Repeat("9", 500)
	wantInOrder(t, "a0", "a9223372036854775807", "a9223372036854775808", "a18446744073709551615", "a18446744073709551616", "a"+nines, "a1"+strings.Repeat("0", 500), "a"+"1"+nines, "ab")
	wantInOrder(t, strings.Repeat("0", 400)+"1", "2", strings.Repeat("0", 300)+"3")
}

func TestMarksPart(t *testing.T) {
	wantInOrder(t, "a02", "a2")
	wantInOrder(t, "0", "00", "000", "001", "01", "1")
	wantInOrder(t, "resume", "Resumé", "résume", "Résumé")
	wantInOrder(t, "a", "á", "ä", "å")
	wantInOrder(t, "a", "a\u0300", "a\u0301", "Á")
	wantInOrder(t, "ae", "æ")
	wantInOrder(t, "SS", "ss", "ß")
	wantInOrder(t, "ab\u0301", "AB\u0302", "ä\u0301b")
	wantInOrder(t, "\x00", "\x01", "\u0301")
	wantInOrder(t, "a\t", "a\n")
}

func TestLargeAndSmallPart(t *testing.T) {
	wantInOrder(t, "AB", "Ab", "aB", "ab")
	wantInOrder(t, "Ä", "ä")
	wantInOrder(t, "ЁЖ", "Ёж", "ёЖ", "ёж")
	wantInOrder(t, "Aä", "aÄ")
}

func TestBytesPart(t *testing.T) {
	wantInOrder(t, "a\x80", "a\xef\xbf\xbd", "a\xf0", "a\xff")
	wantInOrder(t, "\x80\xff", "\xff\x80")
	wantInOrder(t, "\xffA", "\ufffda") // large and small goes ahead of the bytes
	wantInOrder(t, "A\xff", "a\x80")
}

// key is what a text is held against others by, worked out in another way: its elements, its small letters, its characters.
type key struct {
	kinds  []int
	values []*big.Int
	small  []rune
	chars  []rune
	bytes  string
}

func keyOf(s string) key {
	k := key{chars: []rune(s), bytes: s}
	digits := ""
	put := func(kind int, value int64) {
		k.kinds, k.values = append(k.kinds, kind), append(k.values, big.NewInt(value))
	}
	end := func() {
		if digits == "" {
			return
		}
		put(1, 0)
		k.values[len(k.values)-1].SetString(digits, 10)
		digits = ""
	}
	for _, r := range k.chars {
		k.small = append(k.small, text.Small(r))
		if r >= '0' && r <= '9' {
			digits += string(r)
			continue
		}
		end()
		if text.Width(r) == 0 {
			continue
		}
		for _, b := range text.Base(r) {
			kind := 0
			if b >= 'a' && b <= 'z' || b >= 0xc0 && b != 0xd7 && b != 0xf7 {
				kind = 2
			}
			put(kind, int64(b))
		}
	}
	end()
	return k
}

func (k key) compare(l key) int {
	for i := range min(len(k.kinds), len(l.kinds)) {
		if c := cmp.Or(cmp.Compare(k.kinds[i], l.kinds[i]), k.values[i].Cmp(l.values[i])); c != 0 {
			return c
		}
	}
	return cmp.Or(cmp.Compare(len(k.kinds), len(l.kinds)), slices.Compare(k.small, l.small), slices.Compare(k.chars, l.chars), strings.Compare(k.bytes, l.bytes))
}

func TestCompareIsByTheKeys(t *testing.T) {
	l := texts(6, 700)
	for _, s := range texts(7, 60) {
		l = append(l, large(s), strings.ToLower(s), s+"\u0301", s+"\xff", s+"\ufffd", "0"+s)
	}
	keys := make([]key, len(l))
	for i, s := range l {
		keys[i] = keyOf(s)
	}
	for i, a := range l {
		for j, b := range l {
			if c := text.Compare(a, b); c != keys[i].compare(keys[j]) {
				t.Fatalf("Compare(%q, %q): %d", a, b, c)
			}
		}
	}
}

// P2.13

func TestTotalOrder(t *testing.T) {
	l := texts(8, 60)
	l = append(l, "A", "a", "Ä", "ä", "02", "2", "\xff", "\xfe", "\ufffd", "a\xff", "A\xfe")
	for _, a := range l {
		for _, b := range l {
			c := text.Compare(a, b)
			if c < -1 || c > 1 || (c == 0) != (a == b) || text.Compare(b, a) != -c {
				t.Fatalf("Compare(%q, %q): %d, and %d the other way round", a, b, c, text.Compare(b, a))
			}
			for _, d := range l {
				if c <= 0 && text.Compare(b, d) <= 0 && text.Compare(a, d) > 0 {
					t.Fatalf("%q, %q, %q are not in order", a, b, d)
				}
			}
		}
	}
}

// P2.14

func TestNumbersByValue(t *testing.T) {
	d := dice(9)
	for range 3000 {
		var b strings.Builder
		for range d.throw(5) {
			b.WriteString([]string{"a", "B", "é", "-", " ", "\xff", "\u4e2d", "7x"}[d.throw(8)])
		}
		behind := []string{"", "a", "Z", " 5", "\u0301", "\xff", "-3"}[d.throw(7)]
		n, m := int64(d.throw(1200)), int64(d.throw(1200))
		if n == m {
			continue
		}
		run := func(n int64) string {
			return b.String() + strings.Repeat("0", d.throw(4)) + big.NewInt(n).String() + behind
		}
		wantAhead(t, run(min(n, m)), run(max(n, m)))
	}
}

// P2.9

func TestGroup(t *testing.T) {
	for s, want := range map[string]string{
		"": "*", "\u0301": "*", "\x00\t": "*", // no element
		"a": "A", "Z": "Z", "éclair": "E", "Œ": "Œ", "Æther": "A", "ßa": "S", "Þing": "T", "ÿ": "Y", "øre": "O", "\u0301b": "B", "\tb": "B",
		"3d": "0", "0": "0", "007": "0", "\u200b9": "0",
		"Ж": "ж", "Ёж": "ё", "Ωm": "ω", "\u4e2d\u6587": "\u4e2d", "\u03a2": "\u03a2", "\U0001f600": "\U0001f600", "\xff": "\ufffd", "\ufffda": "\ufffd", "\xe4\xb8": "\ufffd",
		" a": "*", "-x": "*", "×2": "*", "÷": "*", "¿que": "*", "\u00a0a": "*", "{": "*", "_": "*", "ª": "*",
	} {
		if g := text.Group(s); g != want {
			t.Errorf("Group(%q): %q, want %q", s, g, want)
		}
	}
}

// groupRank answers where a heading stands: signs, numbers, letters.
func groupRank(g string) int { return strings.Index("*0", g) }

func TestGroupsFollowTheOrder(t *testing.T) {
	l := texts(10, 2000)
	slices.SortFunc(l, text.Compare)
	seen := map[string]bool{}
	last := "*"
	for _, s := range l {
		g := text.Group(s)
		if g != last && seen[g] || last != "*" && g == "*" || groupRank(last) < 0 && groupRank(g) >= 0 {
			t.Fatalf("%q stands under %q, behind %q", s, g, last)
		}
		seen[g], last = true, g
	}
}

func TestGroupOfEachCharacter(t *testing.T) {
	for r := rune(0x20); r <= utf8.MaxRune; r++ {
		if !utf8.ValidRune(r) || text.Width(r) == 0 {
			continue
		}
		b, _ := utf8.DecodeRuneInString(text.Base(r))
		want := string(b)
		switch {
		case r >= '0' && r <= '9':
			want = "0"
		case b >= 'a' && b <= 'z':
			want = strings.ToUpper(want)
		case b < 0xc0 || b == 0xd7 || b == 0xf7:
			want = "*"
		}
		if g := text.Group(string(r)); g != want {
			t.Fatalf("Group of U+%04X: %q, want %q", r, g, want)
		}
	}
}
