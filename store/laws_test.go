package store_test

import (
	"bytes"
	"slices"
	"strings"
	"testing"

	"folio/api"
	"folio/octet"
	"folio/phrase"
	"folio/store"
)

// dice throws numbers that are the same each time.
type dice uint64

func (d *dice) throw(n int) int {
	*d = *d*6364136223846793005 + 1442695040888963407
	return int(*d>>33) % n
}

func (d *dice) one(l ...string) string { return l[d.throw(len(l))] }

// text throws a text of so many words and blanks, so that phrases come again.
func (d *dice) text(words int) string {
	var b strings.Builder
	for range words {
		b.WriteString(d.one("the ", "cat ", "a ", "of  ", "dogs ", "x", " ", "in ", "sat.", "on on ", "mat", "\u4e2d ", "ab "))
	}
	return b.String()
}

func (d *dice) texts() []string {
	var l []string
	for range d.throw(6) {
		l = append(l, d.text(d.throw(20)))
	}
	return l
}

// dictionary throws one that may be.
func (d *dice) dictionary() []string {
	var dict []string
	if d.throw(3) == 0 { // so that the numbers are greater
		dict = numbered("p", 20+d.throw(10), 4)
	}
	for range d.throw(12) {
		p := d.text(1 + d.throw(3))
		if _, e := phrase.Check([]string{p}); e == api.OK && !slices.Contains(dict, p) {
			dict = append(dict, p)
		}
	}
	return dict
}

// eachText hands over all texts of up to so many of these bytes.
func eachText(chars string, most int, try func(s string)) {
	var grow func(s string, n int)
	grow = func(s string, n int) {
		try(s)
		if n < most {
			for i := range len(chars) {
				grow(s+chars[i:i+1], n+1)
			}
		}
	}
	grow("", 0)
}

// A second reckoning, word for word as the chapter has it.

func reckonedPack(dict []string, s string) []byte {
	c, _, _ := phrase.Code(dict, s)
	if len(c) < len(s) {
		return append([]byte{api.FlagCoded}, c...)
	}
	return append([]byte{api.FlagRaw}, s...)
}

func reckonedUnpack(dict []string, b []byte, most int) (string, api.Errno) {
	if len(b) == 0 || b[0] != api.FlagRaw && b[0] != api.FlagCoded {
		return "", api.ErrFlag
	}
	s := string(b[1:])
	if b[0] == api.FlagRaw && len(s) > most {
		return "", api.ErrLong
	}
	if b[0] == api.FlagCoded {
		told, e := phrase.Decode(dict, s, most)
		if e != api.OK {
			return "", e
		}
		s = told
	}
	if !octet.May(s) {
		return "", api.ErrBytes
	}
	if !bytes.Equal(reckonedPack(dict, s), b) {
		return "", api.ErrFlag
	}
	return s, api.OK
}

func reckonedSaved(dict, l []string) api.Saved {
	var saved api.Saved
	for _, s := range l {
		saved.Raw += len(s)
		saved.Stored += len(reckonedPack(dict, s))
	}
	for _, p := range dict { // none of them has more than 127 bytes
		saved.Dict += 1 + len(p)
	}
	return saved
}

func reckonedDict(b []byte) ([]string, api.Errno) {
	c := octet.New(b)
	n := c.Uint()
	if c.Err() != api.OK {
		return nil, c.Err()
	}
	if n > 1024 {
		return nil, api.ErrRange
	}
	var dict []string
	for range n {
		long := c.Uint()
		switch {
		case c.Err() != api.OK:
			return nil, c.Err()
		case long > 64:
			return nil, api.ErrLong
		case long > uint64(c.Left()):
			return nil, api.ErrTorn
		}
		dict = append(dict, string(c.Take(int(long))))
	}
	if c.Left() > 0 {
		return nil, api.ErrForm
	}
	if _, e := phrase.Check(dict); e != api.OK {
		return nil, e
	}
	return dict, api.OK
}

// P15.1, P15.5, P15.6

func TestShortTextsArePackedAsReckoned(t *testing.T) {
	for _, dict := range [][]string{nil, {"aa "}, {"a a"}, {"   "}, {"\n\n\n"}, {"aa\n", "aa ", "a a ", "a a a "}, append(numbered("p", 24, 4), "aa ", "a a", "a\n ")} {
		eachText("a \n", 7, func(s string) { wantPack(t, dict, s, reckonedPack(dict, s)) })
	}
}

func TestTextsArePackedAsReckoned(t *testing.T) {
	d := dice(1)
	for range 8000 {
		dict := d.dictionary()
		for _, s := range d.texts() {
			wantPack(t, dict, s, reckonedPack(dict, s))
		}
	}
}

// P15.2, P15.6

// wantUnpackAsReckoned asks for what bytes tell, and that Pack makes them, if they tell a text.
func wantUnpackAsReckoned(t *testing.T, dict []string, b []byte, most int) {
	t.Helper()
	want, wantE := reckonedUnpack(dict, b, most)
	s, e := store.Unpack(dict, b, most)
	if s != want || e != wantE {
		t.Errorf("Unpack of %q by %s, of at most %d: %q, %d, want %q, %d", b, few(dict), most, s, e, want, wantE)
	}
	if e != api.OK {
		return
	}
	if again, e := store.Pack(dict, s); !bytes.Equal(again, b) || e != api.OK {
		t.Errorf("Unpack by %s took %q, but Pack makes %q, %d", few(dict), b, again, e)
	}
}

func TestShortBytesAreUnpackedAsReckoned(t *testing.T) {
	for _, dict := range [][]string{nil, {"aaa"}, {"aa ", "a a", "\na "}} {
		eachText("\x00\x01\x02\x03a \n\xff", 5, func(b string) {
			for _, most := range []int{-1, 0, 2, 3, 9} {
				wantUnpackAsReckoned(t, dict, []byte(b), most)
			}
		})
	}
}

func TestBytesAreUnpackedAsReckoned(t *testing.T) {
	d := dice(2)
	for range 100000 {
		dict := d.dictionary()
		b := []byte{byte(d.throw(2))}
		for range d.throw(6) {
			switch d.throw(8) {
			case 0:
				b = append(b, byte(d.throw(256)))
			case 1, 2, 3:
				b = append(b, byte(1+d.throw(len(dict)+1)))
			default:
				b = append(b, d.text(1)...)
			}
		}
		wantUnpackAsReckoned(t, dict, b, d.throw(60)-1)
	}
}

// A form with one byte changed, put in or left out is the form of another text, or is refused.
func TestChangedFormsAreUnpackedAsReckoned(t *testing.T) {
	d := dice(3)
	for range 20000 {
		dict := d.dictionary()
		b, _ := store.Pack(dict, d.text(d.throw(12)))
		at := d.throw(len(b))
		switch d.throw(3) {
		case 0:
			b[at] = byte(d.throw(256))
		case 1:
			b = slices.Insert(b, at, byte(d.throw(256)))
		default:
			b = slices.Delete(b, at, at+1)
		}
		wantUnpackAsReckoned(t, dict, b, 99)
	}
}

// P15.3

func TestTextsAreReckonedAsReckoned(t *testing.T) {
	d := dice(4)
	for range 5000 {
		dict, texts := d.dictionary(), d.texts()
		wantReckon(t, dict, texts, reckonedSaved(dict, texts))
		texts = append(texts, texts...)
		wantReckon(t, dict, texts, reckonedSaved(dict, texts))
	}
}

// P15.4, P15.6

// wantDictAsReckoned asks for the phrases that bytes tell, and that PackDict makes those bytes, if they tell some.
func wantDictAsReckoned(t *testing.T, b []byte) {
	t.Helper()
	want, wantE := reckonedDict(b)
	if wantE != api.OK {
		wantDictError(t, b, wantE)
		return
	}
	wantPackDict(t, want, b)
}

func TestShortBytesOfDictionariesAreAsReckoned(t *testing.T) {
	eachText("\x00\x01\x02\x03\x05 a\x80", 6, func(b string) { wantDictAsReckoned(t, []byte(b)) })
	eachText("\x03a \xff", 5, func(b string) {
		wantDictAsReckoned(t, []byte("\x02\x03aaa"+b))
		wantDictAsReckoned(t, []byte("\x02"+b+"\x03aaa"))
	})
}

func TestChangedDictionariesAreAsReckoned(t *testing.T) {
	d := dice(5)
	for range 20000 {
		dict := d.dictionary()
		b, _ := store.PackDict(dict)
		wantPackDict(t, dict, b)
		for range 1 + d.throw(3) {
			at := d.throw(len(b))
			switch d.throw(4) {
			case 0:
				b[at] = byte(d.throw(256))
			case 1:
				b[at] ^= byte(1 << d.throw(8))
			case 2:
				b = slices.Insert(b, at, byte(d.throw(256)))
			default:
				if len(b) > 1 {
					b = slices.Delete(b, at, at+1)
				}
			}
		}
		wantDictAsReckoned(t, b)
	}
}

// P15.7

// pays answers whether a dictionary of one phrase makes its Size and all coded texts shorter than the texts.
func pays(texts []string) bool {
	for _, s := range texts {
		p := phrase.Pieces(s)
		for i := range p {
			for n := 1; n <= 3 && i+n <= len(p); n++ {
				one := []string{strings.Join(p[i:i+n], "")}
				if _, e := phrase.Check(one); e != api.OK {
					continue
				}
				saved := phrase.Size(one)
				for _, s := range texts {
					c, _, _ := phrase.Code(one, s)
					saved += len(c) - len(s)
				}
				if saved < 0 {
					return true
				}
			}
		}
	}
	return false
}

// wantPaid asks for P15.7 of texts, and answers whether there was a phrase that pays.
func wantPaid(t *testing.T, texts []string) bool {
	t.Helper()
	if !pays(texts) {
		return false
	}
	dict := phrase.Choose(texts)
	if saved, e := store.Reckon(dict, texts); e != api.OK || saved.Dict+saved.Stored-len(texts) >= saved.Raw {
		t.Errorf("Reckon of %q by %q: %v, %d: it does not pay", texts, dict, saved, e)
	}
	return true
}

func TestItPays(t *testing.T) {
	d := dice(6)
	times := 0
	for range 3000 {
		if wantPaid(t, d.texts()) {
			times++
		}
	}
	if times < 300 || times > 2900 {
		t.Errorf("a phrase pays %d times", times)
	}
	for _, texts := range [][]string{
		{"abc", "abc", "abc"}, {"the the the the "}, slices.Repeat([]string{"", "see it", "see us", "x"}, 9), slices.Repeat([]string{strings.Repeat("x", 64)}, 2),
		slices.Repeat([]string{"the quick fox met the quick dog"}, 10), append(numbered("p", 500, 5), numbered("p", 500, 5)...),
	} {
		if !wantPaid(t, texts) {
			t.Errorf("no phrase pays of %s", few(texts))
		}
	}
	for _, texts := range [][]string{nil, {""}, {"abc"}, {"abc", "abc"}, {"a cat sat on the mat"}} {
		if wantPaid(t, texts) {
			t.Errorf("a phrase pays of %q", texts)
		}
	}
}
