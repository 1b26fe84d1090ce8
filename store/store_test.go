package store_test

import (
	"bytes"
	"fmt"
	"math"
	"slices"
	"strings"
	"testing"

	"folio/api"
	"folio/octet"
	"folio/store"
)

// short are bytes for a message.
func short[T string | []byte](s T) string {
	if len(s) > 60 {
		return fmt.Sprintf("%q.. (%d bytes)", s[:60], len(s))
	}
	return fmt.Sprintf("%q", s)
}

// few are the first texts of a list, for a message.
func few(l []string) string { return fmt.Sprintf("%.60q (%d texts)", l[:min(len(l), 8)], len(l)) }

// numbered answers so many phrases of so many bytes, in order, each a letter and a number.
func numbered(letter string, n, long int) []string {
	var l []string
	for i := range n {
		l = append(l, fmt.Sprintf("%s%0*d", letter, long-1, i))
	}
	return l
}

func raw(s string) []byte { return append([]byte{0}, s...) }

func coded(c string) []byte { return append([]byte{1}, c...) }

// wantPack asks for the stored form of s; that it is not much longer (P15.5); and that it is read back with just enough bytes and with
// more, and not with fewer (P15.6), or refused for its text.
func wantPack(t *testing.T, dict []string, s string, want []byte) {
	t.Helper()
	b, e := store.Pack(dict, s)
	if !bytes.Equal(b, want) || e != api.OK {
		t.Errorf("Pack of %s by %s: %s, %d, want %s", short(s), few(dict), short(b), e, short(want))
	}
	if len(b) > len(s)+1 {
		t.Errorf("Pack of %s by %s: %d bytes of %d", short(s), few(dict), len(b), len(s))
	}
	for _, most := range []int{len(s), len(s) + 1, math.MaxInt} {
		if octet.May(s) {
			wantUnpack(t, dict, want, most, s)
		} else {
			wantUnpackError(t, dict, want, most, api.ErrBytes)
		}
	}
	for _, most := range []int{len(s) - 1, len(s) / 2, 0, -1, math.MinInt} {
		if most < len(s) {
			wantUnpackError(t, dict, want, most, api.ErrLong)
		}
	}
}

func wantUnpack(t *testing.T, dict []string, b []byte, most int, want string) {
	t.Helper()
	if s, e := store.Unpack(dict, b, most); s != want || e != api.OK {
		t.Errorf("Unpack of %s by %s, of at most %d: %s, %d, want %s", short(b), few(dict), most, short(s), e, short(want))
	}
}

func wantUnpackError(t *testing.T, dict []string, b []byte, most int, want api.Errno) {
	t.Helper()
	if s, e := store.Unpack(dict, b, most); s != "" || e != want {
		t.Errorf("Unpack of %s by %s, of at most %d: %s, %d, want %d", short(b), few(dict), most, short(s), e, want)
	}
}

func wantReckon(t *testing.T, dict, l []string, want api.Saved) {
	t.Helper()
	if saved, e := store.Reckon(dict, l); saved != want || e != api.OK {
		t.Errorf("Reckon of %s by %s: %v, %d, want %v", few(l), few(dict), saved, e, want)
	}
}

// The chapter's examples.

func TestExamples(t *testing.T) {
	wantPack(t, []string{"the "}, "the cat", []byte{1, 1, 'c', 'a', 't'})
	wantPack(t, []string{}, "ab", []byte{0, 'a', 'b'})
	wantUnpackError(t, []string{"abc"}, []byte{0, 'a', 'b', 'c'}, 9, api.ErrFlag)
	wantPackDict(t, []string{"abc"}, []byte{1, 3, 97, 98, 99})
}

// P15.1

func TestTextsAsTheyAre(t *testing.T) {
	for _, dict := range [][]string{nil, {}, {"xyz"}, {"abc d"}, numbered("p", 1024, 5)} {
		for _, s := range []string{
			"", " ", "a", "ab", "abc", "abc ", "  abc  abc  ", "p000", "p00000", "p0000 p0001 ", "\u00e9t\u00e9 \u4e2d\u6587", strings.Repeat("ab ", 10000),
		} {
			wantPack(t, dict, s, raw(s))
		}
	}
}

func TestTextsOfEveryByte(t *testing.T) {
	for n := range 256 {
		b := string([]byte{byte(n)})
		wantPack(t, nil, b, raw(b))
		wantPack(t, nil, b+b+b, raw(b+b+b))
		wantPack(t, []string{"the cat "}, b+"the cat "+b, raw(b+"the cat "+b)) // no piece begins behind the first b
		if n == ' ' {                                                          // blanks belong to the piece ahead of them
			wantPack(t, []string{b + b + b}, "a "+b+b+b, raw("a "+b+b+b))
			continue
		}
		wantPack(t, []string{b + b + b}, "a "+b+b+b, coded("a \x01"))
		c := b
		if n < 32 {
			c = "\x00" + b
		}
		wantPack(t, []string{"the cat "}, "the cat "+b+" the cat "+b, coded("\x01"+c+" \x01"+c))
	}
}

// Each low byte takes one more when it is coded, so that as many of them make up for what a phrase saves.
func TestTheShorterForm(t *testing.T) {
	dict := append(numbered("p", 24, 3), "abcd ", "ef ") // of one byte, and of two
	wantPack(t, dict, "p00", coded("\x01"))
	wantPack(t, dict, "p00\n", raw("p00\n"))
	wantPack(t, dict, "p23", coded("\x18"))
	wantPack(t, dict, "ef ", coded("\x19\x01")) // one byte fewer
	wantPack(t, dict, "ef x", coded("\x19\x01x"))
	wantPack(t, dict, "ef \n", raw("ef \n")) // as many
	wantPack(t, dict, "ef \n\n", raw("ef \n\n"))
	wantPack(t, dict, "abcd ", coded("\x19\x00"))
	wantPack(t, dict, "abcd \n", coded("\x19\x00\x00\n"))
	wantPack(t, dict, "abcd \n\t", coded("\x19\x00\x00\n\x00\t")) // one byte fewer
	wantPack(t, dict, "abcd \n\t\r", raw("abcd \n\t\r"))          // as many
	wantPack(t, dict, "abcd \n\t\r\x00", raw("abcd \n\t\r\x00"))  // one more
	wantPack(t, dict, "abcd \x1f\x1f\x1f\x1f\x1f", raw("abcd \x1f\x1f\x1f\x1f\x1f"))
	long := strings.Repeat("x", 10000)
	wantPack(t, dict, long, raw(long)) // as many
	wantPack(t, dict, long+" ef ", coded(long+" \x19\x01"))
	wantPack(t, dict, long+"\n ef ", raw(long+"\n ef "))
	wantPack(t, dict, strings.Repeat("ef ", 5000), coded(strings.Repeat("\x19\x01", 5000)))
	wantPack(t, []string{"\n\n\n"}, "\n\n\n", coded("\x01"))
}

func TestDictionariesOfMostPhrases(t *testing.T) {
	dict := numbered("p", 1024, 5)
	wantPack(t, dict, "p0000", coded("\x01"))
	wantPack(t, dict, "p0024", coded("\x19\x00"))
	wantPack(t, dict, "a p1023", coded("a \x1c\xe7"))
	wantPack(t, dict, "a p1024", raw("a p1024"))
	wantPack(t, dict[:1023], "a p1023", raw("a p1023"))
	wantPack(t, dict[:1], "p0000", coded("\x01"))
	wantPack(t, dict[:1], "p0001", raw("p0001"))
	wantPack(t, []string{strings.Repeat("x", 63) + " "}, strings.Repeat(strings.Repeat("x", 63)+" ", 1000), coded(strings.Repeat("\x01", 1000)))
}

// refused are dictionaries that may not be, of each reason, and of two.
var refused = []struct {
	dict []string
	e    api.Errno
}{
	{numbered("p", 1025, 5), api.ErrLong},
	{numbered("p", 5000, 5), api.ErrLong},
	{make([]string, 1025), api.ErrLong},
	{slices.Repeat([]string{"abc"}, 1025), api.ErrLong},
	{[]string{""}, api.ErrPhrase},
	{[]string{"ab"}, api.ErrPhrase},
	{[]string{"abc", "a b c d"}, api.ErrPhrase},
	{[]string{"abc", " a b c"}, api.ErrPhrase},
	{[]string{strings.Repeat("x", 65)}, api.ErrPhrase},
	{make([]string, 1024), api.ErrPhrase},
	{append(numbered("p", 1023, 5), "p"), api.ErrPhrase},
	{[]string{"abc", "abc"}, api.ErrTwicePhrase},
	{append(numbered("p", 1023, 5), "p1022"), api.ErrTwicePhrase},
	{[]string{"abc", "ab", "abc"}, api.ErrPhrase},
	{[]string{"abc", "abc", "ab"}, api.ErrTwicePhrase},
}

// P15.1 to P15.4: the dictionary is looked at ahead of everything else.
func TestWhatIsNoDictionary(t *testing.T) {
	for _, r := range refused {
		for _, s := range []string{"", "abc", "abc abc", "a\n", "\xff", "p0000"} {
			if b, e := store.Pack(r.dict, s); len(b) != 0 || e != r.e {
				t.Errorf("Pack of %q by %s: %q, %d, want %d", s, few(r.dict), b, e, r.e)
			}
		}
		for _, b := range []string{"", "\x00", "\x01", "\x02", "\xff", "\x00ab", "\x00\n", "\x01\n", "\x01\x01", "\x01\x00", "\x01\x1f\xff", "\x00\xff", "\x00abc"} {
			for _, most := range []int{-1, 0, 1, 99} {
				wantUnpackError(t, r.dict, []byte(b), most, r.e)
			}
		}
		for _, l := range [][]string{nil, {""}, {"abc", "a\n"}, {"ab"}} {
			if saved, e := store.Reckon(r.dict, l); saved != (api.Saved{}) || e != r.e {
				t.Errorf("Reckon of %q by %s: %v, %d, want %d", l, few(r.dict), saved, e, r.e)
			}
		}
		if b, e := store.PackDict(r.dict); len(b) != 0 || e != r.e {
			t.Errorf("PackDict of %s: %s, %d, want %d", few(r.dict), short(b), e, r.e)
		}
	}
}

// P15.3

func TestReckon(t *testing.T) {
	wantReckon(t, nil, nil, api.Saved{})
	wantReckon(t, []string{}, []string{}, api.Saved{})
	wantReckon(t, []string{"abc"}, nil, api.Saved{Dict: 4})
	wantReckon(t, numbered("p", 1024, 64), nil, api.Saved{Dict: 1024 * 65})
	wantReckon(t, nil, []string{""}, api.Saved{Stored: 1})
	wantReckon(t, nil, []string{"", "", ""}, api.Saved{Stored: 3})
	wantReckon(t, nil, []string{"a", "bc", "", "d\n"}, api.Saved{Raw: 5, Stored: 9})
	wantReckon(t, []string{"the "}, []string{"the cat"}, api.Saved{Raw: 7, Dict: 5, Stored: 5})
	wantReckon(t, []string{"the "}, []string{"the cat", "the cat"}, api.Saved{Raw: 14, Dict: 5, Stored: 10})
	wantReckon(t, []string{"the "}, []string{"the cat", "", "x", "the the ", "the cat"}, api.Saved{Raw: 23, Dict: 5, Stored: 5 + 1 + 2 + 3 + 5})
	wantReckon(t, []string{"the ", "\u4e2d\u6587"}, []string{"the \u4e2d\u6587", "\xff"}, api.Saved{Raw: 11, Dict: 12, Stored: 3 + 2})
	wantReckon(t, numbered("p", 30, 4), slices.Repeat([]string{"p000", "p029"}, 500), api.Saved{Raw: 4000, Dict: 150, Stored: 500*2 + 500*3})
	wantReckon(t, []string{"abcd "}, []string{"abcd \n", "abcd \n\n\n", "abcd \n\n\n\n", "abcd \n\n\n\n\n"}, api.Saved{Raw: 6 + 8 + 9 + 10, Dict: 6, Stored: 4 + 8 + 10 + 11})
}

// P2: memory

// spared answers a list behind which there lies more, and what lies there.
func spared[T any](l []T, behind T) ([]T, []T) {
	all := slices.Concat(l, slices.Repeat([]T{behind}, 5))
	return all[:len(l)], all
}

// spoil writes over all that can be reached from an answer, and answers what it was.
func spoil[T any](l []T) []T {
	was := slices.Clone(l)
	clear(l[:cap(l)])
	return was
}

func TestNothingIsChangedNorShared(t *testing.T) {
	dict, dictAll := spared([]string{"the ", "cat the ", "dog"}, "behind ")
	texts, textsAll := spared([]string{"the cat the dog", "cat the cat", "the "}, "the behind ")
	dictWas, textsWas := slices.Clone(dictAll), slices.Clone(textsAll)
	for range 2 {
		for s, want := range map[string]string{"the cat the dog": "\x01\x01\x02\x03", "cat": "\x00cat"} {
			if b, _ := store.Pack(dict, s); string(spoil(b)) != want {
				t.Errorf("Pack of %q hangs on another answer", s)
			}
		}
		if b, _ := store.PackDict(dict); string(spoil(b)) != "\x03\x04the \x08cat the \x03dog" {
			t.Error("PackDict hangs on another answer")
		}
		wantReckon(t, dict, texts, api.Saved{Raw: 30, Dict: 18, Stored: 4 + 5 + 2})
	}
	if !slices.Equal(dictAll, dictWas) || !slices.Equal(textsAll, textsWas) {
		t.Errorf("an argument was changed: %q, %q", dictAll, textsAll)
	}
}

func TestBytesAreNotKept(t *testing.T) {
	dict := []string{"the "}
	for want, form := range map[string]string{"cat": "\x00cat", "the cat": "\x01\x01cat", "": "\x00"} {
		b, all := spared([]byte(form), 'x')
		for range 2 {
			s, e := store.Unpack(dict, b, 9)
			if string(all) != form+"xxxxx" || e != api.OK {
				t.Errorf("%q, %d", all, e)
			}
			clear(all)
			if s != want {
				t.Errorf("Unpack's text changed with the bytes: %q", s)
			}
			copy(all, form+"xxxxx")
		}
	}
	b, all := spared([]byte("\x02\x04the \x03cat"), 'x')
	for range 2 {
		l, e := store.UnpackDict(b)
		if string(all) != "\x02\x04the \x03catxxxxx" || e != api.OK {
			t.Errorf("%q, %d", all, e)
		}
		clear(all)
		if !slices.Equal(spoil(l), []string{"the ", "cat"}) {
			t.Errorf("UnpackDict's phrases changed: %q", l)
		}
		copy(all, "\x02\x04the \x03catxxxxx")
	}
}

func TestNothingLiesBehindAnAnswer(t *testing.T) {
	dict := numbered("p", 30, 5)
	for _, s := range []string{"", "abc", "p0000", "p0000 p0001", strings.Repeat("x", 1000), strings.Repeat("x", 999) + " p0000"} {
		b, _ := store.Pack(dict, s)
		d, _ := store.PackDict(dict[:len(s)%30])
		l, _ := store.UnpackDict(d)
		behind := slices.Concat(b[len(b):cap(b)], d[len(d):cap(d)], []byte(strings.Join(l[len(l):cap(l)], "")))
		if len(bytes.Trim(behind, "\x00")) > 0 {
			t.Errorf("behind the answers for %s lies %q", short(s), behind)
		}
	}
}
