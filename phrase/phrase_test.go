package phrase_test

import (
	"fmt"
	"slices"
	"strings"
	"testing"

	"folio/api"
	"folio/octet"
	"folio/phrase"
)

// short is a text for a message.
func short(s string) string {
	if len(s) > 100 {
		return fmt.Sprintf("%q.. (%d bytes)", s[:100], len(s))
	}
	return fmt.Sprintf("%q", s)
}

// few are the first texts of a list, for a message.
func few(l []string) string {
	return fmt.Sprintf("%q (%d texts)", l[:min(len(l), 8)], len(l))
}

// numbered answers so many phrases of so many bytes, in order, each a letter and a number.
func numbered(letter string, n, long int) []string {
	var l []string
	for i := range n {
		l = append(l, fmt.Sprintf("%s%0*d", letter, long-1, i))
	}
	return l
}

// twice is a list with each of its texts once more at its end.
func twice(l []string) []string { return slices.Concat(l, l) }

func wantPieces(t *testing.T, s string, want ...string) {
	t.Helper()
	if l := phrase.Pieces(s); !slices.Equal(l, want) {
		t.Errorf("Pieces of %s: %s, want %s", short(s), few(l), few(want))
	}
}

func wantCheck(t *testing.T, dict []string, at int, e api.Errno) {
	t.Helper()
	if gotAt, gotE := phrase.Check(dict); gotAt != at || gotE != e {
		t.Errorf("Check of %s: %d, %d, want %d, %d", few(dict), gotAt, gotE, at, e)
	}
	if got, gotAt, gotE := phrase.Code(dict, ""); got != "" || gotAt != at || gotE != e {
		t.Errorf("Code by %s: %q, %d, %d, want %d, %d", few(dict), got, gotAt, gotE, at, e)
	}
	if got, gotE := phrase.Decode(dict, "", 0); got != "" || gotE != e {
		t.Errorf("Decode by %s: %q, %d, want %d", few(dict), got, gotE, e)
	}
}

func wantSize(t *testing.T, dict []string, want int) {
	t.Helper()
	if got := phrase.Size(dict); got != want {
		t.Errorf("Size of %s: %d, want %d", few(dict), got, want)
	}
}

// The chapter's examples.

func TestExamples(t *testing.T) {
	wantPieces(t, "a  bc d", "a  ", "bc ", "d")
	wantPieces(t, " a", " ", "a")
	wantCode(t, []string{"the "}, "the cat the ", "\x01cat \x01")
	wantCode(t, nil, "a\n", "a\x00\n")
	wantDecodeError(t, nil, "\x01", 9, api.ErrCode)
	wantDecodeError(t, []string{"abc"}, "\x01\x01", 5, api.ErrLong)
	texts := []string{"the cat the dog the "}
	wantGain(t, texts, "the ", 4)
	wantChoice(t, texts, "the ")
	wantChoice(t, []string{"abc"})
}

// P14.1: Pieces

func TestPieces(t *testing.T) {
	wantPieces(t, "")
	wantPieces(t, " ", " ")
	wantPieces(t, "     ", "     ")
	wantPieces(t, "a", "a")
	wantPieces(t, "a ", "a ")
	wantPieces(t, "a   ", "a   ")
	wantPieces(t, "a b", "a ", "b")
	wantPieces(t, "   a b", "   ", "a ", "b")
	wantPieces(t, "  a   bb    ccc  ", "  ", "a   ", "bb    ", "ccc  ")
	wantPieces(t, "\u00e9t\u00e9 \u4e2d\u6587 \xff\xfe", "\u00e9t\u00e9 ", "\u4e2d\u6587 ", "\xff\xfe")
	long := strings.Repeat("x", 100000)
	wantPieces(t, long+" "+long, long+" ", long)
	wantPieces(t, strings.Repeat(" ", 100000)+long, strings.Repeat(" ", 100000), long)
	wantPieces(t, strings.Repeat("ab ", 100000), slices.Repeat([]string{"ab "}, 100000)...)
}

func TestNoOtherByteIsABlank(t *testing.T) {
	for n := range 256 {
		b := string([]byte{byte(n)})
		if n == ' ' {
			wantPieces(t, b+"a"+b+"b"+b, " ", "a ", "b ")
			continue
		}
		wantPieces(t, b, b)
		wantPieces(t, b+"a"+b+b+"b"+b, b+"a"+b+b+"b"+b)
		wantPieces(t, " "+b, " ", b)
		wantPieces(t, b+"  "+b+" "+b+"  ", b+"  ", b+" ", b+"  ")
	}
}

// P14.1: Check

func TestWhatMayBeAPhrase(t *testing.T) {
	for _, s := range []string{
		"abc", "ab ", "a  ", "   ", " ab", "a b", " a ", "\x00\x01\x1f", "\xff\xff\xff", "a\nb", "\u4e2d",
		"a b c", "a b c ", "  a b", "  a b  ", " a  ", "a   b   c   ",
		strings.Repeat("x", 64), strings.Repeat(" ", 64), strings.Repeat("x", 63) + " ", strings.Repeat(" ", 63) + "x",
		strings.Repeat("x", 30) + " " + strings.Repeat("y", 30) + " zz", strings.Repeat("x", 61) + " y ", " " + strings.Repeat("x", 60) + " z ",
	} {
		wantCheck(t, []string{s}, 0, api.OK)
		wantCheck(t, []string{"zzzz", s}, 0, api.OK)
	}
	for _, s := range []string{
		"", "a", " ", "ab", "  ", "a ", " a", "\x00\x00", "\xff\xff", "\u00e9",
		"a b c d", " a b c", "  a b c", "a b c d ", "a b c d e", strings.Repeat("a ", 32),
		strings.Repeat("x", 65), strings.Repeat(" ", 65), strings.Repeat("x", 64) + " ", " " + strings.Repeat("x", 64),
		strings.Repeat("x", 1<<20), strings.Repeat("x ", 1<<20), strings.Repeat("x", 60) + " y z w",
	} {
		wantCheck(t, []string{s}, 0, api.ErrPhrase)
		wantCheck(t, []string{"zzzz", "yyyy", s}, 2, api.ErrPhrase)
	}
}

func TestCheckOfDictionaries(t *testing.T) {
	wantCheck(t, nil, 0, api.OK)
	wantCheck(t, []string{}, 0, api.OK)
	wantCheck(t, []string{"abc", "ABC", "abc ", " abc", "abcd", "ab c"}, 0, api.OK)
	wantCheck(t, []string{"zzz", "aaa"}, 0, api.OK) // in any order
	wantCheck(t, numbered("p", 1024, 5), 0, api.OK)
	wantCheck(t, numbered("p", 1024, 64), 0, api.OK)
	wantCheck(t, numbered("p", 1025, 5), 0, api.ErrLong)
	wantCheck(t, numbered("p", 5000, 5), 0, api.ErrLong)
	wantCheck(t, []string{"abc", "abc"}, 1, api.ErrTwicePhrase)
	wantCheck(t, []string{"abc", "b b", "c c c", "b b"}, 3, api.ErrTwicePhrase)
	wantCheck(t, append(numbered("p", 1023, 5), "p0000"), 1023, api.ErrTwicePhrase)
	wantCheck(t, append(numbered("p", 1023, 5), "p1022"), 1023, api.ErrTwicePhrase)
	wantCheck(t, append(numbered("p", 1023, 5), "pp"), 1023, api.ErrPhrase)
}

func TestTheFirstReasonIsTold(t *testing.T) {
	wantCheck(t, make([]string, 1025), 0, api.ErrLong)
	wantCheck(t, append([]string{"ab"}, numbered("p", 1024, 5)...), 0, api.ErrLong)
	wantCheck(t, slices.Repeat([]string{"abc"}, 1025), 0, api.ErrLong)
	wantCheck(t, append(numbered("p", 1024, 5), "ab"), 0, api.ErrLong)
	wantCheck(t, make([]string, 1024), 0, api.ErrPhrase)
	wantCheck(t, slices.Repeat([]string{"abc"}, 1024), 1, api.ErrTwicePhrase)
	wantCheck(t, []string{"abc", "ab", "ab"}, 1, api.ErrPhrase)
	wantCheck(t, []string{"abc", "def", "", "", "abc"}, 2, api.ErrPhrase)
	wantCheck(t, []string{"abc", "def", "abc", "ab"}, 2, api.ErrTwicePhrase)
	wantCheck(t, []string{"abc", "def", "def", "abc"}, 2, api.ErrTwicePhrase)
	wantCheck(t, []string{"abc", "def", "ab", "abc"}, 2, api.ErrPhrase)
}

// P14.1: Size

func TestSize(t *testing.T) {
	wantSize(t, nil, 0)
	wantSize(t, []string{}, 0)
	wantSize(t, []string{"abc"}, 4)
	wantSize(t, []string{"abc", "a b c ", "\u4e2d\u6587"}, 4+7+7)
	wantSize(t, numbered("p", 1024, 64), 1024*65)
}

func TestSizeOfWhatIsNoDictionary(t *testing.T) {
	wantSize(t, []string{""}, 1)
	wantSize(t, []string{"", "a", "a", "a b c d e"}, 1+2+2+10)
	wantSize(t, numbered("p", 3000, 9), 3000*10)
	sum := 0
	var all []string
	for _, n := range []int{0, 1, 2, 63, 64, 65, 126, 127, 128, 129, 255, 256, 16383, 16384, 16385, 2097151, 2097152} {
		s := strings.Repeat("x", n)
		want := n + len(octet.PutUint(nil, uint64(n)))
		wantSize(t, []string{s}, want)
		sum += want
		all = append(all, s)
	}
	wantSize(t, all, sum)
	wantSize(t, []string{strings.Repeat("x", 127)}, 128)
	wantSize(t, []string{strings.Repeat("x", 128)}, 130)
	wantSize(t, []string{strings.Repeat("x", 16383)}, 16385)
	wantSize(t, []string{strings.Repeat("x", 16384)}, 16387)
}

// P2: memory

// spared answers a list behind which there lies more, and what lies there.
func spared(l []string) ([]string, []string) {
	all := slices.Concat(l, []string{"behind it ", "behind it ", "behind it ", "behind it "})
	return all[:len(l)], all
}

// spoil writes over all that can be reached from an answer.
func spoil(l []string) {
	clear(l[:cap(l)])
}

func TestNothingIsChangedNorShared(t *testing.T) {
	dict, dictAll := spared([]string{"the ", "cat the ", "dog"})
	texts, textsAll := spared([]string{"the cat the dog the ", "cat the cat the dog", "behind ", "it"})
	dictWas, textsWas := slices.Clone(dictAll), slices.Clone(textsAll)
	choice := phrase.Choose(texts)
	pieces := phrase.Pieces(texts[0])
	want, wantPieces := slices.Clone(choice), slices.Clone(pieces)
	if len(want) == 0 || len(wantPieces) != 5 {
		t.Fatalf("%q, %q", want, wantPieces)
	}
	for range 2 {
		phrase.Check(dict)
		phrase.Size(dict)
		phrase.Code(dict, texts[0])
		phrase.Decode(dict, "\x01\x02\x03", 99)
		phrase.Gain(texts, dict[0])
		spoil(choice)
		spoil(pieces)
		choice, pieces = phrase.Choose(texts), phrase.Pieces(texts[0])
		if !slices.Equal(choice, want) || !slices.Equal(pieces, wantPieces) {
			t.Errorf("an answer hangs on another one: %q, %q", choice, pieces)
		}
	}
	if !slices.Equal(dictAll, dictWas) || !slices.Equal(textsAll, textsWas) {
		t.Errorf("an argument was changed: %q, %q", dictAll, textsAll)
	}
}

func TestNothingLiesBehindAnAnswer(t *testing.T) {
	for _, texts := range [][]string{twice(numbered("p", 40, 5)), {"abc"}, {"the cat the dog the "}} {
		for _, l := range [][]string{phrase.Choose(texts), phrase.Pieces(texts[0])} {
			for _, s := range l[len(l):cap(l)] {
				if s != "" {
					t.Errorf("behind the answer %s lies %q", few(l), s)
				}
			}
		}
	}
}
