package phrase_test

import (
	"fmt"
	"slices"
	"strings"
	"testing"

	"folio/api"
	"folio/phrase"
)

func wantGain(t *testing.T, texts []string, p string, want int) {
	t.Helper()
	if got := phrase.Gain(texts, p); got != want {
		t.Errorf("Gain of %s in %s: %d, want %d", short(p), few(texts), got, want)
	}
}

func wantChoice(t *testing.T, texts []string, want ...string) {
	t.Helper()
	if got := phrase.Choose(texts); !slices.Equal(got, want) {
		t.Errorf("Choose of %s: %s, want %s", few(texts), few(got), few(want))
	}
}

// taken is what a dictionary and the texts coded by it take.
func taken(dict, texts []string) int {
	n := phrase.Size(dict)
	for _, s := range texts {
		c, _, _ := phrase.Code(dict, s)
		n += len(c)
	}
	return n
}

// P14.4

func TestGain(t *testing.T) {
	texts := []string{"the cat the dog the ", "the the", "lathe the  "}
	wantGain(t, texts, "the ", 4*3-5)
	wantGain(t, texts, "the", 1*2-4)
	wantGain(t, texts, "the cat ", 1*7-9)
	wantGain(t, texts, "the cat the ", 1*11-13)
	wantGain(t, texts, "the  ", 1*4-6)
	wantGain(t, texts, "lathe the  ", 1*10-12)
	wantGain(t, twice(texts), "the ", 8*3-5)
	wantGain(t, slices.Repeat([]string{"abc"}, 3), "abc", 3*2-4)
	wantGain(t, slices.Repeat([]string{"abc"}, 2), "abc", 0)
	wantGain(t, slices.Repeat([]string{"abc"}, 1000), "abc", 1996)
}

func TestGainOfWhatIsNoPhrase(t *testing.T) {
	for _, p := range []string{"", "a", "ab", "a b c d", " a b c ", "   a b c", strings.Repeat("x", 65)} {
		wantGain(t, nil, p, 0)
		wantGain(t, []string{p}, p, 0)
		wantGain(t, slices.Repeat([]string{p, p + p}, 9), p, 0)
	}
}

func TestGainOfWhatComesInNoText(t *testing.T) {
	for _, texts := range [][]string{nil, {}, {""}, {"", ""}, {"     "}, {"abcd abc ab c"}, {"xabc"}} {
		wantGain(t, texts, "abc", -4)
		wantGain(t, texts, "abc de fg ", -11)
		wantGain(t, texts, strings.Repeat("x", 64), -65)
	}
}

func TestGainOfPhrasesThatOverlap(t *testing.T) {
	for n, times := range map[int]int{1: 0, 2: 1, 3: 1, 4: 2, 5: 2, 6: 3, 7: 3} {
		wantGain(t, []string{strings.Repeat("aa ", n)}, "aa aa ", times*5-7)
		wantGain(t, []string{strings.Repeat("aa ", n), strings.Repeat("aa ", n)}, "aa aa ", 2*times*5-7)
		wantGain(t, []string{strings.Repeat("aa ", n)}, "aa aa aa ", n/3*8-10)
	}
	wantGain(t, []string{"aa bb aa bb aa "}, "aa bb aa ", 8-10)
	wantGain(t, []string{"aa bb aa bb aa bb aa "}, "aa bb aa ", 2*8-10)
	wantGain(t, []string{"aa ", "aa "}, "aa aa ", -7) // a run is of one text
}

func TestGainOfLowBytes(t *testing.T) {
	wantGain(t, []string{"\n\n\n"}, "\n\n\n", 5-4)
	wantGain(t, []string{"\n\na"}, "\n\na", 4-4)
	wantGain(t, []string{"\n\na \n\na "}, "\n\na ", 2*5-5)
	wantGain(t, []string{"\x1f\x1f\x1f"}, "\x1f\x1f\x1f", 5-4)
	wantGain(t, []string{"\x7f\x7f\x7f"}, "\x7f\x7f\x7f", 2-4)
	wantGain(t, []string{strings.Repeat("\x00", 64)}, strings.Repeat("\x00", 64), 127-65)
}

// P14.5

func TestChooseWhereNoPhrasePays(t *testing.T) {
	for _, texts := range [][]string{
		nil, {}, {""}, {"", "", ""}, {" "}, {"     "}, {"abc"}, {"the cat sat on a mat"}, {"abc", "abc"}, {"ab ab ab"}, {"a a"},
		twice([]string{"abc", "def", "ghi"}), slices.Repeat([]string{"ab"}, 1000), slices.Repeat([]string{strings.Repeat("x", 65)}, 9),
	} {
		wantChoice(t, texts)
	}
}

func TestChooseWhereOnePays(t *testing.T) {
	wantChoice(t, slices.Repeat([]string{"abc"}, 3), "abc")
	wantChoice(t, slices.Repeat([]string{"   "}, 3), "   ")
	wantChoice(t, []string{"\n\n\n"}, "\n\n\n")
	wantChoice(t, slices.Repeat([]string{strings.Repeat("x", 64)}, 2), strings.Repeat("x", 64))
	wantChoice(t, []string{strings.Repeat("of ", 8)}, "of of ") // 4 * 5 - 7 is more than 8 * 2 - 4, and than 2 * 8 - 10
	wantChoice(t, []string{"see it, see us, see me, see them"}, "see ")
	wantChoice(t, slices.Repeat([]string{"a b c d"}, 4), "a b c ") // none of four pieces
}

func TestCandidatesOfLikeGain(t *testing.T) {
	wantChoice(t, []string{"bbbb", "cccc", "aaaa", "bbbb", "cccc", "aaaa"}, "aaaa", "bbbb", "cccc")
	wantChoice(t, []string{"bb\xff", "bb\n\n\n", "bb\xff", "Bbbbb", "bb\xff", "Bbbbb"}, "Bbbbb", "bb\xff", "bb\n\n\n") // 2, 2, 1
	wantChoice(t, []string{strings.Repeat("of ", 6)}, "of ")                                                           // 6 * 2 - 4 and 3 * 5 - 7
	wantChoice(t, []string{"aaaaa", "bbbbbb", "aaaaa", "bbbbbb", "cccc", "cccc", "cccc"}, "cccc", "bbbbbb", "aaaaa")   // 4, 3, 2
}

// "ddd" saves nothing: as a candidate it would be the fourth, and the first four would save as much as the first three.
func TestWhatSavesNothingIsNoCandidate(t *testing.T) {
	wantChoice(t, twice([]string{"ddd", "aaaaaa", "bbbbbb", "cccccc"}), "aaaaaa", "bbbbbb", "cccccc")
	wantChoice(t, []string{"\n\na", "aaaaaa", "bbbbbb", "cccccc", "aaaaaa", "bbbbbb", "cccccc"}, "aaaaaa", "bbbbbb", "cccccc")
}

func TestMoreCandidatesThanPhrases(t *testing.T) {
	texts := twice(numbered("p", 1100, 7))
	wantChoice(t, texts, numbered("p", 1024, 7)...)
	slices.Reverse(texts)
	wantChoice(t, texts, numbered("p", 1024, 7)...)
	better := numbered("q", 20, 9)
	wantChoice(t, append(texts, twice(better)...), append(better, numbered("p", 1004, 7)...)...)
	wantChoice(t, twice(numbered("p", 1024, 7)), numbered("p", 1024, 7)...)
	wantChoice(t, twice(numbered("p", 1025, 7)), numbered("p", 1024, 7)...)
	wantChoice(t, twice(numbered("p", 1023, 7)), numbered("p", 1023, 7)...)
}

// Of phrases of five bytes that come twice the first 24 save two bytes each; those whose codes have two bytes save nothing.
func TestTheLeastAndShortest(t *testing.T) {
	all := numbered("p", 1024, 5)
	for n, want := range map[int]int{
		1: 1, 2: 2, 3: 3, 4: 4, 5: 5, 8: 8, 9: 9, 16: 16, 17: 17, 23: 23, 24: 24, 25: 25, 31: 31, 32: 32, 33: 32, 40: 32, 64: 32, 65: 32, 1024: 32,
	} {
		wantChoice(t, twice(all[:n]), all[:want]...)
	}
	// Of four bytes, three times: 4 * 3 - 3 - 5 is 4 for each of the first ones, 1 for those behind.
	four := numbered("q", 100, 4)
	wantChoice(t, slices.Concat(four, four, four), four...)
	// Of four bytes, twice: 1 for each of the first ones, -1 for those behind: of 16 and 24, but not 32, it is the least.
	for n, want := range map[int]int{16: 16, 17: 17, 24: 24, 25: 25, 28: 28, 31: 31, 32: 16, 33: 16, 64: 16, 100: 16} {
		wantChoice(t, twice(four[:n]), four[:want]...)
	}
}

func TestBeginningsAreOfPowersOfTwo(t *testing.T) {
	texts := []string{"aa bb cc aa bb cc aa bb cc aa bb cc aa bb cc aa bb cc "}
	all := reckonedCandidates(texts)
	if len(all) < 9 {
		t.Fatalf("%q", all)
	}
	wantChoice(t, texts, all[:1]...) // the others come to no run that is left
	texts = append(texts, "aa bb aa bb aa bb", "cc bb cc bb cc bb", "bb cc aa", "bb cc aa", "cc aa bb", "cc aa bb")
	wantChoice(t, texts, reckonedChoice(texts)...)
}

func TestTheSameTextTwice(t *testing.T) {
	text := "quick brown fox jumps over the lazy dog"
	wantChoice(t, []string{text})
	wantChoice(t, twice([]string{text}), reckonedChoice(twice([]string{text}))...)
	if l := phrase.Choose(twice([]string{text})); len(l) == 0 {
		t.Error("nothing is chosen of what comes twice")
	}
	if l := phrase.Choose([]string{text + " " + text}); len(l) == 0 {
		t.Error("nothing is chosen of what comes twice in a text")
	}
}

// P14.7, and example 6 of the whole

func TestItPays(t *testing.T) {
	var texts []string
	for n := range 10 {
		texts = append(texts, fmt.Sprintf("In %d the quick fox met the quick dog%d.", n*n, n))
	}
	dict := phrase.Choose(texts)
	if !slices.ContainsFunc(dict, func(p string) bool { return strings.Contains(p, "the quick ") }) {
		t.Errorf("%q", dict)
	}
	if n := taken(dict, texts); n >= len(strings.Join(texts, "")) {
		t.Errorf("dictionary and texts take %d bytes", n)
	}
	wantCheck(t, dict, 0, api.OK)
}

// A text as long as a topic's may be, and many of them.
func TestMuchText(t *testing.T) {
	d := dice(2)
	var texts []string
	for range 20 {
		var b strings.Builder
		for b.Len() < api.MaxText-20 {
			b.WriteString([]string{"the ", "quick ", "brown ", "fox ", "jumps ", "over ", "a ", "lazy  ", "dog. ", "\n "}[d.throw(10)])
			if d.throw(3) == 0 {
				fmt.Fprint(&b, d.throw(1000), " ")
			}
		}
		texts = append(texts, b.String())
	}
	dict := phrase.Choose(texts)
	wantCheck(t, dict, 0, api.OK)
	if n := taken(dict, texts); len(dict) < 100 || 2*n > taken(nil, texts) {
		t.Errorf("%d phrases, %d bytes of %d", len(dict), n, taken(nil, texts))
	}
	for _, s := range texts {
		c, _, _ := phrase.Code(dict, s)
		wantDecode(t, dict, c, s)
	}
}
