package phrase_test

import (
	"strings"
	"testing"

	"folio/api"
	"folio/phrase"
)

// wantCode asks for what s is coded, and that it is decoded back, with just enough bytes and not with one fewer (P14.6).
func wantCode(t *testing.T, dict []string, s, want string) {
	t.Helper()
	if got, at, e := phrase.Code(dict, s); got != want || at != 0 || e != api.OK {
		t.Errorf("Code of %s by %s: %s, %d, %d, want %s", short(s), few(dict), short(got), at, e, short(want))
	}
	wantDecode(t, dict, want, s)
}

func wantCodeError(t *testing.T, dict []string, s string, at int, e api.Errno) {
	t.Helper()
	if got, gotAt, gotE := phrase.Code(dict, s); got != "" || gotAt != at || gotE != e {
		t.Errorf("Code of %s by %s: %s, %d, %d, want %d, %d", short(s), few(dict), short(got), gotAt, gotE, at, e)
	}
}

// P14.2

func TestCodeWithoutPhrases(t *testing.T) {
	wantCode(t, nil, "", "")
	wantCode(t, []string{}, "  a b  ", "  a b  ")
	wantCode(t, []string{"abc"}, "", "")
	wantCode(t, []string{"abc"}, "     ", "     ")
	for n := range 256 {
		b := string([]byte{byte(n)})
		want := b
		if n < 32 {
			want = "\x00" + b
		}
		wantCode(t, nil, b, want)
		wantCode(t, nil, b+b, want+want)
		wantCode(t, []string{"abc "}, "abc x"+b+" abc x"+b, "\x01x"+want+" \x01x"+want)
	}
}

func TestTheLongestRunIsTold(t *testing.T) {
	for _, dict := range [][]string{{"aa ", "aa bb ", "aa bb cc "}, {"aa bb cc ", "aa bb ", "aa "}, {"aa bb ", "aa bb cc ", "aa "}} {
		code := map[string]string{}
		for i, p := range dict {
			code[p] = string([]byte{byte(i + 1)})
		}
		one, two, three := code["aa "], code["aa bb "], code["aa bb cc "]
		wantCode(t, dict, "aa bb cc ", three)
		wantCode(t, dict, "aa bb cc aa bb dd aa ee aa ", three+two+"dd "+one+"ee "+one)
		wantCode(t, dict, "aa aa bb aa bb cc dd", one+two+three+"dd")
		wantCode(t, dict, "aa bb cc", two+"cc")
		wantCode(t, dict, "aa bb", one+"bb")
		wantCode(t, dict, "aa", "aa")
	}
}

func TestTheLastRunOfAText(t *testing.T) {
	dict := []string{"cat", "the cat", "see the cat"}
	wantCode(t, dict, "cat", "\x01")
	wantCode(t, dict, "the cat", "\x02")
	wantCode(t, dict, "see the cat", "\x03")
	wantCode(t, dict, "cat cat", "cat \x01")
	wantCode(t, dict, "the cat the cat", "the cat \x02")
	wantCode(t, dict, "see the cat see the cat", "see the cat \x03")
	wantCode(t, dict, "see the cat see the", "see the cat see the")
	wantCode(t, dict, "see the cat ", "see the cat ")
}

func TestRunsAreOfWholePieces(t *testing.T) {
	wantCode(t, []string{"the"}, "there the", "there \x01")
	wantCode(t, []string{"the"}, "the", "\x01")
	wantCode(t, []string{"the "}, "lathe the  the the ", "lathe the  \x01\x01")
	wantCode(t, []string{"her", "ere"}, "there here", "there here")
	wantCode(t, []string{"a  "}, "a a  a   a  ", "a \x01a   \x01")
	wantCode(t, []string{" bb"}, "a bb", "a bb") // no piece begins with a blank but a text's first
	wantCode(t, []string{" bb"}, " bb", "\x01")
	wantCode(t, []string{"   ", "   aa "}, "   aa ", "\x02")
	wantCode(t, []string{"   ", "   aa "}, "   aa  ", "\x01aa  ")
	wantCode(t, []string{"   ", "   aa "}, "   aa", "\x01aa")
	wantCode(t, []string{"   "}, "   ", "\x01")
	wantCode(t, []string{"   "}, "      ", "      ")
}

func TestCodingGoesOnBehindARun(t *testing.T) {
	wantCode(t, []string{"aa bb ", "bb cc "}, "aa bb cc ", "\x01cc ")
	wantCode(t, []string{"aa bb ", "bb cc "}, "bb cc bb cc aa bb bb cc ", "\x02\x02\x01\x02")
	wantCode(t, []string{"bb cc "}, "aa bb cc ", "aa \x01")
	wantCode(t, []string{"aa aa "}, "aa aa aa aa aa ", "\x01\x01aa ")
	wantCode(t, []string{"aa aa aa "}, "aa aa aa aa aa ", "\x01aa aa ")
	wantCode(t, []string{"aa bb cc ", "aa bb "}, "aa aa bb cc cc ", "aa \x01cc ")
}

// codes are of the phrases' numbers that the chapter's forms begin and end with.
var codes = []struct {
	n    int
	code string
}{
	{0, "\x01"}, {1, "\x02"}, {22, "\x17"}, {23, "\x18"}, {24, "\x19\x00"}, {25, "\x19\x01"}, {55, "\x19\x1f"}, {56, "\x19 "}, {278, "\x19\xfe"},
	{279, "\x19\xff"}, {280, "\x1a\x00"}, {281, "\x1a\x01"}, {535, "\x1a\xff"}, {536, "\x1b\x00"}, {792, "\x1c\x00"}, {1022, "\x1c\xe6"}, {1023, "\x1c\xe7"},
}

func TestNumbersOfPhrases(t *testing.T) {
	dict := numbered("p", 1024, 5)
	for _, c := range codes {
		wantCode(t, dict, dict[c.n], c.code)
		wantCode(t, dict[:c.n+1], dict[c.n], c.code)
		wantCode(t, dict[:c.n], dict[c.n], dict[c.n])
		wantCode(t, dict, "a\n "+dict[c.n], "a\x00\n "+c.code)
		wantCode(t, dict, dict[c.n]+" "+dict[c.n], dict[c.n]+" "+c.code)
	}
}

func TestLowBytesBesidePhrases(t *testing.T) {
	dict := append(numbered("p", 30, 4), "a\n ", "\x01\x02\x03 ", "\x00\x00\x00")
	for n := range 32 {
		b := string([]byte{byte(n)})
		wantCode(t, dict, b+" a\n "+b+" p029", "\x00"+b+" \x19\x06\x00"+b+" \x19\x05")
		wantCode(t, dict, "a\n "+b, "\x19\x06\x00"+b)
		wantCode(t, dict, "a\n"+b+" ", "a\x00\n\x00"+b+" ")
	}
	wantCode(t, dict, "\x01\x02\x03 \x01\x02\x03", "\x19\x07\x00\x01\x00\x02\x00\x03")
	wantCode(t, dict, "\x00\x00\x00", "\x19\x08")
	wantCode(t, dict, "\x00\x00\x00\x00", "\x00\x00\x00\x00\x00\x00\x00\x00")
}

func TestPhrasesOfMostBytes(t *testing.T) {
	p := strings.Repeat("x", 63) + " "
	q := strings.Repeat("x", 30) + " " + strings.Repeat("y", 30) + " z "
	wantCode(t, []string{p, q}, p+p+"x"+p+q+q, "\x01\x01x"+p+"\x02\x02")
}

func TestCodeByNoDictionary(t *testing.T) {
	for _, s := range []string{"", "abc", "a\n", "ab abc"} {
		wantCodeError(t, numbered("p", 1025, 5), s, 0, api.ErrLong)
		wantCodeError(t, []string{"abc", "def", "ab"}, s, 2, api.ErrPhrase)
		wantCodeError(t, []string{"abc", "def", "def", "ab"}, s, 2, api.ErrTwicePhrase)
	}
}
