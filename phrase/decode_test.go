package phrase_test

import (
	"math"
	"strings"
	"testing"

	"folio/api"
	"folio/phrase"
)

// wantDecode asks for what b tells, with just enough bytes and with more, and for ErrLong with fewer.
func wantDecode(t *testing.T, dict []string, b, want string) {
	t.Helper()
	for _, most := range []int{len(want), len(want) + 1, math.MaxInt} {
		if got, e := phrase.Decode(dict, b, most); got != want || e != api.OK {
			t.Errorf("Decode of %s by %s, of at most %d: %s, %d, want %s", short(b), few(dict), most, short(got), e, short(want))
		}
	}
	for _, most := range []int{len(want) - 1, len(want) / 2, 0, -1, math.MinInt} {
		if most < len(want) {
			wantDecodeError(t, dict, b, most, api.ErrLong)
		}
	}
}

func wantDecodeError(t *testing.T, dict []string, b string, most int, want api.Errno) {
	t.Helper()
	if got, e := phrase.Decode(dict, b, most); got != "" || e != want {
		t.Errorf("Decode of %s by %s, of at most %d: %s, %d, want %d", short(b), few(dict), most, short(got), e, want)
	}
}

// P14.3

func TestDecode(t *testing.T) {
	dict := []string{"the ", "cat", "a\n b "}
	wantDecode(t, nil, "", "")
	wantDecode(t, dict, "", "")
	wantDecode(t, dict, "\x01\x02", "the cat")
	wantDecode(t, dict, "\x02\x02\x03\x03\x01", "catcata\n b a\n b the ")
	wantDecode(t, dict, "the cat", "the cat") // that Code would have told it otherwise is not asked
	wantDecode(t, dict, "x\x01y\x00\x00\x00\x1fz\x03 \xff\x00\x01", "xthe y\x00\x1fza\n b  \xff\x01")
	wantDecode(t, dict, strings.Repeat("\x01", 100000), strings.Repeat("the ", 100000))
}

// reckonedCodes are all codes by a dictionary, each with what it tells; none is another one's beginning.
func reckonedCodes(dict []string) map[string]string {
	codes := map[string]string{}
	for n := range 256 {
		b := string([]byte{byte(n)})
		if n > 31 {
			codes[b] = b
		} else {
			codes["\x00"+b] = b
		}
	}
	for n, p := range dict {
		if n < 24 {
			codes[string([]byte{byte(n + 1)})] = p
		} else {
			codes[string([]byte{byte(25 + (n-24)/256), byte((n - 24) % 256)})] = p
		}
	}
	return codes
}

// reckonedDecode takes code by code.
func reckonedDecode(codes map[string]string, b string, most int) (string, api.Errno) {
	if most < 0 {
		return "", api.ErrLong
	}
	s := ""
	for len(b) > 0 {
		long := 1
		told, found := codes[b[:1]]
		if !found && len(b) > 1 {
			long = 2
			told, found = codes[b[:2]]
		}
		if !found {
			return "", api.ErrCode
		}
		s += told
		if len(s) > most {
			return "", api.ErrLong
		}
		b = b[long:]
	}
	return s, api.OK
}

func wantDecodeAsReckoned(t *testing.T, dict []string, codes map[string]string, b string, most int) {
	t.Helper()
	want, wantE := reckonedDecode(codes, b, most)
	if got, e := phrase.Decode(dict, b, most); got != want || e != wantE {
		t.Errorf("Decode of %s by %s, of at most %d: %s, %d, want %s, %d", short(b), few(dict), most, short(got), e, short(want), wantE)
	}
}

func TestEveryFirstByte(t *testing.T) {
	all := numbered("p", 1024, 5)
	for _, n := range []int{0, 1, 23, 24, 25, 26, 279, 280, 281, 1024} {
		dict := all[:n]
		codes := reckonedCodes(dict)
		for x := range 256 {
			b := string([]byte{byte(x)})
			for _, most := range []int{-1, 0, 1, 4, 5, 99} {
				wantDecodeAsReckoned(t, dict, codes, b, most)
			}
			if n > 25 && x > 31 { // as with fewer phrases: of these bytes none is a phrase's
				continue
			}
			for y := range 256 {
				wantDecodeAsReckoned(t, dict, codes, b+string([]byte{byte(y)}), 99)
			}
		}
	}
}

func TestPhrasesThatThereAre(t *testing.T) {
	all := numbered("p", 1024, 5)
	for _, c := range codes {
		wantDecode(t, all[:c.n+1], c.code, all[c.n])
		wantDecode(t, all, c.code+"x"+c.code, all[c.n]+"x"+all[c.n])
		wantDecodeError(t, all[:c.n], c.code, 99, api.ErrCode)
		wantDecodeError(t, all[:c.n], "x"+c.code+"x", 99, api.ErrCode)
	}
	wantDecodeError(t, all, "\x1c\xe8", 99, api.ErrCode) // the number 1024
	wantDecodeError(t, all, "\x1c\xff", 99, api.ErrCode)
	wantDecodeError(t, all, "\x1d\x00", 99, api.ErrCode)
	wantDecodeError(t, all, "\x1f\xff", 99, api.ErrCode)
}

func TestCodesThatBreakOff(t *testing.T) {
	dict := numbered("p", 1024, 5)
	for _, b := range []string{"\x00", "\x19", "\x1a", "\x1b", "\x1c", "\x1f", "ab\x00", "\x01\x00", "\x01\x19", "\x00\x00\x00", "\x19\x00\x19"} {
		wantDecodeError(t, dict, b, 99, api.ErrCode)
	}
	for n := 32; n < 256; n++ {
		wantDecodeError(t, dict, "\x00"+string([]byte{byte(n)}), 99, api.ErrCode)
		wantDecodeError(t, dict, "a\x00"+string([]byte{byte(n)})+"a", 99, api.ErrCode)
	}
}

func TestTooMuch(t *testing.T) {
	dict := []string{"abc", "a b c "}
	for _, most := range []int{math.MinInt, math.MinInt + 1, -2, -1} { // ahead of the first byte, whatever it is
		for _, b := range []string{"", "a", "\x00", "\x00a", "\x01", "\x03", "\x19", "\x19\x00"} {
			wantDecodeError(t, dict, b, most, api.ErrLong)
		}
	}
	wantDecode(t, dict, "\x01x\x02\x00\n", "abcxa b c \n")
	for most := range 11 {
		wantDecodeError(t, dict, "\x01x\x02\x00\n", most, api.ErrLong)
	}
	wantDecodeError(t, dict, "a", 0, api.ErrLong)
	wantDecodeError(t, dict, "\x00\x00", 0, api.ErrLong)
	wantDecodeError(t, dict, "\x01", 0, api.ErrLong)
}

func TestTheFirstByteThatIsWrong(t *testing.T) {
	dict := []string{"abc", "a b c "}
	for _, bad := range []string{"\x00", "\x00a", "\x03", "\x18", "\x19", "\x19\x00", "\x1f\xff"} {
		wantDecodeError(t, dict, bad, 0, api.ErrCode) // there is no room for a byte, but none is told
		wantDecodeError(t, dict, "\x01"+bad, 3, api.ErrCode)
		wantDecodeError(t, dict, "\x01"+bad, 2, api.ErrLong)
		wantDecodeError(t, dict, "ab"+bad+"ab", 2, api.ErrCode)
		wantDecodeError(t, dict, "abc"+bad, 2, api.ErrLong)
		wantDecodeError(t, dict, bad+"abc", 2, api.ErrCode)
		wantDecodeError(t, dict, "\x00\n"+bad, 0, api.ErrLong)
		wantDecodeError(t, dict, "\x00\n"+bad, 1, api.ErrCode)
	}
}

func TestDecodeByNoDictionary(t *testing.T) {
	for _, b := range []string{"", "abc", "\x00", "\x01", "\x19\x00"} {
		for _, most := range []int{math.MinInt, -1, 0, 1, 99, math.MaxInt} {
			wantDecodeError(t, numbered("p", 1025, 5), b, most, api.ErrLong)
			wantDecodeError(t, []string{"abc", "ab"}, b, most, api.ErrPhrase)
			wantDecodeError(t, []string{"abc", "abc"}, b, most, api.ErrTwicePhrase)
		}
	}
}

func TestAnyBytesAreDecodedAsReckoned(t *testing.T) {
	all := append([]string{"abc", "a b c ", "\x00\x01\x02", "\xff\xff\xff"}, numbered("p", 296, 7)...)
	for _, n := range []int{0, 1, 4, 24, 30, 300} {
		codes := reckonedCodes(all[:n])
		eachText("\x00\x01\x02\x18\x19\x1a\x1f a", 3, func(b string) {
			for most := -1; most < 5; most++ {
				wantDecodeAsReckoned(t, all[:n], codes, b, most)
			}
		})
	}
	d := dice(1)
	for range 20000 {
		n := d.one(0, 1, 2, 23, 24, 25, 40, 280, 300)
		codes := reckonedCodes(all[:n])
		for range 5 {
			b := make([]byte, d.throw(12))
			for i := range b {
				b[i] = byte(d.throw(d.one(256, 40, 33, 27, 3)))
			}
			wantDecodeAsReckoned(t, all[:n], codes, string(b), d.one(-1, 0, 1, 5, 10, 20, 99))
		}
	}
}
