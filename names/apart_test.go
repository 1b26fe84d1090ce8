package names_test

import (
	"slices"
	"strings"
	"testing"
	"unicode/utf8"

	"folio/names"
)

// P7.6, P7.8

func wantApart(t *testing.T, a, b string, steps int) {
	t.Helper()
	if got := names.Apart(a, b); got != steps {
		t.Errorf("Apart(%.60q, %.60q): %d, want %d", a, b, got, steps)
	}
	if got := names.Apart(b, a); got != steps {
		t.Errorf("Apart(%.60q, %.60q): %d, want %d", b, a, got, steps)
	}
}

func TestApart(t *testing.T) {
	wantApart(t, "", "", 0)
	wantApart(t, "", "abc", 3)
	wantApart(t, "a", "a", 0)
	wantApart(t, "a", "b", 1)
	wantApart(t, "a", "A", 1) // the characters as they are
	wantApart(t, "a", "a ", 1)
	wantApart(t, "kitten", "sitting", 3)
	wantApart(t, "ab", "ba", 2)
	wantApart(t, "abc", "cab", 2)
	wantApart(t, "flaw", "lawn", 2)
	wantApart(t, "saturday", "sunday", 3)
	wantApart(t, "intention", "execution", 5)
	wantApart(t, "aaaa", "a", 3)
	wantApart(t, "abcabc", "abc", 3)
	wantApart(t, "abcdef", "fedcba", 6)
	wantApart(t, "\x00", "\n", 1)
}

func TestApartOfCharacters(t *testing.T) {
	wantApart(t, "é", "e", 1) // two bytes, one character
	wantApart(t, "é", "è", 1)
	wantApart(t, "é", "", 1)
	wantApart(t, "é", "e\u0301", 2)
	wantApart(t, "中文", "中", 1)
	wantApart(t, "中文", "文中", 2)
	wantApart(t, "ab", "中", 2)
	wantApart(t, "\U0001f600", "\U0001f601", 1)
	wantApart(t, "\U0001f600x", "x", 1)
	wantApart(t, "naïve", "naive", 1)
	wantApart(t, "éééé", "é", 3)
	wantApart(t, "aaaaaa", "中", 6) // of more characters and of more bytes
	wantApart(t, "aaa", "中中", 3)
}

func TestApartOfBadBytes(t *testing.T) {
	wantApart(t, "\xff", "\xfe", 0) // each is U+FFFD
	wantApart(t, "\xff", "\ufffd", 0)
	wantApart(t, "a\xffb", "a\ufffdb", 0)
	wantApart(t, "\xe4\xb8", "\ufffd\ufffd", 0) // two bytes that begin none
	wantApart(t, "\xe4\xb8\xad", "\xe4\xb8", 2) // one character, and two
	wantApart(t, "\xff\xff", "\ufffd", 1)
	wantApart(t, "\xff", "", 1)
	wantApart(t, "\xff", "a", 1)
	wantApart(t, "\xed\xa0\x80", "\ufffd\ufffd\ufffd", 0)
	wantApart(t, "\xc3", "\xc3\xa9", 1)
}

func TestApartOfLongTexts(t *testing.T) {
	a := strings.Repeat("abcd", 500)
	wantApart(t, a, a, 0)
	wantApart(t, a, "", 2000)
	wantApart(t, a, a[1:], 1)
	wantApart(t, a, a+"x", 1)
	wantApart(t, a, strings.Repeat("x", 2000), 2000)
	wantApart(t, a, "d"+a[:1999], 2)
	wantApart(t, a, a[:1000], 1000)
	wantApart(t, strings.Repeat("\xff", 100000), "", 100000)
	wantApart(t, strings.Repeat("é", 100000), "\xff", 100000)
}

// short answers all texts of at most so many of these characters.
func short(characters []string, most int) []string {
	l := []string{""}
	for from := 0; most > 0; most-- {
		to := len(l)
		for _, s := range l[from:to] {
			for _, c := range characters {
				l = append(l, s+c)
			}
		}
		from = to
	}
	return l
}

// aStep answers whether just one step leads from one text to the other.
func aStep(a, b []rune) bool {
	if len(a) > len(b) {
		a, b = b, a
	}
	if len(b)-len(a) > 1 || slices.Equal(a, b) {
		return false
	}
	k := 0
	for k < len(a) && a[k] == b[k] {
		k++
	}
	if len(a) == len(b) {
		return slices.Equal(a[k+1:], b[k+1:])
	}
	return slices.Equal(a[k:], b[k+1:])
}

// TestApartIsTheFewestSteps looks for the shortest ways over all short texts, step by step.
func TestApartIsTheFewestSteps(t *testing.T) {
	l := short([]string{"a", "é", "\xff"}, 4)
	var next [][]int
	for _, a := range l {
		var n []int
		for j, b := range l {
			if aStep([]rune(a), []rune(b)) {
				n = append(n, j)
			}
		}
		next = append(next, n)
	}
	for i, a := range l {
		steps := map[int]int{i: 0}
		for queue := []int{i}; len(queue) > 0; queue = queue[1:] {
			for _, j := range next[queue[0]] {
				if _, ok := steps[j]; !ok {
					steps[j] = steps[queue[0]] + 1
					queue = append(queue, j)
				}
			}
		}
		for j, b := range l {
			if got := names.Apart(a, b); got != steps[j] {
				t.Fatalf("Apart(%q, %q): %d, want %d", a, b, got, steps[j])
			}
		}
	}
}

// reckonedApart goes from the ends of two texts, with no rows: what is left of each is a key.
func reckonedApart(a, b []rune, known map[[2]int]int) int {
	key := [2]int{len(a), len(b)}
	if steps, ok := known[key]; ok {
		return steps
	}
	steps := len(a) + len(b)
	if len(a) > 0 && len(b) > 0 {
		x, y := a[:len(a)-1], b[:len(b)-1]
		if a[len(x)] == b[len(y)] {
			steps = reckonedApart(x, y, known)
		} else {
			steps = 1 + min(reckonedApart(x, y, known), reckonedApart(x, b, known), reckonedApart(a, y, known))
		}
	}
	known[key] = steps
	return steps
}

func TestApartIsAsReckoned(t *testing.T) {
	d := dice(1)
	for range 5000 {
		a := d.text(d.throw(40))
		b := d.changed(a, d.throw(8))
		if d.throw(3) == 0 {
			b = d.text(d.throw(40))
		}
		want := reckonedApart([]rune(a), []rune(b), map[[2]int]int{})
		if got := names.Apart(a, b); got != want {
			t.Fatalf("Apart(%q, %q): %d, want %d", a, b, got, want)
		}
	}
}

func TestApartIsADistance(t *testing.T) {
	d := dice(2)
	zero := 0
	for range 5000 {
		a := d.text(d.throw(12))
		b := d.changed(a, d.throw(3))
		c := d.changed(b, d.throw(5))
		ab, bc, ac := names.Apart(a, b), names.Apart(b, c), names.Apart(a, c)
		if (ab == 0) != slices.Equal([]rune(a), []rune(b)) {
			t.Fatalf("Apart(%q, %q): %d", a, b, ab)
		}
		if ba := names.Apart(b, a); ba != ab {
			t.Fatalf("Apart(%q, %q): %d, the other way %d", a, b, ab, ba)
		}
		if ac > ab+bc {
			t.Fatalf("Apart(%q, %q) is %d, over %q %d and %d", a, c, ac, b, ab, bc)
		}
		n, m := utf8.RuneCountInString(a), utf8.RuneCountInString(c)
		if ac > max(n, m) || ac < max(n, m)-min(n, m) {
			t.Fatalf("Apart(%q, %q): %d", a, c, ac)
		}
		if a != b && ab == 0 {
			zero++
		}
	}
	if zero < 5 {
		t.Errorf("%d unlike texts of the same characters alone", zero)
	}
}
