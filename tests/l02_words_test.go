package tests

import (
	"math"
	"slices"
	"strings"
	"testing"

	"loop.example/g03209/impl"
)

const (
	letters     = "abcd"
	longestWord = 400
)

// longWords returns words of the greatest length, and some a letter shorter.
func longWords() []string {
	return []string{
		strings.Repeat("a", longestWord), strings.Repeat("d", longestWord-1), strings.Repeat("abcd", longestWord/4),
		strings.Repeat("dc", longestWord/2-1) + "b", strings.Repeat("b", longestWord-1) + "c", "c" + strings.Repeat("b", longestWord-1),
	}
}

// noWords returns strings that are no words: letters and signs outside of a to
// d, at the start, at the end and between letters, and words that are too long.
func noWords() []string {
	bad := []string{"E", "D", "B", "e", "f", "z", "abcde", "0", "-", ",", ";", "|", "a,b", "a b", "abcdABCD", "\u0430", "\uff41", "\U0001d41a"}
	for _, x := range outsiders {
		bad = append(bad, x, "a"+x, x+"d", "ab"+x+"cd", strings.Repeat("a", longestWord-1)+x)
	}
	for _, w := range longWords() {
		bad = append(bad, w+"ab", "ba"+w, w+w)
	}
	return append(bad, strings.Repeat("a", longestWord+1), strings.Repeat("abcd", longestWord/4)+"a", strings.Repeat("b", 5000))
}

// noLetters returns strings that are no words of one letter.
func noLetters() []string {
	return append([]string{"", "aa", "ab", "ba", "cd", "abc", "abcd", strings.Repeat("a", longestWord)}, noWords()...)
}

func someWords() []string { return append(stringsUpTo(letters, 4), longWords()...) }

func TestWordConstants(t *testing.T) {
	if impl.MaxWord != 400 || impl.MaxLetters != 4 {
		t.Errorf("MaxWord = %d, MaxLetters = %d", impl.MaxWord, impl.MaxLetters)
	}
}

func TestWordOk(t *testing.T) {
	for _, w := range append(stringsUpTo(letters, 6), longWords()...) {
		if !impl.WordOk(w) {
			t.Errorf("WordOk(%q) = false", w)
		}
	}
	for _, w := range noWords() {
		if impl.WordOk(w) {
			t.Errorf("WordOk(%q) = true", w)
		}
	}
}

func TestWordOkAllLengths(t *testing.T) {
	for n := range 2 * longestWord {
		for i := range len(letters) {
			w := strings.Repeat(letters[i:i+1], n)
			if got, want := impl.WordOk(w), n <= longestWord; got != want {
				t.Errorf("WordOk of %d letters %q = %v", n, letters[i], got)
			}
		}
	}
}

func TestWordOkAllBytes(t *testing.T) {
	for b := range 256 {
		x := string([]byte{byte(b)})
		want := b >= 97 && b <= 100
		for _, w := range []string{x, "a" + x, x + "a", "d" + x + "d", strings.Repeat("c", longestWord-1) + x, x + strings.Repeat("c", longestWord-1)} {
			if impl.WordOk(w) != want {
				t.Errorf("WordOk(%q) = %v", w, !want)
			}
		}
	}
}

// countBytes counts by a plain loop.
func countBytes(w string, letter byte) int {
	n := 0
	for i := range len(w) {
		if w[i] == letter {
			n++
		}
	}
	return n
}

func TestCountLetter(t *testing.T) {
	for _, c := range []struct {
		w, letter string
		want      int
	}{
		{"abab", "b", 2}, {"abab", "a", 2}, {"abab", "c", 0}, {"", "a", 0}, {"", "d", 0}, {"d", "d", 1}, {"aaaa", "a", 4},
		{"abcd", "c", 1}, {strings.Repeat("d", 400), "d", 400}, {strings.Repeat("d", 400), "a", 0}, {strings.Repeat("ab", 200), "b", 200},
	} {
		if got := impl.CountLetter(c.w, c.letter); got != c.want {
			t.Errorf("CountLetter(%q, %q) = %d, want %d", c.w, c.letter, got, c.want)
		}
	}
	for _, w := range someWords() {
		for i := range len(letters) {
			if got, want := impl.CountLetter(w, letters[i:i+1]), countBytes(w, letters[i]); got != want {
				t.Errorf("CountLetter(%q, %q) = %d, want %d", w, letters[i], got, want)
			}
		}
	}
}

func TestCountLetterRefuses(t *testing.T) {
	for _, w := range noWords() {
		for i := range len(letters) {
			if got := impl.CountLetter(w, letters[i:i+1]); got != -1 {
				t.Errorf("CountLetter(%q, %q) = %d", w, letters[i], got)
			}
		}
	}
	for _, letter := range noLetters() {
		for _, w := range []string{"", "a", "abcd", "abab", strings.Repeat("a", longestWord), letter} {
			if got := impl.CountLetter(w, letter); got != -1 {
				t.Errorf("CountLetter(%q, %q) = %d", w, letter, got)
			}
		}
	}
}

func TestCountsOf(t *testing.T) {
	for _, c := range []struct {
		w    string
		want []int
	}{
		{"abab", []int{2, 2, 0, 0}}, {"", []int{0, 0, 0, 0}}, {"d", []int{0, 0, 0, 1}}, {"ccb", []int{0, 1, 2, 0}}, {"dabaca", []int{3, 1, 1, 1}},
		{strings.Repeat("a", 400), []int{400, 0, 0, 0}}, {strings.Repeat("dc", 200), []int{0, 0, 200, 200}},
	} {
		if got := impl.CountsOf(c.w); !slices.Equal(got, c.want) {
			t.Errorf("CountsOf(%q) = %v, want %v", c.w, got, c.want)
		}
	}
	for _, w := range someWords() {
		want := []int{countBytes(w, 'a'), countBytes(w, 'b'), countBytes(w, 'c'), countBytes(w, 'd')}
		if got := impl.CountsOf(w); !slices.Equal(got, want) {
			t.Errorf("CountsOf(%q) = %v, want %v", w, got, want)
		}
	}
	for _, w := range noWords() {
		if got := impl.CountsOf(w); len(got) != 0 {
			t.Errorf("CountsOf(%q) = %v", w, got)
		}
	}
}

func TestTurnWord(t *testing.T) {
	for _, c := range [][2]string{
		{"", ""}, {"a", "a"}, {"d", "d"}, {"ab", "ba"}, {"abc", "cba"}, {"abcd", "dcba"}, {"aab", "baa"}, {"abcba", "abcba"},
		{strings.Repeat("b", 399) + "c", "c" + strings.Repeat("b", 399)},
	} {
		if got := impl.TurnWord(c[0]); got != c[1] {
			t.Errorf("TurnWord(%q) = %q, want %q", c[0], got, c[1])
		}
	}
	for _, w := range someWords() {
		want := ""
		for i := range len(w) {
			want = w[i:i+1] + want
		}
		if got := impl.TurnWord(w); got != want || impl.TurnWord(got) != w {
			t.Errorf("TurnWord(%q) = %q, want %q", w, got, want)
		}
	}
	for _, w := range noWords() {
		if got := impl.TurnWord(w); got != "" {
			t.Errorf("TurnWord(%q) = %q", w, got)
		}
	}
}

func TestShiftWord(t *testing.T) {
	for _, c := range []struct {
		w    string
		k    int
		want string
	}{
		{"abc", 0, "abc"}, {"abc", 1, "bca"}, {"abc", 2, "cab"}, {"abc", 3, "abc"}, {"", 0, ""}, {"d", 0, "d"}, {"d", 1, "d"}, {"aabb", 2, "bbaa"},
		{"c" + strings.Repeat("b", 399), 1, strings.Repeat("b", 399) + "c"}, {strings.Repeat("ab", 200), 399, strings.Repeat("ba", 200)},
		{strings.Repeat("b", 399) + "c", 400, strings.Repeat("b", 399) + "c"},
	} {
		if got := impl.ShiftWord(c.w, c.k); got != c.want {
			t.Errorf("ShiftWord(%q, %d) = %q, want %q", c.w, c.k, got, c.want)
		}
	}
	for _, w := range someWords() {
		want := w
		for k := range len(w) + 1 {
			if got := impl.ShiftWord(w, k); got != want {
				t.Errorf("ShiftWord(%q, %d) = %q, want %q", w, k, got, want)
			}
			if w != "" {
				want = want[1:] + want[:1]
			}
		}
	}
}

func TestShiftWordRefuses(t *testing.T) {
	for _, w := range someWords() {
		for _, k := range []int{-1, -2, -len(w), -len(w) - 1, len(w) + 1, len(w) + 2, 2*len(w) + 1, 401, math.MaxInt, math.MinInt} {
			if got := impl.ShiftWord(w, k); k != 0 && got != "" {
				t.Errorf("ShiftWord(%q, %d) = %q", w, k, got)
			}
		}
	}
	for _, w := range noWords() {
		for _, k := range []int{-1, 0, 1, 2, 5, len(w) - 1, len(w), len(w) + 1} {
			if got := impl.ShiftWord(w, k); got != "" {
				t.Errorf("ShiftWord(%q, %d) = %q", w, k, got)
			}
		}
	}
}

// beginnings finds the places of a word letter by letter.
func beginnings(w, f string) []int {
	var at []int
	for i := range len(w) {
		same := i+len(f) <= len(w)
		for k := 0; same && k < len(f); k++ {
			same = w[i+k] == f[k]
		}
		if same {
			at = append(at, i)
		}
	}
	return at
}

func TestPlacesIn(t *testing.T) {
	for _, c := range []struct {
		w, f string
		want []int
	}{
		{"aaba", "a", []int{0, 1, 3}}, {"aaba", "b", []int{2}}, {"aaba", "c", nil}, {"aa", "", nil}, {"", "", nil}, {"", "a", nil},
		{"aaaa", "aa", []int{0, 1, 2}}, {"ababa", "aba", []int{0, 2}}, {"abab", "ab", []int{0, 2}}, {"abc", "abc", []int{0}},
		{"abc", "bc", []int{1}}, {"abc", "ab", []int{0}}, {"abc", "ac", nil}, {"abc", "abcd", nil}, {"abc", "abca", nil}, {"a", "aa", nil},
		{strings.Repeat("a", 400), strings.Repeat("a", 400), []int{0}}, {strings.Repeat("a", 400), strings.Repeat("a", 398), []int{0, 1, 2}},
		{strings.Repeat("b", 399) + "c", "c", []int{399}}, {"c", strings.Repeat("c", 400), nil},
	} {
		if got := impl.PlacesIn(c.w, c.f); !slices.Equal(got, c.want) {
			t.Errorf("PlacesIn(%q, %q) = %v, want %v", c.w, c.f, got, c.want)
		}
	}
}

// allPairs calls check with all pairs of short words of the letters a, b and
// d, and of long ones.
func allPairs(check func(v, w string)) {
	words := append(stringsUpTo("abd", 4), longWords()...)
	for _, v := range words {
		for _, w := range words {
			check(v, w)
		}
	}
}

func TestPlacesInAndIsFactorAllPairs(t *testing.T) {
	allPairs(func(f, w string) {
		want := beginnings(w, f)
		if f == "" {
			want = nil
		}
		if got := impl.PlacesIn(w, f); !slices.Equal(got, want) {
			t.Errorf("PlacesIn(%q, %q) = %v, want %v", w, f, got, want)
		}
		if got := impl.IsFactor(w, f); got != (f == "" || len(want) > 0) {
			t.Errorf("IsFactor(%q, %q) = %v", w, f, got)
		}
	})
}

func TestIsFactor(t *testing.T) {
	for _, c := range [][2]string{
		{"abc", ""}, {"", ""}, {"abc", "a"}, {"abc", "b"}, {"abc", "c"}, {"abc", "ab"}, {"abc", "bc"}, {"abc", "abc"}, {"aabaab", "abaa"},
		{strings.Repeat("b", 399) + "c", "bbc"}, {strings.Repeat("b", 400), strings.Repeat("b", 400)}, {strings.Repeat("b", 400), ""},
	} {
		if !impl.IsFactor(c[0], c[1]) {
			t.Errorf("IsFactor(%q, %q) = false", c[0], c[1])
		}
	}
	for _, c := range [][2]string{
		{"abc", "ac"}, {"abc", "cb"}, {"abc", "d"}, {"abc", "abcd"}, {"", "a"}, {"a", "aa"}, {"abc", "ca"}, {strings.Repeat("b", 399), strings.Repeat("b", 400)},
	} {
		if impl.IsFactor(c[0], c[1]) {
			t.Errorf("IsFactor(%q, %q) = true", c[0], c[1])
		}
	}
}

// The same string twice would be a factor, a common start and so on if it
// were a word.
func TestPairsRefuse(t *testing.T) {
	for _, x := range noWords() {
		for _, w := range []string{"", "a", "abcd", strings.Repeat("a", longestWord), x, x + "a", "a" + x} {
			if got := impl.PlacesIn(x, w); len(got) != 0 {
				t.Errorf("PlacesIn(%q, %q) = %v", x, w, got)
			}
			if got := impl.PlacesIn(w, x); len(got) != 0 {
				t.Errorf("PlacesIn(%q, %q) = %v", w, x, got)
			}
			if impl.IsFactor(x, w) || impl.IsFactor(w, x) {
				t.Errorf("IsFactor of %q and %q = %v, %v", x, w, impl.IsFactor(x, w), impl.IsFactor(w, x))
			}
			if m, n := impl.CommonStart(x, w), impl.CommonStart(w, x); m != -1 || n != -1 {
				t.Errorf("CommonStart of %q and %q = %d, %d", x, w, m, n)
			}
			if impl.BeforeWord(x, w) || impl.BeforeWord(w, x) {
				t.Errorf("BeforeWord of %q and %q = %v, %v", x, w, impl.BeforeWord(x, w), impl.BeforeWord(w, x))
			}
		}
	}
}

func TestCommonStart(t *testing.T) {
	for _, c := range []struct {
		v, w string
		want int
	}{
		{"abc", "abd", 2}, {"", "", 0}, {"", "a", 0}, {"a", "", 0}, {"a", "b", 0}, {"a", "a", 1}, {"ab", "abc", 2}, {"abcd", "abc", 3},
		{"abab", "abba", 2}, {"ba", "aba", 0}, {strings.Repeat("a", 400), strings.Repeat("a", 400), 400},
		{strings.Repeat("b", 399) + "c", strings.Repeat("b", 400), 399}, {strings.Repeat("b", 399), strings.Repeat("b", 400), 399},
	} {
		if got := impl.CommonStart(c.v, c.w); got != c.want {
			t.Errorf("CommonStart(%q, %q) = %d, want %d", c.v, c.w, got, c.want)
		}
	}
	allPairs(func(v, w string) {
		n := impl.CommonStart(v, w)
		if n < 0 || n > min(len(v), len(w)) || v[:n] != w[:n] || n < len(v) && n < len(w) && v[n] == w[n] {
			t.Errorf("CommonStart(%q, %q) = %d", v, w, n)
		}
	})
}

func TestSwapLetters(t *testing.T) {
	for _, c := range [][3]string{
		{"abc", "bacd", "bac"}, {"abcd", "abcd", "abcd"}, {"abcd", "dcba", "dcba"}, {"abcd", "bcda", "bcda"}, {"dcba", "bcda", "adcb"},
		{"", "bacd", ""}, {"dd", "abdc", "cc"}, {"aab", "cadb", "cca"}, {strings.Repeat("ad", 200), "bcda", strings.Repeat("ba", 200)},
	} {
		if got, ok := impl.SwapLetters(c[0], c[1]); got != c[2] || !ok {
			t.Errorf("SwapLetters(%q, %q) = %q, %v, want %q", c[0], c[1], got, ok, c[2])
		}
	}
}

// Of all short strings, exactly the 24 orders of the letters are names.
func TestSwapLettersAllNames(t *testing.T) {
	orders := 0
	for _, names := range stringsUpTo("abcde", 5) {
		order := len(names) == 4
		for i := range len(letters) {
			order = order && countBytes(names, letters[i]) == 1
		}
		if order {
			orders++
		}
		for _, w := range []string{"", "abcd", "dab", "ccb"} {
			want := ""
			for i := range len(w) {
				if order {
					want += string(names[w[i]-'a'])
				}
			}
			if got, ok := impl.SwapLetters(w, names); got != want || ok != order {
				t.Errorf("SwapLetters(%q, %q) = %q, %v, want %q, %v", w, names, got, ok, want, order)
			}
		}
	}
	if orders != 24 {
		t.Errorf("%d orders", orders)
	}
}

func TestSwapLettersRefuses(t *testing.T) {
	names := append(noWords(), "", "a", "abc", "bcd", "aacd", "aabc", "abca", "abcc", "abcda", "abcdd", "dabcd", "aabbccdd", "abcdabcd", "ABCD", "bcde", "abc\x00", "abc\xff", " abcd", "abcd ", strings.Repeat("abcd", 100))
	for _, n := range names {
		for _, w := range []string{"", "a", "abcd", strings.Repeat("b", longestWord)} {
			if got, ok := impl.SwapLetters(w, n); got != "" || ok {
				t.Errorf("SwapLetters(%q, %q) = %q, %v", w, n, got, ok)
			}
		}
	}
	for _, w := range noWords() {
		for _, n := range []string{"abcd", "bacd", "dcba", "", w} {
			if got, ok := impl.SwapLetters(w, n); got != "" || ok {
				t.Errorf("SwapLetters(%q, %q) = %q, %v", w, n, got, ok)
			}
		}
	}
}

func TestBeforeWord(t *testing.T) {
	for _, c := range [][2]string{
		{"a", "b"}, {"a", "d"}, {"c", "d"}, {"", "a"}, {"a", "aa"}, {"ab", "abc"}, {"ab", "b"}, {"aab", "ab"}, {"abdd", "aca"}, {"ddda", "dddb"},
		{strings.Repeat("b", 399), strings.Repeat("b", 400)}, {strings.Repeat("b", 400), strings.Repeat("b", 399) + "c"}, {"", strings.Repeat("a", 400)},
	} {
		if !impl.BeforeWord(c[0], c[1]) || impl.BeforeWord(c[1], c[0]) {
			t.Errorf("BeforeWord(%q, %q) = %v, the other way round %v", c[0], c[1], impl.BeforeWord(c[0], c[1]), impl.BeforeWord(c[1], c[0]))
		}
	}
	for _, w := range someWords() {
		if impl.BeforeWord(w, w) {
			t.Errorf("BeforeWord(%q, %q) = true", w, w)
		}
	}
	allPairs(func(v, w string) {
		n := 0
		for n < len(v) && n < len(w) && v[n] == w[n] {
			n++
		}
		want := n < len(w) && (n == len(v) || v[n] < w[n])
		if got := impl.BeforeWord(v, w); got != want {
			t.Errorf("BeforeWord(%q, %q) = %v", v, w, got)
		}
	})
}

func TestWordResultsAreNew(t *testing.T) {
	for range 2 {
		counts := impl.CountsOf("abab")
		places := impl.PlacesIn("aaba", "a")
		if !slices.Equal(counts, []int{2, 2, 0, 0}) || !slices.Equal(places, []int{0, 1, 3}) {
			t.Fatalf("a changed result changes later ones: %v, %v", counts, places)
		}
		others := [][]int{impl.CountsOf("abab"), impl.PlacesIn("aaba", "a")}
		for _, l := range [][]int{counts[:cap(counts)], places[:cap(places)]} {
			for i := range l {
				l[i] = 77
			}
		}
		if !slices.Equal(others[0], []int{2, 2, 0, 0}) || !slices.Equal(others[1], []int{0, 1, 3}) {
			t.Fatalf("results share memory: %v", others)
		}
	}
}

// A word that is turned, shifted or renamed keeps what it is made of, and
// counts and places tell the same.
func TestWordsAgree(t *testing.T) {
	for _, w := range someWords() {
		counts := impl.CountsOf(w)
		turned := impl.TurnWord(w)
		swapped, ok := impl.SwapLetters(w, "cdba")
		back, backOk := impl.SwapLetters(swapped, "dcab")
		if !slices.Equal(impl.CountsOf(turned), counts) || !ok || !backOk || back != w {
			t.Errorf("%q turned is %q, renamed %q and back %q", w, turned, swapped, back)
		}
		for i, n := range counts {
			letter := letters[i : i+1]
			if impl.CountLetter(w, letter) != n || len(impl.PlacesIn(w, letter)) != n || impl.IsFactor(w, letter) != (n > 0) {
				t.Errorf("%q: the letter %s is counted differently from %d", w, letter, n)
			}
		}
		for k := range len(w) + 1 {
			shifted := impl.ShiftWord(w, k)
			if !slices.Equal(impl.CountsOf(shifted), counts) || impl.ShiftWord(shifted, len(w)-k) != w {
				t.Errorf("ShiftWord(%q, %d) = %q", w, k, shifted)
			}
			if impl.CommonStart(w[:k], w) != k || impl.BeforeWord(w[:k], w) != (k < len(w)) || !impl.IsFactor(w, w[k:]) {
				t.Errorf("%q and its beginning of %d letters do not agree", w, k)
			}
		}
	}
}
