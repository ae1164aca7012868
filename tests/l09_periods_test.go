package tests

import (
	"math"
	"slices"
	"strings"
	"testing"

	"loop.example/g03209/impl"
)

const longestLyndon = 12

// lyndonNumbers returns how many Lyndon words of 1, 2 and so on to 12 letters
// there are, of the first letter of the alphabet, the first two and so on.
func lyndonNumbers() [][]int {
	return [][]int{
		{1, 0, 0, 0, 0, 0, 0, 0, 0, 0, 0, 0},
		{2, 1, 2, 3, 6, 9, 18, 30, 56, 99, 186, 335},
		{3, 3, 8, 18, 48, 116, 312, 810, 2184, 5880, 16104, 44220},
		{4, 6, 20, 60, 204, 670, 2340, 8160, 29120, 104754, 381300, 1397740},
	}
}

// numbersFrom returns the numbers from first to last that differ by step.
func numbersFrom(first, last, step int) []int {
	var numbers []int
	for n := first; n <= last; n += step {
		numbers = append(numbers, n)
	}
	return numbers
}

// shiftsOf returns the word shifted by 0, by 1 and so on, but not by its length.
func shiftsOf(w string) []string {
	var shifts []string
	for k := range len(w) {
		shifts = append(shifts, w[k:]+w[:k])
	}
	return shifts
}

// lyndonWord returns a Lyndon word of n letters with no order that shows: it has
// the first count letters, at most three, and one d.
func lyndonWord(seed uint32, count, n int) string {
	return slices.Min(shiftsOf(mixedWord(seed, count, n-1) + "d"))
}

// periodWords returns words with many borders and few, powers and nearly powers,
// Lyndon words, their shifts and powers, and words of several of them.
func periodWords() []string {
	words := append(palindromeWords(), powerWords()...)
	for i, n := range []int{12, 59, 60, 61, 398, 399, 400} {
		for count := 2; count <= 3; count++ {
			lyndon, other, part := lyndonWord(uint32(i), count, n), lyndonWord(uint32(i+5), count, n/2), lyndonWord(uint32(i+9), count, n/4)
			words = append(words, lyndon, lyndon[1:]+lyndon[:1], lyndon[n-1:]+lyndon[:n-1], lyndon[n/2:]+lyndon[:n/2], backwards(lyndon), lyndon[1:], lyndon[:n-1],
				other+other, part+part+part+part, part+part+part, part+other, other+part, other+part+part, "d"+part+"cc"+part+"b", part[1:]+part+part+part[:1], strings.Repeat(part, 3)+part[:n/8])
		}
		words = append(words, strings.Repeat("a", n/2)+"b"+strings.Repeat("a", n-n/2-1), strings.Repeat("a", n-1)+"d", "d"+strings.Repeat("a", n-1),
			strings.Repeat("d", n/4)+strings.Repeat("c", n/4)+strings.Repeat("b", n/4)+strings.Repeat("a", n/4), strings.Repeat("aabaab"+"aabaac", n/12), strings.Repeat("ba", n/2), strings.Repeat("aab", n/3))
	}
	return words
}

func plainBorders(w string) []int {
	var borders []int
	for n := 1; n < len(w); n++ {
		if strings.HasSuffix(w, w[:n]) {
			borders = append(borders, n)
		}
	}
	return borders
}

func hasPeriod(w string, p int) bool {
	if p < 1 || p > len(w) {
		return false
	}
	for i := p; i < len(w); i++ {
		if w[i] != w[i-p] {
			return false
		}
	}
	return true
}

func plainPeriods(w string) []int {
	var periods []int
	for p := range len(w) + 1 {
		if hasPeriod(w, p) {
			periods = append(periods, p)
		}
	}
	return periods
}

func plainRoot(w string) (string, int) {
	for n := 1; n <= len(w); n++ {
		if times := len(w) / n; strings.Repeat(w[:n], times) == w {
			return w[:n], times
		}
	}
	return "", 0
}

func plainLeastShift(w string) int {
	if w == "" {
		return -1
	}
	shifts := shiftsOf(w)
	return slices.Index(shifts, slices.Min(shifts))
}

func plainLyndon(w string) bool {
	isNotBehind := func(shift string) bool { return shift <= w }
	return w != "" && !slices.ContainsFunc(shiftsOf(w)[1:], isNotBehind)
}

// plainParts cuts off the end that comes first in the order of the alphabet,
// again and again.
func plainParts(w string) []string {
	var parts []string
	for w != "" {
		last := w
		for i := range len(w) {
			last = min(last, w[i:])
		}
		parts = append(parts, last)
		w = strings.TrimSuffix(w, last)
	}
	slices.Reverse(parts)
	return parts
}

func plainConjugate(v, w string) bool { return v == w || slices.Contains(shiftsOf(v), w) }

func plainFine(w string, p, q int) bool {
	if !hasPeriod(w, p) || !hasPeriod(w, q) {
		return false
	}
	g := min(p, q)
	for p%g != 0 || q%g != 0 {
		g--
	}
	return len(w) < p+q-g || hasPeriod(w, g)
}

// everyCut checks all ways to cut a word into parts.
func everyCut(w string, check func(parts []string)) {
	var cut func(parts []string, rest string)
	cut = func(parts []string, rest string) {
		if rest == "" {
			check(parts)
		}
		for n := 1; n <= len(rest); n++ {
			cut(append(slices.Clone(parts), rest[:n]), rest[n:])
		}
	}
	cut(nil, w)
}

func checkBorders(t *testing.T, w string, want []int) {
	t.Helper()
	if got := impl.BordersOf(w); !slices.Equal(got, want) {
		t.Errorf("BordersOf(%q) = %v, want %v", w, got, want)
	}
}

func checkAllPeriods(t *testing.T, w string, want []int) {
	t.Helper()
	if got := impl.PeriodsOf(w); !slices.Equal(got, want) {
		t.Errorf("PeriodsOf(%q) = %v, want %v", w, got, want)
	}
}

func checkRoot(t *testing.T, w, root string, times int) {
	t.Helper()
	if got, n := impl.RootOf(w); got != root || n != times {
		t.Errorf("RootOf(%q) = %q, %d, want %q, %d", w, got, n, root, times)
	}
	if got := impl.IsPrimitiveWord(w); got != (times == 1) {
		t.Errorf("IsPrimitiveWord(%q) = %v", w, got)
	}
}

func checkLeastShift(t *testing.T, w string, want int) {
	t.Helper()
	if got := impl.LeastShift(w); got != want {
		t.Errorf("LeastShift(%q) = %d, want %d", w, got, want)
	}
}

func checkLyndon(t *testing.T, w string, want bool) {
	t.Helper()
	if got := impl.IsLyndon(w); got != want {
		t.Errorf("IsLyndon(%q) = %v", w, got)
	}
}

func checkParts(t *testing.T, w string, want []string) {
	t.Helper()
	if got := impl.LyndonParts(w); !slices.Equal(got, want) {
		t.Errorf("LyndonParts(%q) = %q, want %q", w, got, want)
	}
}

func checkConjugate(t *testing.T, v, w string, want bool) {
	t.Helper()
	if got := impl.AreConjugate(v, w); got != want {
		t.Errorf("AreConjugate(%q, %q) = %v", v, w, got)
	}
}

func checkCountLyndon(t *testing.T, count, n, want int) {
	t.Helper()
	if got := impl.CountLyndon(count, n); got != want {
		t.Errorf("CountLyndon(%d, %d) = %d, want %d", count, n, got, want)
	}
}

func checkFine(t *testing.T, w string, p, q int, want bool) {
	t.Helper()
	if got := impl.AllPeriodsFine(w, p, q); got != want {
		t.Errorf("AllPeriodsFine(%q, %d, %d) = %v", w, p, q, got)
	}
}

// checkFinePairs takes each two of the numbers in both orders, and each one
// twice.
func checkFinePairs(t *testing.T, w string, numbers []int) {
	t.Helper()
	for _, p := range numbers {
		for _, q := range numbers {
			checkFine(t, w, p, q, plainFine(w, p, q))
		}
	}
}

// checkBorderFunctions compares the functions of a word with the plain second
// versions.
func checkBorderFunctions(t *testing.T, w string) {
	t.Helper()
	root, times := plainRoot(w)
	checkBorders(t, w, plainBorders(w))
	checkAllPeriods(t, w, plainPeriods(w))
	checkRoot(t, w, root, times)
	checkLeastShift(t, w, plainLeastShift(w))
	checkLyndon(t, w, plainLyndon(w))
	checkParts(t, w, plainParts(w))
}

func TestBordersOf(t *testing.T) {
	as := strings.Repeat("a", 400)
	half := markedWord(200)
	for w, want := range map[string][]int{
		"": {}, "a": {}, "d": {}, "ab": {}, "ba": {}, "abc": {}, "abcd": {}, "dcba": {}, "aab": {}, "abb": {}, "baa": {}, "aabb": {}, "abcacb": {}, "aabab": {}, "abcabd": {},
		"aa": {1}, "dd": {1}, "aba": {1}, "dad": {1}, "abba": {1}, "abcba": {1}, "abca": {1}, "dabcd": {1}, "abaca": {1}, "abcda": {1}, "abab": {2}, "abcab": {2}, "abacab": {2}, "abacabab": {2}, "abcabc": {3}, "aabaab": {3}, "aabaaab": {3}, "abcdabcd": {4},
		"aaa": {1, 2}, "aaaa": {1, 2, 3}, "ddddd": {1, 2, 3, 4}, "ababa": {1, 3}, "ababab": {2, 4}, "abababa": {1, 3, 5}, "abcabca": {1, 4}, "abcabcab": {2, 5}, "abcabcabc": {3, 6}, "aabaa": {1, 2}, "aabaaa": {1, 2}, "abaaba": {1, 3}, "abaabaab": {2, 5}, "aabaabaa": {1, 2, 5}, "abacaba": {1, 3}, "abaababaaba": {1, 3, 6}, "aaabaaa": {1, 2, 3}, "abacabadabacaba": {1, 3, 7},
		as: numbersFrom(1, 399, 1), as[1:]: numbersFrom(1, 398, 1), strings.Repeat("ab", 200): numbersFrom(2, 398, 2), strings.Repeat("ab", 199) + "a": numbersFrom(1, 397, 2), strings.Repeat("abcd", 100): numbersFrom(4, 396, 4), strings.Repeat("abc", 133) + "a": numbersFrom(1, 397, 3),
		as[1:] + "b": {}, "b" + as[1:]: {}, "b" + as[2:] + "b": {1}, as[:199] + "b" + as[:200]: numbersFrom(1, 199, 1), as[:200] + "b" + as[:199]: numbersFrom(1, 199, 1), as[:200] + "bc" + as[:198]: numbersFrom(1, 198, 1), as[:198] + "bc" + as[:200]: numbersFrom(1, 198, 1),
		half: {}, half + half: {200}, half[1:] + half[1:] + "d": {}, half[1:] + half[1:]: {199}, half + "c" + half[1:]: {}, half[1:] + "c" + half[1:]: {199}, half[1:] + "ca" + half[1:]: {199},
	} {
		checkBorders(t, w, want)
	}
}

func TestPeriodsOf(t *testing.T) {
	as := strings.Repeat("a", 400)
	half := markedWord(200)
	for w, want := range map[string][]int{
		"": {}, "a": {1}, "d": {1}, "ab": {2}, "ba": {2}, "abc": {3}, "abcd": {4}, "dcba": {4}, "aab": {3}, "abb": {3}, "baa": {3}, "aabb": {4}, "abcacb": {6}, "abcabd": {6},
		"aa": {1, 2}, "dd": {1, 2}, "aba": {2, 3}, "dad": {2, 3}, "abba": {3, 4}, "abca": {3, 4}, "abcba": {4, 5}, "abab": {2, 4}, "abcab": {3, 5}, "abcabc": {3, 6}, "aabaab": {3, 6}, "aabaaab": {4, 7}, "abcdabcd": {4, 8},
		"aaa": {1, 2, 3}, "aaaa": {1, 2, 3, 4}, "ababa": {2, 4, 5}, "ababab": {2, 4, 6}, "abababa": {2, 4, 6, 7}, "abcabca": {3, 6, 7}, "abcabcab": {3, 6, 8}, "aabaa": {3, 4, 5}, "abaaba": {3, 5, 6}, "aabaabaa": {3, 6, 7, 8}, "abaababaaba": {5, 8, 10, 11}, "abacabadabacaba": {8, 12, 14, 15},
		as: numbersFrom(1, 400, 1), as[1:]: numbersFrom(1, 399, 1), strings.Repeat("ab", 200): numbersFrom(2, 400, 2), strings.Repeat("ab", 199) + "a": append(numbersFrom(2, 398, 2), 399), strings.Repeat("abcd", 100): numbersFrom(4, 400, 4), strings.Repeat("abc", 133) + "a": append(numbersFrom(3, 399, 3), 400),
		as[1:] + "b": {400}, "b" + as[1:]: {400}, "b" + as[2:] + "b": {399, 400}, as[:199] + "b" + as[:200]: numbersFrom(201, 400, 1), as[:200] + "b" + as[:199]: numbersFrom(201, 400, 1),
		half: {200}, half + half: {200, 400}, half[1:] + half[1:] + "d": {399}, half[1:] + half[1:]: {199, 398}, half[1:] + "ca" + half[1:]: {201, 400},
	} {
		checkAllPeriods(t, w, want)
	}
}

func TestRootOf(t *testing.T) {
	as := strings.Repeat("a", 400)
	half, part := markedWord(200), markedWord(133)
	for _, c := range []struct {
		w, root string
		times   int
	}{
		{"", "", 0}, {"a", "a", 1}, {"d", "d", 1}, {"ab", "ab", 1}, {"ba", "ba", 1}, {"aba", "aba", 1}, {"aab", "aab", 1}, {"abba", "abba", 1}, {"abcd", "abcd", 1}, {"aabb", "aabb", 1},
		{"aa", "a", 2}, {"dd", "d", 2}, {"aaa", "a", 3}, {"aaaa", "a", 4}, {"cccccc", "c", 6}, {"abab", "ab", 2}, {"baba", "ba", 2}, {"ababab", "ab", 3}, {"abababab", "ab", 4}, {"abcabc", "abc", 2}, {"aabaab", "aab", 2}, {"abaaba", "aba", 2}, {"abcdabcd", "abcd", 2}, {"abaabaaba", "aba", 3}, {"aabbaabb", "aabb", 2}, {"ababcababc", "ababc", 2}, {"ababaababa", "ababa", 2},
		{"ababa", "ababa", 1}, {"abababa", "abababa", 1}, {"abcab", "abcab", 1}, {"abcabca", "abcabca", 1}, {"abcabcab", "abcabcab", 1}, {"abaab", "abaab", 1}, {"aabaabaa", "aabaabaa", 1}, {"aabaa", "aabaa", 1}, {"aaaab", "aaaab", 1}, {"abaababaabaab", "abaababaabaab", 1}, {"aabaaabaaa", "aabaaabaaa", 1},
		{as, "a", 400}, {as[1:], "a", 399}, {strings.Repeat("ab", 200), "ab", 200}, {strings.Repeat("ba", 199), "ba", 199}, {strings.Repeat("abcd", 100), "abcd", 100}, {strings.Repeat("abc", 133), "abc", 133}, {strings.Repeat("aab", 133), "aab", 133}, {strings.Repeat("aaaab", 80), "aaaab", 80},
		{half, half, 1}, {half + half, half, 2}, {part + part + part, part, 3}, {half[1:] + half[1:], half[1:], 2}, {half + half[:199], half + half[:199], 1}, {half + half[:100], half + half[:100], 1}, {part + part + part + "a", part + part + part + "a", 1}, {strings.Repeat("ab", 199) + "a", strings.Repeat("ab", 199) + "a", 1}, {as[1:] + "b", as[1:] + "b", 1}, {"b" + as[1:], "b" + as[1:], 1}, {strings.Repeat("ab", 199) + "ba", strings.Repeat("ab", 199) + "ba", 1},
	} {
		checkRoot(t, c.w, c.root, c.times)
	}
}

func TestLeastShift(t *testing.T) {
	as := strings.Repeat("a", 400)
	for w, want := range map[string]int{
		"": -1, "a": 0, "d": 0, "aa": 0, "dd": 0, "ab": 0, "abc": 0, "aab": 0, "abb": 0, "aaab": 0, "abac": 0, "aabab": 0, "abcd": 0, "bd": 0, "bcbd": 0,
		"ba": 1, "cab": 1, "bba": 2, "dcba": 3, "bcda": 3, "aba": 2, "abba": 3, "bcbcbca": 6, "baa": 1, "bab": 1, "abaa": 2, "abcab": 3, "baac": 1, "bcab": 2, "caba": 1, "bbab": 2, "babaab": 3, "babaa": 3, "abaab": 2, "aabaaa": 3, "aaba": 3, "abca": 3, "cbacba": 2, "dabc": 1, "dcdb": 3, "db": 1, "abaaab": 2, "aabaaab": 3, "abacabaa": 6,
		"aaa": 0, "abab": 0, "abcabc": 0, "aabaab": 0, "baba": 1, "bababa": 1, "bcabca": 2, "cabcab": 1, "abaaba": 2, "baabaa": 1, "bbabba": 2, "abaabaaba": 2, "dcbadcba": 3, "babbab": 1, "bbabbabba": 2,
		as: 0, as[1:] + "b": 0, "b" + as[1:]: 1, strings.Repeat("b", 399) + "a": 399, strings.Repeat("ba", 200): 1, strings.Repeat("ab", 200): 0, as[:200] + "b" + as[:199]: 201, as[:199] + "b" + as[:200]: 200, as[:199] + "d" + as[:199] + "c": 200, as[:199] + "c" + as[:199] + "d": 0, strings.Repeat("bcda", 100): 3, strings.Repeat("ab", 199) + "aa": 398, strings.Repeat("ab", 199) + "a": 398,
	} {
		checkLeastShift(t, w, want)
	}
}

func TestIsLyndon(t *testing.T) {
	as := strings.Repeat("a", 400)
	l := lyndonWord(3, 3, 400)
	for w, want := range map[string]bool{
		"a": true, "b": true, "c": true, "d": true, "ab": true, "ad": true, "cd": true, "aab": true, "abb": true, "abc": true, "acb": true, "abcd": true, "aaab": true, "aabb": true, "abbb": true, "abac": true, "aabab": true, "ababb": true, "abacabad": true, "bcbd": true, "aabaac": true, "aabac": true, "bd": true, "abbabbb": true,
		"": false, "aa": false, "dd": false, "aaa": false, "abab": false, "abcabc": false, "aabaab": false, "abbabb": false, "cdcd": false,
		"ba": false, "aba": false, "baa": false, "bab": false, "bba": false, "abaa": false, "abba": false, "acab": false, "bca": false, "cab": false, "cba": false, "dcba": false, "abaab": false, "abaabb": false, "aabaa": false, "abcab": false, "baab": false, "ababa": false, "aabaaab": false, "abcaabd": false, "db": false,
		as: false, as[1:] + "b": true, "b" + as[1:]: false, as[:398] + "ba": false, as[:200] + "b" + as[:198] + "b": true, as[:199] + "b" + as[:199] + "b": false, as[:198] + "b" + as[:200] + "b": false, strings.Repeat("ab", 200): false, strings.Repeat("ab", 199) + "b": true, strings.Repeat("ab", 199) + "a": false,
		l: true, l[1:] + l[:1]: false, l[399:] + l[:399]: false, l[200:] + l[:200]: false, l + l[:1]: false, lyndonWord(3, 3, 401): false,
	} {
		checkLyndon(t, w, want)
	}
}

func TestLyndonParts(t *testing.T) {
	for w, want := range map[string]string{
		"": "", "a": "a", "d": "d", "ab": "ab", "aab": "aab", "abb": "abb", "abcd": "abcd", "abac": "abac", "aabab": "aabab", "ababb": "ababb", "aabaac": "aabaac",
		"aa": "a a", "dd": "d d", "aaaa": "a a a a", "ba": "b a", "cba": "c b a", "dcba": "d c b a", "ddccbbaa": "d d c c b b a a", "db": "d b",
		"abab": "ab ab", "ababab": "ab ab ab", "abcabc": "abc abc", "aabaab": "aab aab", "babab": "b ab ab", "ababa": "ab ab a", "abaaba": "ab aab a", "abcabca": "abc abc a", "abcabcab": "abc abc ab", "abcabcabb": "abc abc abb", "abcabcabd": "abcabcabd", "abbabb": "abb abb", "bbaabaaba": "b b aab aab a", "cdcdabab": "cd cd ab ab",
		"aba": "ab a", "baa": "b a a", "bab": "b ab", "bba": "b b a", "abaa": "ab a a", "abba": "abb a", "acab": "ac ab", "bcab": "bc ab", "cab": "c ab", "babaab": "b ab aab", "abaab": "ab aab", "aabaa": "aab a a", "aabaaab": "aab aaab", "abcab": "abc ab", "bcacab": "bc ac ab", "cdbdbcabacaab": "cd bd bc abac aab", "abacabab": "abac ab ab", "abaababaabaab": "ab aabab aab aab", "abcbabc": "abcb abc", "aabcaabb": "aabc aabb", "ababaabb": "ab ab aabb", "abaababb": "ab aababb", "dabcdabc": "d abcd abc", "bcbcbb": "bc bc b b",
	} {
		checkParts(t, w, strings.Fields(want))
	}
}

func TestLyndonPartsLong(t *testing.T) {
	as := strings.Repeat("a", 400)
	single := strings.Split(as, "")
	l, other := lyndonWord(3, 3, 400), lyndonWord(4, 3, 200)
	pairs := func(n int) []string { return slices.Repeat([]string{"ab"}, n) }
	checkParts(t, as, single)
	checkParts(t, as[1:], single[1:])
	checkParts(t, l, []string{l})
	checkParts(t, other+other, []string{other, other})
	checkParts(t, "d"+other+"aaa", []string{"d", other, "a", "a", "a"})
	checkParts(t, as[1:]+"b", []string{as[1:] + "b"})
	checkParts(t, "b"+as[1:], append([]string{"b"}, single[1:]...))
	checkParts(t, as[:200]+"b"+as[:199], append([]string{as[:200] + "b"}, single[:199]...))
	checkParts(t, as[:199]+"b"+as[:200], append([]string{as[:199] + "b"}, single[:200]...))
	checkParts(t, as[:198]+"b"+as[:200]+"b", []string{as[:198] + "b", as[:200] + "b"})
	checkParts(t, as[:200]+"b"+as[:198]+"b", []string{as[:200] + "b" + as[:198] + "b"})
	checkParts(t, strings.Repeat("ab", 200), pairs(200))
	checkParts(t, strings.Repeat("ba", 200), append(append([]string{"b"}, pairs(199)...), "a"))
	checkParts(t, strings.Repeat("ab", 199)+"b", []string{strings.Repeat("ab", 199) + "b"})
	checkParts(t, strings.Repeat("ab", 199)+"aa", append(pairs(199), "a", "a"))
}

func TestAreConjugate(t *testing.T) {
	as := strings.Repeat("a", 400)
	m := mixedWord(6, 3, 400)
	for _, c := range []struct {
		v, w string
		want bool
	}{
		{"", "", true}, {"a", "a", true}, {"d", "d", true}, {"aa", "aa", true}, {"ab", "ab", true}, {"ab", "ba", true}, {"cd", "dc", true}, {"abc", "abc", true}, {"abc", "bca", true}, {"abc", "cab", true}, {"aab", "aba", true}, {"aab", "baa", true}, {"abab", "baba", true}, {"abab", "abab", true}, {"abcd", "dabc", true}, {"abcd", "cdab", true}, {"abcd", "bcda", true}, {"aabab", "abaab", true}, {"abcabc", "cabcab", true},
		{"a", "b", false}, {"a", "d", false}, {"aa", "ab", false}, {"ab", "aa", false}, {"ab", "bb", false}, {"abc", "acb", false}, {"abc", "cba", false}, {"abc", "bac", false}, {"aabb", "abab", false}, {"abcd", "abdc", false}, {"aabab", "aaabb", false}, {"abcabc", "abccab", false}, {"aabbcc", "aaccbb", false}, {"abab", "abba", false}, {"aabcb", "bcbaa", true}, {"aabcb", "abcab", false},
		{"", "a", false}, {"a", "aa", false}, {"a", "ab", false}, {"ab", "aba", false}, {"ab", "abab", false}, {"abc", "ab", false}, {"abc", "bc", false}, {"abc", "ca", false}, {"abc", "abca", false}, {"abc", "bcabc", false}, {"aaa", "aa", false}, {"abab", "ab", false}, {"abab", "aba", false}, {"d", "", false},
		{as, as, true}, {as, as[1:], false}, {as[1:] + "b", "b" + as[1:], true}, {as[1:] + "b", as[:200] + "b" + as[:199], true}, {as[1:] + "b", as, false}, {as[1:] + "b", as[2:] + "bb", false}, {strings.Repeat("ab", 200), strings.Repeat("ba", 200), true}, {strings.Repeat("ab", 200), strings.Repeat("ab", 199) + "ba", false},
		{m, m, true}, {m, m[1:] + m[:1], true}, {m, m[399:] + m[:399], true}, {m, m[200:] + m[:200], true}, {m, "d" + m[1:], false}, {m, m[:399] + "d", false}, {m, m[1:], false}, {m, m[:399], false}, {m, backwards(m), false},
	} {
		checkConjugate(t, c.v, c.w, c.want)
		checkConjugate(t, c.w, c.v, c.want)
	}
}

func TestCountLyndon(t *testing.T) {
	for i, numbers := range lyndonNumbers() {
		for k, want := range numbers {
			checkCountLyndon(t, i+1, k+1, want)
		}
	}
}

func TestCountLyndonAgrees(t *testing.T) {
	for i, n := range []int{12, 12, 9, 7} {
		numbers := make([]int, n+1)
		for _, w := range stringsUpTo(letters[:i+1], n) {
			if impl.IsLyndon(w) {
				numbers[len(w)]++
			}
		}
		for k, want := range numbers[1:] {
			checkCountLyndon(t, i+1, k+1, want)
		}
	}
}

func TestCountLyndonRefuses(t *testing.T) {
	odd := []int{0, -1, -2, -4, -12, 1 << 32, 1<<32 + 1, 1<<32 + 4, -1 << 32, math.MaxInt, math.MaxInt - 1, math.MinInt, math.MinInt + 1, math.MinInt + 2}
	for count := 1; count <= 4; count++ {
		for _, n := range append(odd, longestLyndon+1, longestLyndon+2, 24, 64, 257, 268, 400) {
			checkCountLyndon(t, count, n, -1)
		}
	}
	for n := 1; n <= longestLyndon; n++ {
		for _, count := range append(odd, 5, 6, 26, 100, 256, 257, 260) {
			checkCountLyndon(t, count, n, -1)
		}
	}
	for _, c := range [][2]int{{0, 0}, {0, 13}, {5, 0}, {5, 13}, {-1, -1}, {math.MaxInt, math.MaxInt}, {math.MinInt, math.MinInt}} {
		checkCountLyndon(t, c[0], c[1], -1)
	}
}

// The first words are as long as one with both periods can be without having
// the greatest common divisor of them as a period.
func TestAllPeriodsFine(t *testing.T) {
	as := strings.Repeat("a", 400)
	long := plainFixed([]string{"ab", "a"}, "a", 375)
	for _, c := range []struct {
		w    string
		p, q int
		want bool
	}{
		{"aba", 2, 3, true}, {"abaaba", 3, 5, true}, {"abaababaaba", 5, 8, true}, {"ababa", 2, 5, true}, {"aabaa", 3, 4, true}, {"cacbcac", 4, 6, true}, {"daddadaddad", 5, 8, true}, {"cdacdbcdacd", 6, 9, true}, {long, 144, 233, true},
		{"aaaa", 2, 3, true}, {"aaaaa", 2, 3, true}, {"aaaaaa", 3, 4, true}, {"aaaaaaa", 3, 5, true}, {"ababababa", 4, 6, true}, {"abababab", 4, 6, true}, {"ababab", 4, 6, true}, {"abababab", 2, 4, true}, {"abababab", 6, 8, true}, {"ababababab", 6, 8, true}, {"abcabcabcabc", 6, 9, true}, {"abcabcabcabcabc", 6, 9, true},
		{"a", 1, 1, true}, {"aa", 1, 2, true}, {"aa", 2, 2, true}, {"ab", 2, 2, true}, {"aba", 2, 2, true}, {"aba", 3, 3, true}, {"abab", 2, 2, true}, {"abab", 2, 4, true}, {"ababa", 2, 4, true}, {"ababa", 4, 4, true}, {"ababa", 5, 5, true}, {"ababa", 4, 5, true}, {"abcd", 4, 4, true}, {"abcab", 3, 5, true},
		{"ababa", 3, 4, false}, {"ababa", 3, 3, false}, {"ababa", 3, 5, false}, {"ababa", 1, 2, false}, {"ababa", 1, 1, false}, {"ababa", 1, 5, false}, {"aba", 1, 2, false}, {"aba", 1, 3, false}, {"ab", 1, 2, false}, {"ab", 1, 1, false}, {"abcd", 2, 4, false}, {"abcd", 1, 3, false}, {"abaababaaba", 5, 7, false}, {"abaababaaba", 3, 8, false}, {"abaababaaba", 1, 8, false},
		{"ababa", 0, 2, false}, {"ababa", 0, 0, false}, {"ababa", 0, 5, false}, {"a", 0, 1, false}, {"a", 0, 0, false}, {"aa", 0, 1, false}, {"ababa", -2, 2, false}, {"ababa", -2, 4, false}, {"ababa", -2, -2, false}, {"aaaa", -1, 1, false},
		{"ababa", 6, 2, false}, {"ababa", 6, 6, false}, {"ababa", 5, 6, false}, {"ababa", 8, 2, false}, {"a", 1, 2, false}, {"a", 2, 2, false}, {"aa", 3, 1, false}, {"aaaa", 5, 1, false}, {"ab", 3, 2, false}, {"", 0, 0, false}, {"", 1, 1, false}, {"", 0, 1, false}, {"", 1, 2, false}, {"", -1, 1, false},
		{as, 1, 400, true}, {as, 400, 400, true}, {as, 200, 201, true}, {as, 199, 202, true}, {as, 399, 400, true}, {as, 1, 401, false}, {as, 401, 401, false}, {as, 0, 400, false}, {as, 800, 400, false}, {as[1:] + "b", 400, 400, true}, {as[1:] + "b", 399, 400, false}, {as[1:] + "b", 1, 400, false}, {"b" + as[1:], 1, 1, false},
	} {
		checkFine(t, c.w, c.p, c.q, c.want)
		checkFine(t, c.w, c.q, c.p, c.want)
	}
}

func TestAllPeriodsFineRefusesNumbers(t *testing.T) {
	for _, w := range []string{"", "a", "aaaa", "ababa", "abababab", "abaababaaba", strings.Repeat("a", 400), strings.Repeat("ab", 200)} {
		for _, p := range []int{0, -1, -2, -3, -len(w), len(w) + 1, len(w) + 2, 2*len(w) + 1, 401, 402, 800, 1 << 32, 1<<32 + 2, 1<<32 + len(w), -1 << 32, math.MaxInt, math.MaxInt - 1, math.MinInt, math.MinInt + 2, math.MinInt + len(w)} {
			for _, q := range []int{0, 1, 2, 4, len(w) - 1, len(w), p} {
				checkFine(t, w, p, q, false)
				checkFine(t, w, q, p, false)
			}
		}
	}
}

// Of one letter less than the sum of two periods minus their greatest common
// divisor, there are words without this divisor as a period, and of more letters,
// there are none.
func TestAllPeriodsFineBound(t *testing.T) {
	for _, w := range append(append(stringsUpTo(letters, 4), stringsUpTo("abc", 6)...), stringsUpTo("bd", 9)...) {
		checkFinePairs(t, w, numbersFrom(-1, len(w)+2, 1))
	}
	for p := 1; p <= 12; p++ {
		for q := p; q <= 12; q++ {
			for n := q; n <= p+q+2; n++ {
				checkFinePairs(t, strings.Repeat("ab", 15)[:n], []int{p, q})
				w := lettersWithPeriods(n, p, q)
				if !hasPeriod(w, p) || !hasPeriod(w, q) {
					t.Fatalf("%q has not the periods %d and %d", w, p, q)
				}
				checkFine(t, w, p, q, true)
				checkFine(t, w, q, p, true)
			}
		}
	}
}

// lettersWithPeriods returns n letters with two periods and as few equal letters
// as these allow: first has the first one of the indices at which the letter has
// to be the same.
func lettersWithPeriods(n, p, q int) string {
	first := make([]int, n)
	for i := range first {
		first[i] = i
	}
	for range n {
		for _, period := range []int{p, q} {
			for i := period; i < n; i++ {
				least := min(first[i], first[i-period])
				first[i], first[i-period] = least, least
			}
		}
	}
	w := make([]byte, n)
	for i := range w {
		w[i] = letters[first[i]%len(letters)]
	}
	return string(w)
}

func TestBorderFunctionsAllShortWords(t *testing.T) {
	for _, w := range shortPowerWords() {
		checkBorderFunctions(t, w)
	}
}

func TestBorderFunctionsLongWords(t *testing.T) {
	for _, w := range periodWords() {
		checkBorderFunctions(t, w)
		periods := plainPeriods(w)
		numbers := append(numbersFrom(-1, 3, 1), len(w)/2, len(w)-2, len(w)-1, len(w), len(w)+1, 2*len(w))
		checkFinePairs(t, w, append(numbers, periods[:min(6, len(periods))]...))
	}
}

func TestAreConjugateAllShortWords(t *testing.T) {
	for _, words := range [][]string{stringsUpTo(letters, 3), stringsUpTo("abd", 4), stringsUpTo("bc", 6)} {
		for _, v := range words {
			for _, w := range words {
				checkConjugate(t, v, w, plainConjugate(v, w))
			}
		}
	}
}

func TestAreConjugateLongWords(t *testing.T) {
	for _, w := range periodWords() {
		swapped, _ := impl.SwapLetters(w, "badc")
		for _, k := range []int{0, 1, 2, len(w) / 3, len(w) / 2, len(w) - 1, len(w)} {
			shift := impl.ShiftWord(w, k)
			checkConjugate(t, w, shift, true)
			checkConjugate(t, shift, w, true)
			checkConjugate(t, w, shift[1:], false)
			checkConjugate(t, shift[1:], w, false)
			checkConjugate(t, swapped, shift, plainConjugate(swapped, shift))
			checkConjugate(t, shift, backwards(w), plainConjugate(shift, backwards(w)))
		}
	}
}

// Many of the strings would have borders, be powers or Lyndon words if they were
// words.
func TestBorderFunctionsRefuseWords(t *testing.T) {
	bad := append(noWords(), lyndonWord(1, 3, 401), lyndonWord(2, 4, 402), strings.Repeat("ab", 201), strings.Repeat("abc", 134), markedWord(401), strings.Repeat(markedWord(201), 2))
	for _, x := range outsiders {
		bad = append(bad, x+x, x+"a"+x, "a"+x+"a", "ab"+x+"ab", "ab"+x, x+"ab", "aab"+x+"aab"+x, "dcb"+x, "a"+x+"b", strings.Repeat(x, 3))
	}
	for _, w := range bad {
		checkBorders(t, w, nil)
		checkAllPeriods(t, w, nil)
		checkRoot(t, w, "", 0)
		checkLeastShift(t, w, -1)
		checkLyndon(t, w, false)
		checkParts(t, w, nil)
		for _, p := range []int{-1, 0, 1, 2, 3, len(w) / 2, len(w) - 1, len(w), len(w) + 1} {
			checkFine(t, w, p, p, false)
			checkFine(t, w, p, len(w), false)
			checkFine(t, w, len(w), p, false)
		}
		for _, v := range []string{w, w[1:] + w[:1], w[:len(w)-1], w[1:], backwards(w), "", "a", "ab", strings.Repeat("a", len(w)), strings.Repeat("ab", 200), strings.Repeat("a", 400)} {
			checkConjugate(t, w, v, false)
			checkConjugate(t, v, w, false)
		}
	}
}

// There is one way to cut a word into Lyndon words, none of which comes before
// the next one.
func TestLyndonPartsAreTheOnlyOnes(t *testing.T) {
	for _, w := range append(append(stringsUpTo(letters, 5), stringsUpTo("abd", 6)...), stringsUpTo("bc", 9)...) {
		ways := 0
		everyCut(w, func(parts []string) {
			for i, part := range parts {
				if !plainLyndon(part) || i > 0 && parts[i-1] < part {
					return
				}
			}
			ways++
			checkParts(t, w, parts)
		})
		if ways != 1 {
			t.Errorf("there are %d ways to cut %q", ways, w)
		}
	}
}

// The functions say the same of the borders and periods of a word, and the same
// as LeastPeriod, CommonStart and ShiftWord.
func TestBorderFunctionsAgree(t *testing.T) {
	for _, w := range append(shortPowerWords(), periodWords()...) {
		borders, periods := impl.BordersOf(w), impl.PeriodsOf(w)
		if w == "" || len(periods) != len(borders)+1 || periods[0] != impl.LeastPeriod(w) || periods[len(borders)] != len(w) {
			if w != "" || len(borders)+len(periods) > 0 {
				t.Errorf("%q: BordersOf %v, PeriodsOf %v", w, borders, periods)
			}
			continue
		}
		for i, n := range borders {
			p := periods[len(borders)-1-i]
			if n+p != len(w) || impl.CommonStart(w, w[p:]) != n || i > 0 && n <= borders[i-1] {
				t.Errorf("%q: BordersOf %v, PeriodsOf %v", w, borders, periods)
			}
		}
		root, times := impl.RootOf(w)
		if strings.Repeat(root, times) != w || !impl.IsPrimitiveWord(root) || impl.IsPrimitiveWord(w) != (root == w) || impl.IsPrimitiveWord(w+w) || impl.IsPrimitiveWord(w) == slices.Contains(shiftsOf(w)[1:], w) {
			t.Errorf("RootOf(%q) = %q, %d", w, root, times)
		}
		if power, n := impl.RootOf(w + w); len(w) <= longestWord/2 && (power != root || n != 2*times) {
			t.Errorf("RootOf(%q) = %q, %d, but twice %q, %d", w, root, times, power, n)
		}
	}
}

func TestLyndonFunctionsAgree(t *testing.T) {
	for _, w := range append(shortPowerWords(), periodWords()...) {
		parts := impl.LyndonParts(w)
		if strings.Join(parts, "") != w || impl.IsLyndon(w) != (len(parts) == 1) {
			t.Errorf("IsLyndon(%q) = %v, LyndonParts %q", w, impl.IsLyndon(w), parts)
		}
		for i, part := range parts {
			if !impl.IsLyndon(part) || len(impl.BordersOf(part)) > 0 || i > 0 && impl.BeforeWord(parts[i-1], part) {
				t.Errorf("LyndonParts(%q) = %q", w, parts)
			}
		}
		if w == "" {
			continue
		}
		k := impl.LeastShift(w)
		if k < 0 || k >= len(w) {
			t.Errorf("LeastShift(%q) = %d", w, k)
			continue
		}
		root, times := impl.RootOf(w)
		least := impl.ShiftWord(w, k)
		if k >= len(root) || impl.IsLyndon(least) != (times == 1) || !impl.IsLyndon(least[:len(root)]) || !impl.AreConjugate(least[:len(root)], root) || !slices.Equal(impl.LyndonParts(least), slices.Repeat([]string{least[:len(root)]}, times)) {
			t.Errorf("LeastShift(%q) = %d, RootOf = %q, %d", w, k, root, times)
		}
	}
}

// Of the shifts of a primitive word, one is a Lyndon word, and of others, none.
func TestOneShiftIsLyndon(t *testing.T) {
	for _, w := range append(stringsUpTo("abd", 6), stringsUpTo("bc", 9)...) {
		number := 0
		for _, shift := range shiftsOf(w) {
			checkConjugate(t, w, shift, true)
			if impl.IsLyndon(shift) {
				number++
			}
		}
		if (number == 1) != impl.IsPrimitiveWord(w) || number > 1 {
			t.Errorf("%d shifts of %q are Lyndon words", number, w)
		}
	}
}

// Borders and periods stay if the word is turned or gets other letters, Lyndon
// words if the order of the letters is kept.
func TestBordersOfTurnedAndSwappedWords(t *testing.T) {
	for _, w := range append(stringsUpTo("abc", 6), periodWords()...) {
		root, times := impl.RootOf(w)
		swapped, _ := impl.SwapLetters(w, "cadb")
		swappedRoot, _ := impl.SwapLetters(root, "cadb")
		for v, r := range map[string]string{impl.TurnWord(w): impl.TurnWord(root), swapped: swappedRoot} {
			checkBorders(t, v, impl.BordersOf(w))
			checkAllPeriods(t, v, impl.PeriodsOf(w))
			checkRoot(t, v, r, times)
		}
		if strings.Contains(w, "d") {
			continue
		}
		next := strings.NewReplacer("a", "b", "b", "c", "c", "d")
		var parts []string
		for _, part := range impl.LyndonParts(w) {
			parts = append(parts, next.Replace(part))
		}
		checkParts(t, next.Replace(w), parts)
		checkLeastShift(t, next.Replace(w), impl.LeastShift(w))
		checkLyndon(t, next.Replace(w), impl.IsLyndon(w))
	}
}

func TestBorderFunctionsRepeat(t *testing.T) {
	for _, w := range []string{"", "a", "aabbccddabab", "babaab", strings.Repeat("abcd", 15), mixedWord(3, 2, 60), mirrored(4, 3, 400), strings.Repeat("aab", 133)} {
		for range 100 {
			checkBorderFunctions(t, w)
			checkConjugate(t, w, w, true)
			checkConjugate(t, w, w+"a", false)
			checkFinePairs(t, w, []int{0, 2, 3, 4, len(w)})
		}
	}
	for range 100 {
		checkCountLyndon(t, 4, 12, 1397740)
		checkCountLyndon(t, 2, 6, 9)
		checkCountLyndon(t, 0, 1, -1)
	}
}

func TestBordersAreNew(t *testing.T) {
	for _, w := range []string{"", "a", "aa", "aabaa", "ddccbbaa", strings.Repeat("abcd", 15), strings.Repeat("a", 400), mirrored(8, 2, 60)} {
		for name, list := range map[string]func(w string) []int{"BordersOf": impl.BordersOf, "PeriodsOf": impl.PeriodsOf} {
			first, second := list(w), list(w)
			want := slices.Clone(first)
			overwrite(first[:cap(first)])
			if third := list(w); !slices.Equal(second, want) || !slices.Equal(third, want) {
				t.Errorf("%s(%q) became %v and %v", name, w, second, third)
			}
		}
		first, second := impl.LyndonParts(w), impl.LyndonParts(w)
		want := slices.Clone(first)
		for i := range first[:cap(first)] {
			first[:cap(first)][i] = "x"
		}
		if third := impl.LyndonParts(w); !slices.Equal(second, want) || !slices.Equal(third, want) {
			t.Errorf("LyndonParts(%q) became %q and %q", w, second, third)
		}
	}
}
