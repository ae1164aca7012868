package tests

import (
	"math"
	"math/big"
	"slices"
	"strings"
	"testing"

	"loop.example/g03209/impl"
)

const longestCounted = 12

// squareFreeWord returns n letters a, b and c without a square.
func squareFreeWord(n int) string { return plainFixed([]string{"abc", "ac", "b"}, "a", n) }

// markedWord returns n letters without a square, the last one of which is the
// only d: written several times, it has no squares but those of n letters and
// more.
func markedWord(n int) string { return squareFreeWord(n-1) + "d" }

func lastTwice(w string) string { return w + w[len(w)-1:] }

// powerWords returns words with a power, or nearly one, that is most of the
// word, stands at its beginning or at its end, or comes late.
func powerWords() []string {
	words := factorWords()
	for _, n := range []int{59, 60, 61, 398, 399, 400} {
		words = append(words, squareFreeWord(n), markedWord(n), lastTwice(squareFreeWord(n-1)), "d"+squareFreeWord(n-2)+"d", "dd"+squareFreeWord(n-2))
		for _, part := range []int{n / 2, n / 3, n/2 - 1, n / 4, n - n/3} {
			power := strings.Repeat(markedWord(part), 6)[:n]
			words = append(words, power, power[:n-1], power[1:], squareFreeWord(n-part)+power[:part])
		}
	}
	return words
}

func shortPowerWords() []string {
	return append(append(stringsUpTo(letters, 5), stringsUpTo("abd", 7)...), stringsUpTo("ac", 11)...)
}

// hasPart looks at all parts of a word that are not empty.
func hasPart(w string, is func(part string) bool) bool {
	for i := range len(w) {
		for k := i + 1; k <= len(w); k++ {
			if is(w[i:k]) {
				return true
			}
		}
	}
	return false
}

func isTwice(part string) bool {
	half := len(part) / 2
	return len(part)%2 == 0 && part[:half] == part[half:]
}

func isThrice(part string) bool {
	third := len(part) / 3
	return len(part)%3 == 0 && part[:third] == part[third:2*third] && part[:third] == part[2*third:]
}

func isOverlap(part string) bool {
	last := len(part) - 1
	return last > 0 && isTwice(part[:last]) && part[last] == part[0]
}

func plainSquares(w string) []string {
	squares := map[string]bool{}
	hasPart(w, func(part string) bool {
		if isTwice(part) {
			squares[part] = true
		}
		return false
	})
	var list []string
	for square := range squares {
		list = append(list, square)
	}
	slices.Sort(list)
	return list
}

func plainPeriod(w string) int {
	if w == "" {
		return 0
	}
	p := 1
	for !strings.HasPrefix(w, w[p:]) {
		p++
	}
	return p
}

func plainExponent(w string) (int, int) {
	length, period, greatest := 0, 0, new(big.Rat)
	hasPart(w, func(part string) bool {
		p := plainPeriod(part)
		exponent := big.NewRat(int64(len(part)), int64(p))
		if order := exponent.Cmp(greatest); order > 0 || order == 0 && len(part) < length {
			length, period, greatest = len(part), p, exponent
		}
		return false
	})
	return length, period
}

func plainRun(w string) int {
	for n := len(w); n > 0; n-- {
		for i := range len(letters) {
			if strings.Contains(w, strings.Repeat(letters[i:i+1], n)) {
				return n
			}
		}
	}
	return 0
}

func plainFirstSquare(w string) (int, int) {
	for end := range len(w) + 1 {
		for half := 1; 2*half <= end; half++ {
			if isTwice(w[end-2*half : end]) {
				return end, half
			}
		}
	}
	return -1, -1
}

func plainExtend(w string) string {
	if hasPart(w, isTwice) || len(w) == longestWord {
		return ""
	}
	for _, x := range []string{"a", "b", "c"} {
		if !hasPart(w+x, isTwice) {
			return w + x
		}
	}
	return ""
}

func checkFree(t *testing.T, w string, square, cube, overlap bool) {
	t.Helper()
	if got := impl.IsSquareFree(w); got != square {
		t.Errorf("IsSquareFree(%q) = %v", w, got)
	}
	if got := impl.IsCubeFree(w); got != cube {
		t.Errorf("IsCubeFree(%q) = %v", w, got)
	}
	if got := impl.IsOverlapFree(w); got != overlap {
		t.Errorf("IsOverlapFree(%q) = %v", w, got)
	}
}

func checkSquares(t *testing.T, w string, want []string) {
	t.Helper()
	if got := impl.SquaresIn(w); !slices.Equal(got, want) {
		t.Errorf("SquaresIn(%q) = %q, want %q", w, got, want)
	}
}

func checkPeriod(t *testing.T, w string, want int) {
	t.Helper()
	if got := impl.LeastPeriod(w); got != want {
		t.Errorf("LeastPeriod(%q) = %d, want %d", w, got, want)
	}
}

func checkExponent(t *testing.T, w string, length, period int) {
	t.Helper()
	if n, p := impl.GreatestExponent(w); n != length || p != period {
		t.Errorf("GreatestExponent(%q) = %d, %d, want %d, %d", w, n, p, length, period)
	}
}

func checkRun(t *testing.T, w string, want int) {
	t.Helper()
	if got := impl.LongestRun(w); got != want {
		t.Errorf("LongestRun(%q) = %d, want %d", w, got, want)
	}
}

func checkFirstSquare(t *testing.T, w string, end, half int) {
	t.Helper()
	if e, h := impl.FirstSquare(w); e != end || h != half {
		t.Errorf("FirstSquare(%q) = %d, %d, want %d, %d", w, e, h, end, half)
	}
}

func checkCountSquareFree(t *testing.T, count, n, want int) {
	t.Helper()
	if got := impl.CountSquareFree(count, n); got != want {
		t.Errorf("CountSquareFree(%d, %d) = %d, want %d", count, n, got, want)
	}
}

func checkExtend(t *testing.T, w, want string) {
	t.Helper()
	if got := impl.ExtendSquareFree(w); got != want {
		t.Errorf("ExtendSquareFree(%q) = %q, want %q", w, got, want)
	}
}

// checkPowers compares the functions of a word with the plain second versions.
func checkPowers(t *testing.T, w string) {
	t.Helper()
	squares := plainSquares(w)
	length, period := 0, 0
	end, half := plainFirstSquare(w)
	checkFree(t, w, len(squares) == 0, !hasPart(w, isThrice), !hasPart(w, isOverlap))
	if len(w) > longestAll {
		squares = nil
	} else {
		length, period = plainExponent(w)
	}
	checkSquares(t, w, squares)
	checkPeriod(t, w, plainPeriod(w))
	checkExponent(t, w, length, period)
	checkRun(t, w, plainRun(w))
	checkFirstSquare(t, w, end, half)
	checkExtend(t, w, plainExtend(w))
}

func TestSquaresIn(t *testing.T) {
	for w, want := range map[string]string{
		"": "", "a": "", "d": "", "ab": "", "abc": "", "aba": "", "abcacb": "", "abcda": "", "aa": "aa", "dd": "dd", "abab": "abab", "abcabc": "abcabc", "abcdabcd": "abcdabcd",
		"aab": "aa", "abb": "bb", "baac": "aa", "cabab": "abab", "ababc": "abab", "dababc": "abab", "abcbabcbd": "abcbabcb", "dabcdabc": "dabcdabc",
		"aabab": "aa abab", "aaa": "aa", "aaaa": "aa aaaa", "aaaaa": "aa aaaa", "aaaaaa": "aa aaaa aaaaaa", "ababa": "abab baba", "ababab": "abab baba", "abcabca": "abcabc bcabca", "abcabcab": "abcabc bcabca cabcab",
		"ddcc": "cc dd", "ddccbbaa": "aa bb cc dd", "babaa": "aa baba", "cdcdaa": "aa cdcd", "bcbcbcc": "bcbc cbcb cc", "aabaa": "aa", "aabaaab": "aa", "aabaab": "aa aabaab", "abaaba": "aa abaaba", "bbaabb": "aa bb", "aacaadaa": "aa", "abcabdabab": "abab",
		"aaab": "aa", "aaaab": "aa aaaa", "baaaa": "aa aaaa", "bababb": "abab baba bb", "dbdbcbdbdb": "bdbd dbdb",
	} {
		checkSquares(t, w, strings.Fields(want))
	}
}

func TestSquaresInBound(t *testing.T) {
	whole := strings.Repeat(markedWord(30), 2)
	end := markedWord(58) + "dd"
	checkSquares(t, whole, []string{whole})
	checkSquares(t, whole+"a", nil)
	checkSquares(t, whole[1:], nil)
	checkSquares(t, squareFreeWord(60), nil)
	checkSquares(t, end[1:], []string{"dd"})
	checkSquares(t, end[:59], []string{"dd"})
	checkSquares(t, strings.Repeat("c", 58)+"ba", plainSquares(strings.Repeat("c", 58)))
	for n, want := range map[int]int{58: 29, 59: 29, 60: 30, 61: 0, 62: 0, 399: 0, 400: 0, 401: 0} {
		if got := impl.SquaresIn(strings.Repeat("a", n)); len(got) != want {
			t.Errorf("SquaresIn of %d letters a = %q", n, got)
		}
	}
}

func TestPowersAreMissing(t *testing.T) {
	for _, c := range []struct {
		w                     string
		square, cube, overlap bool
	}{
		{"", true, true, true}, {"a", true, true, true}, {"d", true, true, true}, {"ab", true, true, true}, {"aba", true, true, true}, {"abcd", true, true, true}, {"abcacb", true, true, true}, {"abacabadabacaba", true, true, true},
		{"aa", false, true, true}, {"dd", false, true, true}, {"abab", false, true, true}, {"abcabc", false, true, true}, {"abba", false, true, true}, {"cabab", false, true, true}, {"ababc", false, true, true}, {"cbaabd", false, true, true}, {"aabb", false, true, true}, {"aabaab", false, true, true}, {"abcdabcd", false, true, true},
		{"ababa", false, true, false}, {"cababa", false, true, false}, {"ababac", false, true, false}, {"dcababacd", false, true, false}, {"abcabca", false, true, false}, {"abcabcab", false, true, false}, {"aabaaba", false, true, false}, {"aabaabaa", false, true, false}, {"abcdabcda", false, true, false}, {"bbabbab", false, true, false},
		{"aaa", false, false, false}, {"ddd", false, false, false}, {"baaa", false, false, false}, {"aaab", false, false, false}, {"baaab", false, false, false}, {"aaaa", false, false, false}, {"ababab", false, false, false}, {"cababab", false, false, false}, {"abababc", false, false, false}, {"abcabcabc", false, false, false}, {"dabcabcabcd", false, false, false}, {"aabaabaab", false, false, false},
	} {
		checkFree(t, c.w, c.square, c.cube, c.overlap)
	}
}

// The powers are the whole word, or all but a letter of it.
func TestPowersAreMissingInLongWords(t *testing.T) {
	half, third := markedWord(200), markedWord(133)
	checkFree(t, squareFreeWord(399), true, true, true)
	checkFree(t, squareFreeWord(400), true, true, true)
	checkFree(t, half+half, false, true, true)
	checkFree(t, half+half[:199], true, true, true)
	checkFree(t, half[1:]+half, true, true, true)
	checkFree(t, half[1:]+half[1:]+half[1:2], false, true, false)
	checkFree(t, half[1:]+half[1:], false, true, true)
	checkFree(t, third+third+third, false, false, false)
	checkFree(t, third+third+third+"c", false, false, false)
	checkFree(t, "c"+third+third+third, false, false, false)
	checkFree(t, third+third+third[:132], false, true, false)
	checkFree(t, third[1:]+third+third, false, true, false)
	checkFree(t, lastTwice(squareFreeWord(399)), false, true, true)
	checkFree(t, "dd"+squareFreeWord(398), false, true, true)
	checkFree(t, squareFreeWord(397)+"ddd", false, false, false)
	checkFree(t, "ddd"+squareFreeWord(397), false, false, false)
	checkFree(t, plainFixed([]string{"ab", "ba"}, "a", 400), false, true, true)
	checkFree(t, plainFixed([]string{"ab", "a"}, "a", 400), false, false, false)
	checkFree(t, strings.Repeat("a", 400), false, false, false)
}

func TestLeastPeriod(t *testing.T) {
	half := markedWord(200)
	for w, want := range map[string]int{
		"": 0, "a": 1, "d": 1, "aa": 1, "aaaa": 1, "ab": 2, "ba": 2, "abc": 3, "abcd": 4, "aab": 3, "abb": 3, "aaab": 4, "abbb": 4, "abcacb": 6, "aabb": 4,
		"aba": 2, "abab": 2, "ababa": 2, "ababab": 2, "abca": 3, "abcab": 3, "abcabc": 3, "abcabcab": 3, "aabaa": 3, "aabaab": 3, "abaab": 3, "abaaba": 3, "aabaaab": 4, "abaababaab": 5, "abba": 3, "abcba": 4, "dabcd": 4, "ababb": 5, "ababba": 5, "aaabaaaabaaa": 5, "abaababaabaab": 8,
		strings.Repeat("a", 399): 1, strings.Repeat("a", 400): 1, strings.Repeat("a", 399) + "b": 400, "b" + strings.Repeat("a", 399): 400, "b" + strings.Repeat("a", 398) + "b": 399, strings.Repeat("abcd", 100): 4, strings.Repeat("abc", 133): 3, strings.Repeat("abc", 133) + "a": 3, strings.Repeat("abc", 133) + "c": 400,
		half + half: 200, half + half[:199]: 200, half + half[:1]: 200, half + half[:100]: 200, half[1:] + half: 200, half: 200, half[1:] + half[1:]: 199, half[:199] + "a" + half: 400, squareFreeWord(400): plainPeriod(squareFreeWord(400)),
	} {
		checkPeriod(t, w, want)
	}
}

func TestGreatestExponent(t *testing.T) {
	for _, c := range []struct {
		w              string
		length, period int
	}{
		{"", 0, 0}, {"a", 1, 1}, {"d", 1, 1}, {"ab", 1, 1}, {"abc", 1, 1}, {"dcba", 1, 1}, {"aa", 2, 1}, {"aaa", 3, 1}, {"aaaa", 4, 1}, {"aba", 3, 2}, {"abab", 4, 2}, {"ababa", 5, 2}, {"ababab", 6, 2}, {"abca", 4, 3}, {"abcab", 5, 3}, {"abcabc", 6, 3}, {"abcabcab", 8, 3}, {"abcda", 5, 4},
		{"abcbd", 3, 2}, {"dabcac", 3, 2}, {"cabab", 4, 2}, {"ababc", 4, 2}, {"dcababacd", 5, 2}, {"abaab", 2, 1}, {"abba", 2, 1}, {"aabaaab", 3, 1}, {"abbabbab", 8, 3}, {"dabbabbabd", 8, 3}, {"abcacb", 3, 2},
		{"aabab", 2, 1}, {"ababcc", 2, 1}, {"ccabab", 2, 1}, {"aabbcc", 2, 1}, {"abcabcdbdb", 4, 2}, {"bdbdabcabc", 4, 2}, {"aaababab", 3, 1}, {"abababccc", 3, 1}, {"aabaab", 2, 1}, {"abaaba", 2, 1}, {"abaabaaba", 9, 3},
		{"ccababa", 5, 2}, {"ababacc", 5, 2}, {"aabcabc", 2, 1}, {"cabcabcc", 7, 3}, {"cabcabb", 2, 1}, {"cccabababa", 7, 2}, {"abababaccc", 7, 2}, {"dddabcabcabca", 10, 3},
		{"cabdcac", 3, 2}, {"cacdbac", 3, 2}, {"cabdca", 6, 4}, {"acdbac", 6, 4}, {"aabbaabbaadababa", 5, 2}, {"ababadaabbaabbaa", 5, 2}, {"aabbaabbaad", 10, 4}, {"abcdabdcab", 6, 4},
	} {
		checkExponent(t, c.w, c.length, c.period)
	}
}

func TestGreatestExponentBound(t *testing.T) {
	half := markedWord(30)
	checkExponent(t, half+half, 60, 30)
	checkExponent(t, half[1:]+half[1:]+"d", 2, 1)
	checkExponent(t, half[1:]+half[1:]+half[1:3], 60, 29)
	checkExponent(t, "a"+half[1:]+half[1:], 58, 29)
	checkExponent(t, lastTwice(markedWord(59)), 2, 1)
	checkExponent(t, half+half+"d", 0, 0)
	checkExponent(t, half+half+half[:1], 0, 0)
	checkExponent(t, strings.Repeat("ab", 30), 60, 2)
	checkExponent(t, strings.Repeat("ab", 29)+"ba", 58, 2)
	checkExponent(t, strings.Repeat("ab", 30)+"a", 0, 0)
	for n, want := range map[int]int{1: 1, 59: 59, 60: 60, 61: 0, 62: 0, 399: 0, 400: 0, 401: 0} {
		checkExponent(t, strings.Repeat("d", n), want, min(want, 1))
	}
}

func TestLongestRun(t *testing.T) {
	as := strings.Repeat("a", 400)
	for w, want := range map[string]int{
		"": 0, "a": 1, "d": 1, "ab": 1, "abab": 1, "abcd": 1, "aa": 2, "aab": 2, "baa": 2, "baab": 2, "aaa": 3, "dddd": 4, "abbba": 3, "aabbbcc": 3, "aaabb": 3, "aabbb": 3, "aaabbbccc": 3, "abaabaaab": 3, "baaabaaba": 3, "abba": 2, "ddcbbbb": 4, "aaaabaaa": 4, "aaabaaaa": 4, "ccdccdcc": 2,
		as: 400, as[1:]: 399, as[1:] + "b": 399, "b" + as[1:]: 399, as[:200] + strings.Repeat("b", 200): 200, as[:199] + "b" + as[:200]: 200, as[:200] + "b" + as[:199]: 200, strings.Repeat("ab", 200): 1, "c" + as[2:] + "c": 398, squareFreeWord(400): 1,
	} {
		checkRun(t, w, want)
	}
}

// Of two squares that end at one place, neither is the first one that ends: the
// longer one has a square within it that ends before. So the first square of
// "abaabaa", at the end of which aa and baabaa end, is another one.
func TestFirstSquare(t *testing.T) {
	half := markedWord(200)
	for _, c := range []struct {
		w         string
		end, half int
	}{
		{"", -1, -1}, {"a", -1, -1}, {"d", -1, -1}, {"ab", -1, -1}, {"abc", -1, -1}, {"aba", -1, -1}, {"abcacb", -1, -1}, {"abacabadabacaba", -1, -1},
		{"aa", 2, 1}, {"dd", 2, 1}, {"aab", 2, 1}, {"baa", 3, 1}, {"baab", 3, 1}, {"aaa", 2, 1}, {"aaaa", 2, 1}, {"abab", 4, 2}, {"ababa", 4, 2}, {"cabab", 5, 2}, {"cababc", 5, 2}, {"abcbca", 5, 2}, {"abcabc", 6, 3}, {"dabcabc", 7, 3}, {"abcabca", 6, 3}, {"abcdabcd", 8, 4}, {"abcdabcc", 8, 1}, {"abcdabcdd", 8, 4},
		{"abbabb", 3, 1}, {"abcabcc", 6, 3}, {"abcbabcb", 8, 4}, {"abcbabcbb", 8, 4}, {"abcbcbabcbcb", 5, 2}, {"ababb", 4, 2}, {"ababbb", 4, 2}, {"bbabab", 2, 1}, {"abacabacc", 8, 4}, {"abacabaa", 8, 1}, {"cacbcacbcb", 8, 4}, {"cacbcb", 6, 2},
		{"abaabaa", 4, 1}, {"aabaab", 2, 1}, {"abaaba", 4, 1}, {"aaaaaa", 2, 1}, {"dababdabab", 5, 2}, {"ccdccd", 2, 1},
		{half + half, 400, 200}, {half + half[:199], -1, -1}, {half[1:] + half[1:] + "c", 398, 199}, {"c" + half[1:] + half[1:], 399, 199}, {half[1:] + half[1:] + "dd", 398, 199}, {"dd" + squareFreeWord(398), 2, 1}, {lastTwice(squareFreeWord(399)), 400, 1}, {squareFreeWord(400), -1, -1}, {squareFreeWord(399) + "d", -1, -1},
		{strings.Repeat("a", 400), 2, 1}, {strings.Repeat("abcd", 100), 8, 4},
	} {
		checkFirstSquare(t, c.w, c.end, c.half)
	}
}

func TestCountSquareFree(t *testing.T) {
	for i, counts := range [][]int{{1, 1, 0, 0, 0, 0, 0, 0, 0, 0, 0, 0, 0}, {1, 2, 2, 2, 0, 0, 0, 0, 0, 0, 0, 0, 0}, {1, 3, 6, 12, 18, 30, 42, 60, 78, 108, 144, 204, 264}} {
		for n, want := range counts {
			checkCountSquareFree(t, i+1, n, want)
		}
	}
}

func TestCountSquareFreeAgrees(t *testing.T) {
	for count := 1; count <= 3; count++ {
		numbers := map[int]int{}
		for _, w := range stringsUpTo(letters[:count], 9) {
			if impl.IsSquareFree(w) {
				numbers[len(w)]++
			}
		}
		for n := range 10 {
			checkCountSquareFree(t, count, n, numbers[n])
		}
	}
}

func TestCountSquareFreeRefuses(t *testing.T) {
	odd := []int{-1, -2, -3, 1 << 32, 1<<32 + 1, 1<<32 + 3, -1 << 32, math.MaxInt, math.MaxInt - 1, math.MinInt, math.MinInt + 1}
	for count := 1; count <= 3; count++ {
		for _, n := range append(odd, longestCounted+1, longestCounted+2, 24, 100, 400) {
			checkCountSquareFree(t, count, n, -1)
		}
	}
	for n := range longestCounted + 1 {
		for _, count := range append(odd, 0, 4, 5, 26, 100, 256, 257, 259) {
			checkCountSquareFree(t, count, n, -1)
		}
	}
	for _, c := range [][2]int{{0, -1}, {0, 13}, {4, -1}, {4, 13}, {-1, -1}, {math.MaxInt, math.MaxInt}, {math.MinInt, math.MinInt}} {
		checkCountSquareFree(t, c[0], c[1], -1)
	}
}

func TestExtendSquareFree(t *testing.T) {
	for w, want := range map[string]string{
		"": "a", "a": "ab", "b": "ba", "c": "ca", "ab": "aba", "bc": "bca", "ac": "aca", "ca": "cab", "ba": "bab", "cb": "cba", "aba": "abac", "bca": "bcab", "bab": "babc", "cac": "cacb", "abac": "abaca", "abaca": "abacab", "abacab": "abacaba", "abcab": "abcaba", "abcacb": "abcacba",
		"abacaba": "", "bcbabcb": "", "cbcacbc": "", "acabaca": "", "cabacaba": "",
		"d": "da", "ad": "ada", "da": "dab", "abad": "abada", "abd": "abda", "adad": "", "dad": "dadb", "dab": "daba", "daba": "dabac", "abacabad": "abacabada", "abacabadabacaba": "", "dabacaba": "", "abcd": "abcda", "bdb": "bdba", "adbadc": "adbadca", "cdcac": "cdcacb",
		"aa": "", "dd": "", "abab": "", "aab": "", "abb": "", "caac": "", "abcabc": "", "dabcabc": "", "abcabcd": "",
	} {
		checkExtend(t, w, want)
	}
}

func TestExtendSquareFreeLong(t *testing.T) {
	for n := 380; n < longestWord; n++ {
		for _, w := range []string{squareFreeWord(n), markedWord(n), "d" + squareFreeWord(n-1)} {
			want := plainExtend(w)
			checkExtend(t, w, want)
			if len(want) != n+1 || !impl.IsSquareFree(want) {
				t.Errorf("%q is made longer as %q", w, want)
			}
		}
		checkExtend(t, lastTwice(squareFreeWord(n-1)), "")
	}
	for _, w := range []string{squareFreeWord(400), markedWord(400), "d" + squareFreeWord(399), lastTwice(squareFreeWord(399)), strings.Repeat("a", 400), squareFreeWord(401), markedWord(401), strings.Repeat("a", 401)} {
		checkExtend(t, w, "")
	}
}

func TestPowerFunctionsAllShortWords(t *testing.T) {
	for _, w := range shortPowerWords() {
		checkPowers(t, w)
	}
}

func TestPowerFunctionsLongWords(t *testing.T) {
	for _, w := range powerWords() {
		checkPowers(t, w)
	}
}

// Strings that are too long, or have other signs between squares or beside a
// word without squares, would have these properties if they were words.
func TestPowerFunctionsRefuseWords(t *testing.T) {
	bad := append(noWords(), squareFreeWord(401), squareFreeWord(402), markedWord(401), strings.Repeat(markedWord(134), 3), strings.Repeat(markedWord(201), 2))
	for _, x := range outsiders {
		bad = append(bad, x+x, "aa"+x, x+"aa", "abab"+x+"aab", "abc"+x+"abc"+x, squareFreeWord(40)+x, x+squareFreeWord(40), squareFreeWord(399)+x)
	}
	for _, w := range bad {
		checkFree(t, w, false, false, false)
		checkSquares(t, w, nil)
		checkPeriod(t, w, -1)
		checkExponent(t, w, 0, 0)
		checkRun(t, w, -1)
		checkFirstSquare(t, w, -1, -1)
		checkExtend(t, w, "")
	}
}

// The functions say the same of the squares of a word, and of the exponents.
func TestPowerFunctionsAgree(t *testing.T) {
	for _, w := range append(shortPowerWords(), powerWords()...) {
		square, cube, overlap := impl.IsSquareFree(w), impl.IsCubeFree(w), impl.IsOverlapFree(w)
		if square && !overlap || overlap && !cube {
			t.Errorf("%q: square-free %v, overlap-free %v, cube-free %v", w, square, overlap, cube)
		}
		end, half := impl.FirstSquare(w)
		if square != (end < 0) || !square && (half < 1 || end < 2*half || end > len(w) || !impl.IsSquareFree(w[:end-1])) {
			t.Errorf("IsSquareFree(%q) = %v, FirstSquare = %d, %d", w, square, end, half)
			continue
		}
		if impl.LongestRun(w) > 1 && square || impl.LongestRun(w) > 2 && cube {
			t.Errorf("LongestRun(%q) = %d", w, impl.LongestRun(w))
		}
		if len(w) == 0 || len(w) > longestAll {
			continue
		}
		squares := impl.SquaresIn(w)
		if square != (len(squares) == 0) || !square && !slices.Contains(squares, w[end-2*half:end]) {
			t.Errorf("SquaresIn(%q) = %q, FirstSquare = %d, %d", w, squares, end, half)
		}
		for i, s := range squares {
			if !impl.IsFactor(w, s) || !isTwice(s) || impl.LeastPeriod(s) > len(s)/2 || i > 0 && !impl.BeforeWord(squares[i-1], s) {
				t.Errorf("SquaresIn(%q) = %q", w, squares)
			}
		}
		length, period := impl.GreatestExponent(w)
		if square != (length < 2*period) || overlap != (length <= 2*period) || cube != (length < 3*period) || length*impl.LeastPeriod(w) < len(w)*period {
			t.Errorf("GreatestExponent(%q) = %d, %d", w, length, period)
		}
		has := func(f string) bool { return impl.LeastPeriod(f) == period }
		if !slices.ContainsFunc(impl.FactorsOf(w, length), has) {
			t.Errorf("GreatestExponent(%q) = %d, %d, but there is no such factor", w, length, period)
		}
	}
}

// Powers stay if the word is turned or gets other letters.
func TestPowersOfTurnedAndSwappedWords(t *testing.T) {
	for _, w := range append(stringsUpTo("abc", 6), powerWords()...) {
		swapped, _ := impl.SwapLetters(w, "cadb")
		var turnedSquares, swappedSquares []string
		for _, s := range impl.SquaresIn(w) {
			other, _ := impl.SwapLetters(s, "cadb")
			turnedSquares, swappedSquares = append(turnedSquares, impl.TurnWord(s)), append(swappedSquares, other)
		}
		for v, squares := range map[string][]string{impl.TurnWord(w): turnedSquares, swapped: swappedSquares} {
			length, period := impl.GreatestExponent(w)
			slices.Sort(squares)
			checkSquares(t, v, squares)
			checkFree(t, v, impl.IsSquareFree(w), impl.IsCubeFree(w), impl.IsOverlapFree(w))
			checkPeriod(t, v, impl.LeastPeriod(w))
			checkExponent(t, v, length, period)
			checkRun(t, v, impl.LongestRun(w))
		}
	}
}

// The least period is the least shift by which a word agrees with itself.
func TestLeastPeriodAgreesWithCommonStart(t *testing.T) {
	for _, w := range append(shortPowerWords(), powerWords()...) {
		least := impl.LeastPeriod(w)
		if least > len(w) || least < min(1, len(w)) {
			t.Errorf("LeastPeriod(%q) = %d", w, least)
		}
		for p := 1; p <= len(w); p++ {
			if agrees := impl.CommonStart(w, w[p:]) == len(w)-p; agrees && p < least || !agrees && p == least {
				t.Errorf("LeastPeriod(%q) = %d, but %v that %d is one", w, least, agrees, p)
			}
		}
	}
}

// Some fixed points have no powers, and ab, ba keeps words without overlaps.
func TestPowersOfFixedPoints(t *testing.T) {
	for name, free := range map[string][3]bool{"squarefree": {true, true, true}, "thue": {false, true, true}, "doubling": {false, false, false}, "fibonacci": {false, false, false}, "tribonacci": {false, false, false}} {
		s, _ := impl.NamedSubst(name)
		w, _ := impl.FixedPoint(s, "a", longestWord)
		checkFree(t, w, free[0], free[1], free[2])
	}
	s, _ := impl.NamedSubst("thue")
	for _, w := range stringsUpTo("ab", 10) {
		image, _ := impl.ApplySubst(s, w)
		if impl.IsOverlapFree(image) != impl.IsOverlapFree(w) {
			t.Errorf("%q and its image do not agree on overlaps", w)
		}
	}
}

// Each word without squares is gone on with until nothing fits.
func TestExtendSquareFreeAgain(t *testing.T) {
	for _, w := range stringsUpTo(letters, 5) {
		for impl.IsSquareFree(w) {
			next := impl.ExtendSquareFree(w)
			for _, x := range []string{"a", "b", "c"} {
				if free := impl.IsSquareFree(w + x); free && (next == "" || next > w+x) || !free && next == w+x {
					t.Errorf("ExtendSquareFree(%q) = %q", w, next)
				}
			}
			if next == "" {
				break
			}
			if next[:len(next)-1] != w {
				t.Fatalf("ExtendSquareFree(%q) = %q", w, next)
			}
			w = next
		}
	}
}

func TestPowerFunctionsRepeat(t *testing.T) {
	for _, w := range []string{"aabbccddabab", strings.Repeat("abcd", 15), mixedWord(3, 2, 60), mixedWord(4, 3, 60)} {
		squares := plainSquares(w)
		length, period := plainExponent(w)
		for range 100 {
			checkSquares(t, w, squares)
			checkExponent(t, w, length, period)
		}
	}
	for range 20 {
		checkCountSquareFree(t, 3, 12, 264)
		checkCountSquareFree(t, 3, 4, 18)
		checkCountSquareFree(t, 2, 3, 2)
	}
}

func TestSquaresAreNew(t *testing.T) {
	for _, w := range []string{"aa", "aabab", "ddccbbaa", strings.Repeat("abcd", 15), mixedWord(8, 2, 60)} {
		first, second := impl.SquaresIn(w), impl.SquaresIn(w)
		want := slices.Clone(first)
		for i := range first[:cap(first)] {
			first[:cap(first)][i] = "x"
		}
		if third := impl.SquaresIn(w); !slices.Equal(second, want) || !slices.Equal(third, want) {
			t.Errorf("SquaresIn(%q) became %q and %q", w, second, third)
		}
	}
}
