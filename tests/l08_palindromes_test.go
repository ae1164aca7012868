package tests

import (
	"math"
	"slices"
	"strings"
	"testing"

	"loop.example/g03209/impl"
)

const (
	longestDirection = 12
	longestTurned    = 60
)

func backwards(w string) string {
	b := []byte(w)
	slices.Reverse(b)
	return string(b)
}

func isSameBackwards(w string) bool { return backwards(w) == w }

// mirrored returns a palindrome of n letters with no order that shows.
func mirrored(seed uint32, count, n int) string {
	half := mixedWord(seed, count, n-n/2)
	return half + backwards(half[:n/2])
}

// palindromeWords returns words that are palindromes, or nearly, or begin or end
// with one, or have several ones of equal length.
func palindromeWords() []string {
	words := factorWords()
	for i, n := range []int{10, 11, 59, 60, 61, 398, 399, 400} {
		for count := 2; count <= 4; count++ {
			p, half, third := mirrored(uint32(i), count, n), mirrored(uint32(i+count), count, n/2), mirrored(uint32(i), count, n/3)
			words = append(words, p, p[1:], p[:n-1], p[2:], p[:n-2], "d"+p[1:], p[:n-1]+"d", p[:n/2-1]+"d"+p[n/2:], p[:n/2+1]+"c"+p[n/2+2:],
				half+squareFreeWord(n-n/2), squareFreeWord(n-n/2)+half, squareFreeWord(n/4)+half+"d", third+third+third, third+"d"+third, third+"cd"+third, half+half)
		}
	}
	return words
}

func plainPalindromes(w string) []string {
	found := map[string]bool{"": true}
	hasPart(w, func(part string) bool {
		if isSameBackwards(part) {
			found[part] = true
		}
		return false
	})
	var list []string
	for p := range found {
		list = append(list, p)
	}
	slices.Sort(list)
	return list
}

// plainDefect counts the beginnings whose longest palindrome at the end has
// stood there before: each one adds no palindrome.
func plainDefect(w string) int {
	defect := 0
	for i := range len(w) {
		start := 0
		for !isSameBackwards(w[start : i+1]) {
			start++
		}
		if strings.Contains(w[:i], w[start:i+1]) {
			defect++
		}
	}
	return defect
}

func plainLongest(w string) (int, int) {
	for n := len(w); n > 0; n-- {
		for i := range len(w) - n + 1 {
			if isSameBackwards(w[i : i+n]) {
				return i, n
			}
		}
	}
	return 0, 0
}

// plainClose can return more letters than a word has.
func plainClose(w string) string {
	added := ""
	for i := 0; !isSameBackwards(w + added); i++ {
		added = w[i:i+1] + added
	}
	return w + added
}

func plainCloseWord(w string) string {
	if closed := plainClose(w); len(closed) <= longestWord {
		return closed
	}
	return ""
}

// plainDirection goes on with each letter whose word still begins w.
func plainDirection(w string) (string, bool) {
	d, made := "", ""
	for made != w {
		fits := func(x string) bool { return strings.HasPrefix(w, plainClose(made+x)) }
		i := slices.IndexFunc([]string{"a", "b", "c", "d"}, fits)
		if i < 0 || len(d) == longestDirection {
			return "", false
		}
		d += letters[i : i+1]
		made = plainClose(made + letters[i:i+1])
	}
	return d, true
}

func plainClosedUnderTurn(w string, n int) bool {
	for i := range len(w) - n + 1 {
		if !strings.Contains(w, backwards(w[i:i+n])) {
			return false
		}
	}
	return true
}

// everyDirection checks all words d of at most n letters, with the words that
// they make, which can have more letters than a word has.
func everyDirection(alphabet string, n int, check func(d, made string)) {
	var grow func(d, made string)
	grow = func(d, made string) {
		check(d, made)
		if len(d) == n || len(made) > longestWord {
			return
		}
		for i := range len(alphabet) {
			x := alphabet[i : i+1]
			grow(d+x, plainClose(made+x))
		}
	}
	grow("", "")
}

func checkIsPalindrome(t *testing.T, w string, want bool) {
	t.Helper()
	if got := impl.IsPalindrome(w); got != want {
		t.Errorf("IsPalindrome(%q) = %v", w, got)
	}
}

func checkPalindromesIn(t *testing.T, w string, want []string) {
	t.Helper()
	if got := impl.PalindromesIn(w); !slices.Equal(got, want) {
		t.Errorf("PalindromesIn(%q) = %q, want %q", w, got, want)
	}
}

func checkDefect(t *testing.T, w string, want int) {
	t.Helper()
	if got := impl.DefectOf(w); got != want {
		t.Errorf("DefectOf(%q) = %d, want %d", w, got, want)
	}
	if got := impl.IsRich(w); got != (want == 0) {
		t.Errorf("IsRich(%q) = %v", w, got)
	}
}

func checkLongest(t *testing.T, w string, start, length int) {
	t.Helper()
	if i, n := impl.LongestPalindrome(w); i != start || n != length {
		t.Errorf("LongestPalindrome(%q) = %d, %d, want %d, %d", w, i, n, start, length)
	}
}

func checkClose(t *testing.T, w, want string) {
	t.Helper()
	if got := impl.CloseWord(w); got != want {
		t.Errorf("CloseWord(%q) = %q, want %q", w, got, want)
	}
}

func checkDirected(t *testing.T, d, want string, wantOk bool) {
	t.Helper()
	if got, ok := impl.DirectedWord(d); got != want || ok != wantOk {
		t.Errorf("DirectedWord(%q) = %q, %v, want %q, %v", d, got, ok, want, wantOk)
	}
}

func checkDirection(t *testing.T, w, want string, wantOk bool) {
	t.Helper()
	if got, ok := impl.DirectionOf(w); got != want || ok != wantOk {
		t.Errorf("DirectionOf(%q) = %q, %v, want %q, %v", w, got, ok, want, wantOk)
	}
}

func checkTurn(t *testing.T, w string, n int, want bool) {
	t.Helper()
	if got := impl.IsClosedUnderTurn(w, n); got != want {
		t.Errorf("IsClosedUnderTurn(%q, %d) = %v", w, n, got)
	}
}

// checkPalindromes compares the functions of a word with the plain second
// versions.
func checkPalindromes(t *testing.T, w string) {
	t.Helper()
	checkIsPalindrome(t, w, isSameBackwards(w))
	if len(w) <= longestAll {
		checkPalindromesIn(t, w, plainPalindromes(w))
		checkDefect(t, w, plainDefect(w))
	} else {
		checkPalindromesIn(t, w, nil)
		checkDefect(t, w, -1)
	}
	start, length := plainLongest(w)
	checkLongest(t, w, start, length)
	checkClose(t, w, plainCloseWord(w))
	d, ok := plainDirection(w)
	checkDirection(t, w, d, ok)
	for _, n := range []int{1, 2, 3, 4, 5, 8, 20, 30, 59, 60} {
		checkTurn(t, w, n, plainClosedUnderTurn(w, n))
	}
}

func TestIsPalindrome(t *testing.T) {
	p := mirrored(5, 3, 400)
	odd := mirrored(6, 3, 399)
	for w, want := range map[string]bool{
		"": true, "a": true, "d": true, "aa": true, "dd": true, "aba": true, "aaa": true, "abba": true, "aaaa": true, "abcba": true, "abccba": true, "abcdcba": true, "abcddcba": true, "dcbabcd": true, "abaaba": true,
		"ab": false, "ba": false, "ad": false, "aab": false, "baa": false, "abc": false, "abb": false, "abab": false, "abca": false, "aabb": false, "abcdba": false, "abcca": false, "bbcba": false, "abcbb": false, "aacba": false, "abcaa": false, "abaab": false,
		p: true, p[1:399]: true, p[1:]: false, p[:399]: false, odd: true, odd + odd[:1]: false, "d" + p[1:]: false, p[:399] + "d": false, p[:199] + "d" + p[200:]: false, p[:200] + "d" + p[201:]: false, odd[:199] + "d" + odd[200:]: true, odd[:198] + "d" + odd[199:]: false, odd[:200] + "d" + odd[201:]: false,
		strings.Repeat("a", 399): true, strings.Repeat("a", 400): true, strings.Repeat("a", 399) + "b": false, strings.Repeat("ab", 199) + "a": true, strings.Repeat("ab", 200): false, strings.Repeat("a", 401): false, "d" + odd + "d": false, "d" + p + "d": false,
	} {
		checkIsPalindrome(t, w, want)
	}
}

func TestPalindromesIn(t *testing.T) {
	for w, want := range map[string]string{
		"a": "a", "d": "d", "aa": "a aa", "ab": "a b", "ba": "a b", "dc": "c d", "aaa": "a aa aaa", "aba": "a aba b", "abc": "a b c", "abca": "a b c", "abcd": "a b c d", "dcba": "a b c d", "abba": "a abba b bb", "abab": "a aba b bab", "aab": "a aa b", "baa": "a aa b",
		"abcba": "a abcba b bcb c", "cabac": "a aba b c cabac", "dabba": "a abba b bb d", "abbad": "a abba b bb d", "abcabc": "a b c", "abcddcba": "a abcddcba b bcddcb c cddc d dd",
		"bbaa": "a aa b bb", "ddccbbaa": "a aa b bb c cc d dd", "dbdada": "a ada b d dad dbd", "cbcac": "a b c cac cbc", "bab": "a b bab", "baaab": "a aa aaa b baaab",
		"abaaba": "a aa aba abaaba b baab", "aabaaabaa": "a aa aaa aabaa aabaaabaa aba abaaaba b baaab", "aabbaab": "a aa aabbaa abba b baab bb", "aabaab": "a aa aabaa aba b baab", "abaabaaba": "a aa aabaa aba abaaba abaabaaba b baab baabaab",
		"aabaabaabaab": "a aa aabaa aabaabaa aabaabaabaa aba abaaba abaabaaba b baab baabaab baabaabaab", "abababab": "a aba ababa abababa b bab babab bababab", "abcabcabcabc": "a b c", "aabcaabcaabc": "a aa b c",
	} {
		list := append([]string{""}, strings.Fields(want)...)
		checkPalindromesIn(t, w, list)
		checkDefect(t, w, len(w)+1-len(list))
	}
	checkPalindromesIn(t, "", []string{""})
	checkDefect(t, "", 0)
}

// A rich word of 60 letters is the longest one that the functions take; of the
// words that are not rich, that of abc again and again has the greatest defect.
func TestPalindromesInBound(t *testing.T) {
	as := strings.Repeat("a", 60)
	abc := strings.Repeat("abc", 20)
	for n := 58; n <= 60; n++ {
		var runs []string
		for i := range n + 1 {
			runs = append(runs, as[:i])
		}
		checkPalindromesIn(t, as[:n], runs)
		checkDefect(t, as[:n], 0)
		checkPalindromesIn(t, abc[:n], []string{"", "a", "b", "c"})
		checkDefect(t, abc[:n], n-3)
		checkPalindromesIn(t, mirrored(4, 2, n), plainPalindromes(mirrored(4, 2, n)))
		checkDefect(t, mirrored(4, 2, n), plainDefect(mirrored(4, 2, n)))
	}
	for _, w := range []string{as + "a", as + "b", "b" + as, abc + "a", mirrored(4, 2, 61), mixedWord(3, 4, 61), as + "aa", strings.Repeat("a", 399), strings.Repeat("a", 400), strings.Repeat("abcd", 100), strings.Repeat("a", 401)} {
		checkPalindromesIn(t, w, nil)
		checkDefect(t, w, -1)
	}
}

func TestDefectOf(t *testing.T) {
	for w, want := range map[string]int{
		"": 0, "a": 0, "d": 0, "aa": 0, "ab": 0, "abc": 0, "abcd": 0, "aba": 0, "abab": 0, "abcba": 0, "aabb": 0, "abcb": 0, "abacaba": 0, "abaababaabaab": 0, "aabaabaab": 0, "ddccbbaa": 0,
		"abca": 1, "dbcd": 1, "aabca": 1, "abcaa": 1, "abcda": 1, "abcab": 2, "abcabc": 3, "abcdab": 2, "abcdabcd": 4, "aabbab": 0, "aababb": 0, "aababbaa": 1, "aabbabaa": 1, "aababbaabb": 1, "abcacba": 1, "abcbabca": 1, "abcacbab": 1,
	} {
		if got := plainDefect(w); got != want {
			t.Errorf("plainDefect(%q) = %d, want %d", w, got, want)
		}
		checkDefect(t, w, want)
	}
}

func TestLongestPalindrome(t *testing.T) {
	half, odd, even := squareFreeWord(199), mirrored(6, 3, 399), mirrored(6, 3, 398)
	for _, c := range []struct {
		w             string
		start, length int
	}{
		{"", 0, 0}, {"a", 0, 1}, {"d", 0, 1}, {"ab", 0, 1}, {"ba", 0, 1}, {"abc", 0, 1}, {"dcba", 0, 1}, {"abca", 0, 1}, {"aa", 0, 2}, {"aaa", 0, 3}, {"aba", 0, 3}, {"abba", 0, 4}, {"abcba", 0, 5}, {"abccba", 0, 6},
		{"abcbd", 1, 3}, {"dabba", 1, 4}, {"abbad", 0, 4}, {"abac", 0, 3}, {"caba", 1, 3}, {"cdaba", 2, 3}, {"aab", 0, 2}, {"abb", 1, 2}, {"abbc", 1, 2}, {"cabbad", 1, 4}, {"abcddc", 2, 4}, {"cddcab", 0, 4},
		{"aabb", 0, 2}, {"abbcc", 1, 2}, {"abab", 0, 3}, {"babab", 0, 5}, {"ababab", 0, 5}, {"abacbc", 0, 3}, {"dabacbc", 1, 3}, {"abacada", 0, 3}, {"abcbacab", 0, 5}, {"ddabadbab", 1, 5}, {"cabbacddc", 0, 6}, {"abbacddc", 0, 4}, {"dbccbacddc", 1, 4},
		{"aabaab", 0, 5}, {"aabbaab", 0, 6}, {"baabbaa", 1, 6}, {"abaabab", 0, 6}, {"aabcb", 2, 3}, {"aabccb", 2, 4}, {"abacddc", 3, 4}, {"abbacbdbc", 4, 5}, {"abcabcacb", 4, 5},
		{half + "d" + backwards(half), 0, 399}, {half + "dd" + backwards(half), 0, 400}, {half + "d" + backwards(half) + "d", 0, 399}, {"d" + half + "d" + backwards(half), 1, 399}, {even + "d", 0, 398}, {"d" + even, 1, 398}, {odd, 0, 399}, {odd[1:], 0, 397}, {odd[:398], 1, 397},
		{strings.Repeat("a", 400), 0, 400}, {strings.Repeat("a", 399) + "b", 0, 399}, {"b" + strings.Repeat("a", 399), 1, 399}, {strings.Repeat("ab", 200), 0, 399}, {strings.Repeat("a", 200) + strings.Repeat("b", 200), 0, 200}, {strings.Repeat("a", 199) + "d" + strings.Repeat("b", 200), 200, 200}, {strings.Repeat("abc", 133) + "a", 0, 1}, {strings.Repeat("abcd", 99) + "cdcd", 394, 5},
	} {
		checkLongest(t, c.w, c.start, c.length)
	}
}

func TestCloseWord(t *testing.T) {
	for w, want := range map[string]string{
		"": "", "a": "a", "d": "d", "aa": "aa", "dd": "dd", "aba": "aba", "abba": "abba", "abcba": "abcba", "aaaa": "aaaa",
		"ab": "aba", "ba": "bab", "abc": "abcba", "abcd": "abcdcba", "dcba": "dcbabcd", "abca": "abcacba", "abcab": "abcabacba", "aab": "aabaa", "abcda": "abcdadcba",
		"abb": "abba", "abbb": "abbba", "abcc": "abccba", "aaab": "aaabaaa", "baaa": "baaab", "abab": "ababa", "ababc": "ababcbaba", "aabb": "aabbaa", "abcbc": "abcbcba", "abcbcc": "abcbccbcba", "abaab": "abaaba", "abaa": "abaaba", "aabab": "aababaa", "abbab": "abbabba", "aabaab": "aabaabaa", "cabbad": "cabbadabbac", "cabba": "cabbac", "dabccba": "dabccbad",
	} {
		checkClose(t, w, want)
	}
}

// The results have up to 400 letters, or would have more.
func TestCloseWordBound(t *testing.T) {
	s := squareFreeWord(400)
	for _, n := range []int{197, 198, 199} {
		once, twice := s[:n]+"d", s[:n]+"dd"
		checkClose(t, once, once+backwards(s[:n]))
		checkClose(t, twice, twice+backwards(s[:n]))
	}
	checkClose(t, s[:200]+"d", "")
	checkClose(t, s[:200]+"dd", "")
	checkClose(t, s[:198]+"dad", s[:198]+"dad"+backwards(s[:198]))
	checkClose(t, s[:199]+"dad", "")
	checkClose(t, s[:198]+"daad", s[:198]+"daad"+backwards(s[:198]))
	checkClose(t, s[:399]+"d", "")
	as := strings.Repeat("a", 400)
	checkClose(t, as, as)
	checkClose(t, "b"+as[2:], "b"+as[2:]+"b")
	checkClose(t, "b"+as[1:], "")
	checkClose(t, as[1:]+"b", "")
	checkClose(t, as[:199]+"b", as[:199]+"b"+as[:199])
	checkClose(t, as[:200]+"b", "")
	checkClose(t, as[:398]+"b", "")
	checkClose(t, strings.Repeat("ab", 200), "")
	checkClose(t, strings.Repeat("ab", 199), strings.Repeat("ab", 199)+"a")
	checkClose(t, strings.Repeat("ab", 199)+"a", strings.Repeat("ab", 199)+"a")
	checkClose(t, as+"a", "")
	for n := 396; n <= 400; n++ {
		p := mirrored(uint32(n), 3, n)
		checkClose(t, p, p)
		checkClose(t, p[:n-1], plainCloseWord(p[:n-1]))
		checkClose(t, p[:n-40], plainCloseWord(p[:n-40]))
	}
	checkClose(t, mirrored(7, 3, 401), "")
}

func TestDirectedWord(t *testing.T) {
	for d, want := range map[string]string{
		"": "", "a": "a", "d": "d", "aa": "aa", "ab": "aba", "ba": "bab", "dc": "dcd", "aaa": "aaa", "aab": "aabaa", "aba": "abaaba", "abb": "ababa", "baa": "babab", "abc": "abacaba", "cba": "cbcacbc", "abcd": "abacabadabacaba", "abab": "abaababaaba", "abca": "abacabaabacaba", "abcb": "abacababacaba", "abcc": "abacabacaba", "aabb": "aabaabaa", "aaba": "aabaaabaa", "abba": "ababaababa",
		"aaaaaaaaaaa": "aaaaaaaaaaa", "aaaaaaaaaaaa": "aaaaaaaaaaaa", "aaaaaaaaaaab": "aaaaaaaaaaabaaaaaaaaaaa", "abbbbbbbbbbb": "abababababababababababa", "baaaaaaaaaaa": "bababababababababababab",
	} {
		checkDirected(t, d, want, true)
	}
	w, _ := impl.DirectedWord("abababababa")
	if want := plainFixed([]string{"ab", "a"}, "a", 375); w != want {
		t.Errorf("DirectedWord of ab, again and again, is %q, want %q", w, want)
	}
}

// The words d have up to 12 letters, or more; what they make has up to 400, or
// would have more, some of them before the last letter of d.
func TestDirectedWordBounds(t *testing.T) {
	for d, want := range map[string]int{"ababbbababba": 400, "baababaaabab": 400, "aaaabcacabbb": 400, "aabababbabaa": 399, "aaaaabacbcba": 395} {
		w, ok := impl.DirectedWord(d)
		if !ok || len(w) != want || !isSameBackwards(w) {
			t.Errorf("DirectedWord(%q) = %q, %v", d, w, ok)
		}
	}
	for _, d := range []string{
		"aabaabaababa", "abaabababbba", "ababaaababba", "ababbababbba", "abababababab", "abcabcabcabc", "abcdabcdabcd", "abcdabcdabc", "abcdabcda", "abcdabcdaa", "abcdabcdaaaa", "dcbadcbadcba", "aabcdabcdabc",
		"aaaaaaaaaaaaa", "aaaaaaaaaaaab", "abbbbbbbbbbbb", "aaaaaaaaaaaaaa", strings.Repeat("a", 24), strings.Repeat("a", 399), strings.Repeat("a", 400), strings.Repeat("a", 401), strings.Repeat("ab", 200),
	} {
		checkDirected(t, d, "", false)
	}
}

func TestDirectedWordAgrees(t *testing.T) {
	check := func(d, made string) {
		if len(made) > longestWord {
			made = ""
		}
		checkDirected(t, d, made, made != "" || d == "")
		if made != "" {
			checkDirection(t, made, d, true)
		}
	}
	everyDirection(letters, 5, check)
	everyDirection("bcd", 7, check)
	everyDirection("ad", 12, check)
	for i := range 200 {
		d := mixedWord(uint32(i), 2+i%3, longestDirection)
		made := ""
		for k := range d {
			if made = plainClose(made + d[k:k+1]); len(made) > longestWord {
				made = ""
				break
			}
		}
		checkDirected(t, d, made, made != "")
	}
}

func TestDirectionOf(t *testing.T) {
	as := strings.Repeat("a", 400)
	for w, want := range map[string]string{
		"a": "a", "d": "d", "aa": "aa", "bb": "bb", "aba": "ab", "dcd": "dc", "aaa": "aaa", "aabaa": "aab", "abaaba": "aba", "ababa": "abb", "abacaba": "abc", "abacabadabacaba": "abcd", "dcdbdcdadcdbdcd": "dcba", "abaababaaba": "abab", "abacababacaba": "abcb", "abacabacaba": "abcc",
		as[:11]: "aaaaaaaaaaa", as[:12]: "aaaaaaaaaaaa", as[:11] + "b" + as[:11]: "aaaaaaaaaaab", strings.Repeat("ab", 11) + "a": "abbbbbbbbbbb",
		plainFixed([]string{"ab", "a"}, "a", 375): "abababababa",
	} {
		checkDirection(t, w, want, true)
	}
	checkDirection(t, "", "", true)
	for _, w := range []string{
		"abba", "baab", "abcba", "abccba", "aabbaa", "abaaaba", "abbba", "cabac", "ababbaba", "abacdcaba", "abaabbaaba", "aabacabaa", "abacabaacabacab", "bacabaacabacab",
		"ab", "ba", "abb", "aab", "abc", "abab", "abaab", "abaabab", "aabaab", "abacabad", "abacaba" + "abacab", "abca", "aaaaaaaaaaab",
		as[:13], as[:14], as[:24], as[:12] + "b" + as[:12], strings.Repeat("ab", 12) + "a", as[:399], as, as + "a", plainFixed([]string{"ab", "a"}, "a", 376), plainFixed([]string{"ab", "a"}, "a", 374), plainFixed([]string{"ab", "a"}, "a", 608), mirrored(2, 2, 400), strings.Repeat("ab", 200), "b" + as[:398] + "b",
	} {
		checkDirection(t, w, "", false)
	}
}

func TestIsClosedUnderTurn(t *testing.T) {
	for _, c := range []struct {
		w    string
		n    int
		want bool
	}{
		{"a", 1, true}, {"ab", 1, true}, {"abcd", 1, true}, {"dcba", 1, true}, {"aa", 2, true}, {"ab", 2, false}, {"ba", 2, false}, {"aba", 2, true}, {"aba", 3, true}, {"bab", 2, true}, {"abb", 2, false}, {"abba", 2, true}, {"abba", 3, true}, {"abba", 4, true}, {"abab", 2, true}, {"abab", 3, true}, {"abab", 4, false},
		{"abca", 2, false}, {"abcba", 2, true}, {"abcba", 3, true}, {"abcba", 4, true}, {"abcacb", 1, true}, {"abcacb", 2, false}, {"abcacba", 2, true}, {"abcacba", 3, true}, {"aabba", 2, true}, {"aabba", 3, false}, {"aabbaa", 3, true}, {"abacaba", 3, true}, {"abcdcb", 2, false}, {"abcdcb", 1, true}, {"babcdcb", 2, true}, {"dcbabcda", 2, false}, {"abbacca", 2, true}, {"abbacca", 3, false},
		{"aabab", 2, true}, {"aabab", 3, false}, {"babaab", 3, true}, {"babaab", 4, false}, {"abaabab", 3, true}, {"abaabab", 4, false}, {"babaabab", 5, true}, {"cbabb", 2, false}, {"babbc", 2, false}, {"bcbabb", 2, true},
		{"", 1, true}, {"", 2, true}, {"", 60, true}, {"a", 2, true}, {"ab", 3, true}, {"ab", 60, true}, {"abc", 4, true}, {"abc", 3, false}, {"aab", 60, true},
		{"a", 0, false}, {"aba", 0, false}, {"", 0, false}, {"aba", -1, false}, {"", -1, false}, {"", 61, false}, {"a", 61, false}, {"aba", 62, false},
	} {
		checkTurn(t, c.w, c.n, c.want)
	}
}

func TestIsClosedUnderTurnBounds(t *testing.T) {
	p, s := mirrored(3, 4, 400), squareFreeWord(58)
	for n := 1; n <= longestTurned; n++ {
		checkTurn(t, p, n, true)
		checkTurn(t, p[:longestTurned], n, plainClosedUnderTurn(p[:longestTurned], n))
		checkTurn(t, strings.Repeat("a", 400), n, true)
		checkTurn(t, strings.Repeat("a", 401), n, false)
		checkTurn(t, strings.Repeat("a", 399)+"b", n, n == 1)
		checkTurn(t, "b"+strings.Repeat("a", 399), n, n == 1)
		checkTurn(t, strings.Repeat("abc", 133), n, n == 1)
		checkTurn(t, "d"+s+backwards(s)+"d", n, true)
		checkTurn(t, strings.Repeat("a", n)+"b", n, n == 1)
		checkTurn(t, strings.Repeat("a", n-1)+"b", n, n == 1)
		checkTurn(t, strings.Repeat("ab", n)[:n-1], n, true)
	}
}

func TestIsClosedUnderTurnRefusesLengths(t *testing.T) {
	for _, w := range []string{"", "a", "aba", "ab", mirrored(3, 2, 60), mirrored(3, 2, 61), mirrored(3, 2, 400), strings.Repeat("a", 400)} {
		for _, n := range []int{0, -1, -2, -60, -61, 61, 62, 63, 64, 100, 255, 256, 257, 316, 399, 400, 401, 1 << 32, 1<<32 + 1, 1<<32 + 60, -1 << 32, math.MaxInt, math.MaxInt - 1, math.MinInt, math.MinInt + 1, math.MinInt + 60} {
			checkTurn(t, w, n, false)
		}
	}
}

func TestPalindromeFunctionsAllShortWords(t *testing.T) {
	for _, w := range shortPowerWords() {
		checkPalindromes(t, w)
	}
}

func TestPalindromeFunctionsLongWords(t *testing.T) {
	for _, w := range palindromeWords() {
		checkPalindromes(t, w)
	}
}

// Many of the strings would be palindromes, or have palindromes, if they were
// words.
func TestPalindromeFunctionsRefuseWords(t *testing.T) {
	bad := append(noWords(), mirrored(1, 3, 401), mirrored(1, 3, 402), squareFreeWord(401), squareFreeWord(200)+"dd"+backwards(squareFreeWord(200)))
	for _, x := range outsiders {
		bad = append(bad, x+x, x+"a"+x, "a"+x+"a", "aba"+x, x+"aba", "ab"+x+"ba", "abaaba"+x, "aa"+x+x+"aa", "a"+x+"b"+x+"a", strings.Repeat("a", 199)+x+strings.Repeat("a", 199))
	}
	for _, w := range bad {
		checkIsPalindrome(t, w, false)
		checkPalindromesIn(t, w, nil)
		checkDefect(t, w, -1)
		checkLongest(t, w, -1, -1)
		checkClose(t, w, "")
		checkDirected(t, w, "", false)
		checkDirection(t, w, "", false)
		for _, n := range []int{-1, 0, 1, 2, 3, 10, 59, 60, 61} {
			checkTurn(t, w, n, false)
		}
	}
}

// Of the words that begin with a word, in the order of their lengths, the first
// palindrome is the closed word.
func TestCloseWordIsShortest(t *testing.T) {
	for _, w := range append(stringsUpTo("abd", 4), stringsUpTo("bc", 5)...) {
		ends := stringsUpTo(letters, max(0, len(w)-1))
		i := slices.IndexFunc(ends, func(end string) bool { return impl.IsPalindrome(w + end) })
		checkClose(t, w, w+ends[i])
	}
}

// The functions say the same of the palindromes of a word.
func TestPalindromeFunctionsAgree(t *testing.T) {
	for _, w := range append(shortPowerWords(), palindromeWords()...) {
		start, length := impl.LongestPalindrome(w)
		if start < 0 || length < min(1, len(w)) || start+length > len(w) || !impl.IsPalindrome(w[start:start+length]) {
			t.Errorf("LongestPalindrome(%q) = %d, %d", w, start, length)
			continue
		}
		if impl.IsPalindrome(w) != (length == len(w)) || impl.IsPalindrome(w) != (impl.CloseWord(w) == w && len(w) == length) {
			t.Errorf("%q: IsPalindrome %v, CloseWord %q, LongestPalindrome %d, %d", w, impl.IsPalindrome(w), impl.CloseWord(w), start, length)
		}
		if closed := impl.CloseWord(w); closed != "" && (!strings.HasPrefix(closed, w) || !impl.IsPalindrome(closed) || impl.CloseWord(closed) != closed || len(closed) < 2*len(w)-length) {
			t.Errorf("CloseWord(%q) = %q", w, closed)
		}
		if len(w) > longestAll {
			continue
		}
		list := impl.PalindromesIn(w)
		if len(list) > len(w)+1 || len(list)+impl.DefectOf(w) != len(w)+1 || impl.IsRich(w) != (len(list) == len(w)+1) {
			t.Errorf("%q: PalindromesIn %q, DefectOf %d, IsRich %v", w, list, impl.DefectOf(w), impl.IsRich(w))
		}
		for i, p := range list {
			if !impl.IsFactor(w, p) || !impl.IsPalindrome(p) || len(p) > length || i > 0 && !impl.BeforeWord(list[i-1], p) {
				t.Errorf("PalindromesIn(%q) = %q", w, list)
			}
		}
		if !slices.Contains(list, w[start:start+length]) {
			t.Errorf("PalindromesIn(%q) = %q, LongestPalindrome %d, %d", w, list, start, length)
		}
	}
}

// All beginnings of a direction make palindromes that begin with each other and
// are rich, and there are no other palindromes with which the word begins.
func TestDirectedWordsBeginWithEachOther(t *testing.T) {
	everyDirection("abc", 6, func(d, made string) {
		if len(made) > longestWord {
			return
		}
		number := 0
		for i := range len(made) + 1 {
			if impl.IsPalindrome(made[:i]) {
				number++
			}
		}
		if number != len(d)+1 {
			t.Errorf("DirectedWord(%q) begins with %d palindromes", d, number)
		}
		for i := range d {
			before, ok := impl.DirectedWord(d[:i])
			after, afterOk := impl.DirectedWord(d[:i+1])
			if !ok || !afterOk || !strings.HasPrefix(after, before+d[i:i+1]) || !impl.IsPalindrome(after) || len(after) <= longestAll && !impl.IsRich(after) {
				t.Errorf("DirectedWord(%q) = %q, and with a letter more %q", d[:i], before, after)
			}
		}
		for _, n := range []int{1, 2, 3, 5, 8, 20, 60} {
			checkTurn(t, made, n, true)
		}
	})
}

// Palindromes stay palindromes if the word is turned or gets other letters.
func TestPalindromesOfTurnedAndSwappedWords(t *testing.T) {
	for _, w := range append(stringsUpTo("abc", 6), palindromeWords()...) {
		turned := impl.TurnWord(w)
		swapped, _ := impl.SwapLetters(w, "cadb")
		var others []string
		for _, p := range impl.PalindromesIn(w) {
			other, _ := impl.SwapLetters(p, "cadb")
			others = append(others, other)
		}
		slices.Sort(others)
		checkPalindromesIn(t, turned, impl.PalindromesIn(w))
		checkPalindromesIn(t, swapped, others)
		start, length := impl.LongestPalindrome(w)
		closed, _ := impl.SwapLetters(impl.CloseWord(w), "cadb")
		checkClose(t, swapped, closed)
		checkLongest(t, swapped, start, length)
		if _, n := impl.LongestPalindrome(turned); n != length {
			t.Errorf("LongestPalindrome(%q) has %d letters, turned %d", w, length, n)
		}
		d, ok := impl.DirectionOf(w)
		other, _ := impl.SwapLetters(d, "cadb")
		checkDirection(t, swapped, other, ok)
		for _, v := range []string{turned, swapped} {
			checkDefect(t, v, impl.DefectOf(w))
			checkIsPalindrome(t, v, impl.IsPalindrome(w))
			for _, n := range []int{1, 2, 3, 4, 7, 60} {
				checkTurn(t, v, n, impl.IsClosedUnderTurn(w, n))
			}
		}
	}
}

// A set of factors is closed exactly if turning all of them gives it again.
func TestIsClosedUnderTurnAgreesWithFactors(t *testing.T) {
	for _, w := range append(shortPowerWords(), palindromeWords()...) {
		for _, n := range []int{1, 2, 3, 5, 9, 60} {
			factors := impl.FactorsOf(w, n)
			var turned []string
			for _, f := range factors {
				turned = append(turned, impl.TurnWord(f))
			}
			slices.Sort(turned)
			checkTurn(t, w, n, slices.Equal(factors, turned))
		}
	}
}

// The beginnings of some fixed points are rich. The factors of most of them can
// be turned, those of rudin only if they have at most 3 letters.
func TestPalindromesOfFixedPoints(t *testing.T) {
	for name, want := range map[string]struct{ defect, turned int }{"fibonacci": {0, 20}, "tribonacci": {0, 20}, "silver": {0, 20}, "doubling": {0, 20}, "thue": {12, 20}, "squarefree": {10, 20}, "rudin": {37, 3}} {
		s, _ := impl.NamedSubst(name)
		w, _ := impl.FixedPoint(s, "a", longestWord)
		checkDefect(t, w[:longestAll], want.defect)
		for n := 1; n <= 20; n++ {
			checkTurn(t, w, n, n <= want.turned)
		}
	}
}

func TestPalindromeFunctionsRepeat(t *testing.T) {
	for _, w := range []string{"aabbccddabab", strings.Repeat("abcd", 15), mixedWord(3, 2, 60), mirrored(4, 3, 60)} {
		list, defect := plainPalindromes(w), plainDefect(w)
		start, length := plainLongest(w)
		for range 100 {
			checkPalindromesIn(t, w, list)
			checkDefect(t, w, defect)
			checkLongest(t, w, start, length)
			checkClose(t, w, plainCloseWord(w))
			checkTurn(t, w, 3, plainClosedUnderTurn(w, 3))
		}
	}
	for range 20 {
		checkDirected(t, "abcd", "abacabadabacaba", true)
		checkDirection(t, "abacabadabacaba", "abcd", true)
		checkDirected(t, "abcdabcdabcd", "", false)
	}
}

func TestPalindromesAreNew(t *testing.T) {
	for _, w := range []string{"", "a", "aa", "aabab", "ddccbbaa", strings.Repeat("abcd", 15), mirrored(8, 2, 60)} {
		first, second := impl.PalindromesIn(w), impl.PalindromesIn(w)
		want := slices.Clone(first)
		for i := range first[:cap(first)] {
			first[:cap(first)][i] = "x"
		}
		if third := impl.PalindromesIn(w); !slices.Equal(second, want) || !slices.Equal(third, want) {
			t.Errorf("PalindromesIn(%q) became %q and %q", w, second, third)
		}
	}
}
