package tests

import (
	"math"
	"slices"
	"strings"
	"testing"

	"loop.example/g03209/impl"
)

const longestAll = 60

// mixedWord returns n letters of the first count ones, in no order that shows.
func mixedWord(seed uint32, count, n int) string {
	w := make([]byte, n)
	for i := range w {
		seed = seed*1664525 + 1013904223
		w[i] = letters[int(seed>>16)%count]
	}
	return string(w)
}

// factorWords returns long words: with many and few factors, of 60, 61, 399 and
// 400 letters among others.
func factorWords() []string {
	words := append(longWords(), strings.Repeat("a", 60), strings.Repeat("d", 61), strings.Repeat("a", 399)+"b", "b"+strings.Repeat("a", 399),
		strings.Repeat("a", 200)+strings.Repeat("b", 200), strings.Repeat("a", 199)+"b"+strings.Repeat("a", 200), strings.Repeat("aab", 133)+"a")
	for _, text := range namedSubsts {
		w := plainFixed(strings.Split(text, ","), "a", longestWord)
		words = append(words, w, w[7:], w[:61], w[33:93])
	}
	for i, n := range []int{9, 17, 33, 59, 60, 61, 100, 256, 399, 400} {
		for count := 2; count <= 4; count++ {
			words = append(words, mixedWord(uint32(7*i+count), count, n))
		}
	}
	return words
}

// shortFactorWords returns all words of four letters and fewer, and longer ones
// of fewer letters.
func shortFactorWords() []string {
	return append(append(stringsUpTo(letters, 4), stringsUpTo("bd", 8)...), stringsUpTo("acd", 5)...)
}

// sortedEnds returns the ends of a word in the order of the alphabet; the first
// n letters of those that have as many are its factors of n letters in order.
func sortedEnds(w string) []string {
	var ends []string
	for i := range len(w) {
		ends = append(ends, w[i:])
	}
	slices.Sort(ends)
	return ends
}

func cutFactors(ends []string, n int) []string {
	var factors []string
	for _, end := range ends {
		if n >= 1 && n <= len(end) && (len(factors) == 0 || factors[len(factors)-1] != end[:n]) {
			factors = append(factors, end[:n])
		}
	}
	return factors
}

func plainFollowers(w, f string) string {
	followers := ""
	for i := range len(letters) {
		if strings.Contains(w, f+letters[i:i+1]) {
			followers += letters[i : i+1]
		}
	}
	return followers
}

func plainLeaders(w, f string) string {
	leaders := ""
	for i := range len(letters) {
		if strings.Contains(w, letters[i:i+1]+f) {
			leaders += letters[i : i+1]
		}
	}
	return leaders
}

func plainSpecial(w string, factors []string, beside func(w, f string) string) []string {
	var special []string
	for _, f := range factors {
		if len(beside(w, f)) > 1 {
			special = append(special, f)
		}
	}
	return special
}

func plainGraph(shorter, longer []string) [][]int {
	var graph [][]int
	for _, g := range longer {
		graph = append(graph, []int{slices.Index(shorter, g[:len(g)-1]), slices.Index(shorter, g[1:])})
	}
	return graph
}

// plainReach looks, from each index on, for the first place of each factor.
func plainReach(w string, factors []string) int {
	reach := 0
	for _, f := range factors {
		for i := range len(w) + 1 {
			length := strings.Index(w[i:], f) + len(f) - 1
			if length < len(f)-1 {
				length = len(w) - i
			}
			reach = max(reach, length+1)
		}
	}
	return reach
}

// plainestReach looks at all parts of a word.
func plainestReach(w string, factors []string) int {
	reach := 0
	for i := range len(w) + 1 {
		for k := i; k <= len(w); k++ {
			lacks := func(f string) bool { return !strings.Contains(w[i:k], f) }
			if slices.ContainsFunc(factors, lacks) {
				reach = max(reach, k-i+1)
			}
		}
	}
	return reach
}

// checkFactors compares the functions of a word and a number with the plain
// second versions, that of ReachOf given.
func checkFactors(t *testing.T, w string, ends []string, n int, plainReach func(w string, factors []string) int) {
	factors, longer := cutFactors(ends, n), cutFactors(ends, n+1)
	if got := impl.FactorsOf(w, n); !slices.Equal(got, factors) {
		t.Errorf("FactorsOf(%q, %d) = %q, want %q", w, n, got, factors)
	}
	if got := impl.ComplexityOf(w, n); got != len(factors) {
		t.Errorf("ComplexityOf(%q, %d) = %d, want %d", w, n, got, len(factors))
	}
	if got, want := impl.RightSpecial(w, n), plainSpecial(w, factors, plainFollowers); !slices.Equal(got, want) {
		t.Errorf("RightSpecial(%q, %d) = %q, want %q", w, n, got, want)
	}
	if got, want := impl.LeftSpecial(w, n), plainSpecial(w, factors, plainLeaders); !slices.Equal(got, want) {
		t.Errorf("LeftSpecial(%q, %d) = %q, want %q", w, n, got, want)
	}
	if got, want := impl.GraphOf(w, n), plainGraph(factors, longer); !sameRows(got, want) {
		t.Errorf("GraphOf(%q, %d) = %v, want %v", w, n, got, want)
	}
	if got, want := impl.ReachOf(w, n), plainReach(w, factors); got != want {
		t.Errorf("ReachOf(%q, %d) = %d, want %d", w, n, got, want)
	}
}

func checkBeside(t *testing.T, w, f string) {
	if got, want := impl.FollowersOf(w, f), plainFollowers(w, f); got != want {
		t.Errorf("FollowersOf(%q, %q) = %q, want %q", w, f, got, want)
	}
	if got, want := impl.LeadersOf(w, f), plainLeaders(w, f); got != want {
		t.Errorf("LeadersOf(%q, %q) = %q, want %q", w, f, got, want)
	}
}

func TestFactorsOf(t *testing.T) {
	many := strings.Repeat("a", 400)
	last := strings.Repeat("b", 399) + "c"
	for _, c := range []struct {
		w    string
		n    int
		want string
	}{
		{"abab", 1, "a b"}, {"abab", 2, "ab ba"}, {"abab", 3, "aba bab"}, {"abab", 4, "abab"}, {"abab", 5, ""}, {"abab", 6, ""}, {"abab", 400, ""},
		{"dcba", 1, "a b c d"}, {"dcba", 2, "ba cb dc"}, {"dcba", 3, "cba dcb"}, {"dcba", 4, "dcba"}, {"cabbac", 2, "ab ac ba bb ca"}, {"bdbdbdbd", 3, "bdb dbd"}, {"dadbdc", 1, "a b c d"},
		{"aaaa", 1, "a"}, {"aaaa", 2, "aa"}, {"aaaa", 3, "aaa"}, {"aaaa", 4, "aaaa"}, {"aaaa", 5, ""}, {"", 1, ""}, {"", 2, ""}, {"", 400, ""}, {"d", 1, "d"}, {"d", 2, ""}, {"d", 400, ""},
		{many, 1, "a"}, {many, 2, "aa"}, {many, 399, many[1:]}, {many, 400, many}, {many[1:], 400, ""}, {last, 1, "b c"}, {last, 2, "bb bc"}, {last, 399, last[:399] + " " + last[1:]}, {last, 400, last},
		{"c" + last[:399], 399, last[:399] + " c" + last[:398]}, {strings.Repeat("dcba", 100), 2, "ad ba cb dc"},
	} {
		want := strings.Fields(c.want)
		if got := impl.FactorsOf(c.w, c.n); !slices.Equal(got, want) {
			t.Errorf("FactorsOf(%q, %d) = %q, want %q", c.w, c.n, got, want)
		}
		if got := impl.ComplexityOf(c.w, c.n); got != len(want) {
			t.Errorf("ComplexityOf(%q, %d) = %d, want %d", c.w, c.n, got, len(want))
		}
	}
}

func TestAllFactors(t *testing.T) {
	for w, want := range map[string]int{
		"": 0, "a": 1, "d": 1, "aa": 2, "ab": 3, "aab": 5, "aaa": 3, "abc": 6, "abab": 7, "abcd": 10, "dcba": 10, "abba": 8, "dddd": 4,
		strings.Repeat("a", 60): 60, strings.Repeat("ab", 30): 119, strings.Repeat("abcd", 15): 234, strings.Repeat("a", 30) + strings.Repeat("b", 30): 960, strings.Repeat("a", 59) + "b": 119,
		strings.Repeat("a", 61): -1, strings.Repeat("ab", 30) + "c": -1, strings.Repeat("ab", 31): -1, strings.Repeat("a", 400): -1, strings.Repeat("a", 401): -1,
	} {
		if got := impl.AllFactors(w); got != want {
			t.Errorf("AllFactors(%q) = %d, want %d", w, got, want)
		}
	}
	for _, w := range append(shortFactorWords(), factorWords()...) {
		parts := map[string]bool{}
		for i := range len(w) {
			for k := i + 1; k <= len(w); k++ {
				parts[w[i:k]] = true
			}
		}
		want := len(parts)
		if len(w) > longestAll {
			want = -1
		}
		if got := impl.AllFactors(w); got != want {
			t.Errorf("AllFactors(%q) = %d, want %d", w, got, want)
		}
	}
}

func TestFollowersOf(t *testing.T) {
	last := strings.Repeat("b", 399) + "c"
	for _, c := range [][3]string{
		{"aab", "a", "ab"}, {"aab", "", "ab"}, {"aab", "b", ""}, {"aab", "aa", "b"}, {"aab", "ab", ""}, {"aab", "aab", ""}, {"aab", "ba", ""}, {"aab", "c", ""}, {"aab", "aaba", ""}, {"aab", "aabaab", ""}, {"aab", "bb", ""},
		{"abacad", "a", "bcd"}, {"adacab", "a", "bcd"}, {"adacabaa", "a", "abcd"}, {"dcba", "", "abcd"}, {"dcba", "d", "c"}, {"dcba", "a", ""}, {"aaaa", "a", "a"}, {"aaaa", "aaa", "a"}, {"aaaa", "aaaa", ""}, {"abcabd", "ab", "cd"}, {"abdabc", "ab", "cd"},
		{"", "", ""}, {"", "a", ""}, {"d", "", "d"}, {"d", "d", ""}, {"d", "a", ""}, {"bab", "b", "a"}, {"ba", "a", ""}, {last, "", "bc"}, {last, "b", "bc"}, {last, last[:398], "bc"}, {last, last[:399], "c"}, {last, last[1:], ""}, {last, last, ""}, {last, "c", ""}, {last[:399], last, ""}, {"b", last, ""},
	} {
		if got := impl.FollowersOf(c[0], c[1]); got != c[2] {
			t.Errorf("FollowersOf(%q, %q) = %q, want %q", c[0], c[1], got, c[2])
		}
	}
}

func TestLeadersOf(t *testing.T) {
	first := "c" + strings.Repeat("b", 399)
	for _, c := range [][3]string{
		{"aab", "b", "a"}, {"aab", "a", "a"}, {"aab", "", "ab"}, {"aab", "aa", ""}, {"aab", "ab", "a"}, {"aab", "aab", ""}, {"aab", "ba", ""}, {"aab", "c", ""}, {"aab", "baab", ""}, {"aab", "aabaab", ""}, {"abb", "b", "ab"}, {"abb", "a", ""},
		{"bacada", "a", "bcd"}, {"dacaba", "a", "bcd"}, {"dacabaa", "a", "abcd"}, {"dcba", "", "abcd"}, {"dcba", "d", ""}, {"dcba", "a", "b"}, {"aaaa", "a", "a"}, {"aaaa", "aaa", "a"}, {"aaaa", "aaaa", ""}, {"dabcab", "ab", "cd"}, {"cabdab", "ab", "cd"},
		{"", "", ""}, {"", "a", ""}, {"d", "", "d"}, {"d", "d", ""}, {"d", "a", ""}, {"bab", "b", "a"}, {"ba", "b", ""}, {first, "", "bc"}, {first, "b", "bc"}, {first, first[2:], "bc"}, {first, first[1:], "c"}, {first, first[:399], ""}, {first, first, ""}, {first, "c", ""}, {first[1:], first, ""}, {"b", first, ""},
	} {
		if got := impl.LeadersOf(c[0], c[1]); got != c[2] {
			t.Errorf("LeadersOf(%q, %q) = %q, want %q", c[0], c[1], got, c[2])
		}
	}
}

func TestRightSpecial(t *testing.T) {
	last := strings.Repeat("b", 399) + "c"
	for _, c := range []struct {
		w    string
		n    int
		want string
	}{
		{"aab", 1, "a"}, {"aab", 2, ""}, {"aab", 3, ""}, {"aab", 4, ""}, {"aab", 400, ""}, {"abab", 1, ""}, {"aaaa", 1, ""}, {"", 1, ""}, {"a", 1, ""}, {"abb", 1, ""}, {"abacad", 1, "a"}, {"adacab", 1, "a"},
		{"bbabaa", 1, "a b"}, {"aabbab", 1, "a b"}, {"dbdaaba", 1, "a b d"}, {"abcabd", 2, "ab"}, {"abcabd", 1, "b"}, {"abcabdbcd", 2, "ab bc"}, {"aabaaab", 2, "aa"}, {"dcdbcdca", 1, "c d"}, {"cacbdadb", 1, "a c d"},
		{last, 1, "b"}, {last, 398, last[:398]}, {last, 399, ""}, {last, 400, ""}, {last[:399], 1, ""},
	} {
		if got := impl.RightSpecial(c.w, c.n); !slices.Equal(got, strings.Fields(c.want)) {
			t.Errorf("RightSpecial(%q, %d) = %q, want %q", c.w, c.n, got, c.want)
		}
	}
}

func TestLeftSpecial(t *testing.T) {
	first := "c" + strings.Repeat("b", 399)
	for _, c := range []struct {
		w    string
		n    int
		want string
	}{
		{"aab", 1, ""}, {"abb", 1, "b"}, {"abb", 2, ""}, {"abb", 3, ""}, {"abb", 4, ""}, {"abb", 400, ""}, {"abab", 1, ""}, {"aaaa", 1, ""}, {"", 1, ""}, {"a", 1, ""}, {"bacada", 1, "a"}, {"dacaba", 1, "a"},
		{"aababb", 1, "a b"}, {"babbaa", 1, "a b"}, {"abaadbd", 1, "a b d"}, {"cabdab", 2, "ab"}, {"cabdab", 1, "a"}, {"bdbbdca", 2, ""}, {"dbcbabc", 2, "bc"}, {"acdcbdcd", 1, "c d"}, {"bdadbcac", 1, "a c d"},
		{first, 1, "b"}, {first, 398, first[2:]}, {first, 399, ""}, {first, 400, ""}, {first[1:], 1, ""},
	} {
		if got := impl.LeftSpecial(c.w, c.n); !slices.Equal(got, strings.Fields(c.want)) {
			t.Errorf("LeftSpecial(%q, %d) = %q, want %q", c.w, c.n, got, c.want)
		}
	}
}

func TestGraphOf(t *testing.T) {
	last := strings.Repeat("b", 399) + "c"
	for _, c := range []struct {
		w    string
		n    int
		want [][]int
	}{
		{"aab", 1, [][]int{{0, 0}, {0, 1}}}, {"aab", 2, [][]int{{0, 1}}}, {"aab", 3, nil}, {"aab", 4, nil}, {"aab", 400, nil}, {"", 1, nil}, {"a", 1, nil}, {"a", 2, nil}, {"aa", 1, [][]int{{0, 0}}}, {"dddd", 1, [][]int{{0, 0}}}, {"dddd", 3, [][]int{{0, 0}}},
		{"ab", 1, [][]int{{0, 1}}}, {"ba", 1, [][]int{{1, 0}}}, {"bd", 1, [][]int{{0, 1}}}, {"ab", 2, nil}, {"abab", 1, [][]int{{0, 1}, {1, 0}}}, {"abab", 2, [][]int{{0, 1}, {1, 0}}}, {"abab", 3, [][]int{{0, 1}}}, {"baba", 3, [][]int{{1, 0}}}, {"abab", 4, nil},
		{"abcd", 2, [][]int{{0, 1}, {1, 2}}}, {"dcba", 1, [][]int{{1, 0}, {2, 1}, {3, 2}}}, {"dcba", 3, [][]int{{1, 0}}}, {"cab", 1, [][]int{{0, 1}, {2, 0}}}, {"cabacd", 1, [][]int{{0, 1}, {0, 2}, {1, 0}, {2, 0}, {2, 3}}}, {"bbaac", 1, [][]int{{0, 0}, {0, 2}, {1, 0}, {1, 1}}},
		{last, 1, [][]int{{0, 0}, {0, 1}}}, {last, 399, [][]int{{0, 1}}}, {last, 400, nil}, {last[:399], 398, [][]int{{0, 0}}}, {last[:399], 399, nil},
	} {
		if got := impl.GraphOf(c.w, c.n); !sameRows(got, c.want) {
			t.Errorf("GraphOf(%q, %d) = %v, want %v", c.w, c.n, got, c.want)
		}
	}
}

func TestReachOf(t *testing.T) {
	last := strings.Repeat("b", 399) + "c"
	for _, c := range []struct {
		w       string
		n, want int
	}{
		{"aab", 1, 3}, {"abab", 1, 2}, {"a", 2, 0}, {"a", 0, -1}, {"", 1, 0}, {"", 400, 0}, {"a", 400, 0}, {"abab", 5, 0}, {"a", 1, 1}, {"aaaa", 1, 1}, {"aaaa", 2, 2}, {"aaaa", 3, 3}, {"aaaa", 4, 4}, {"ab", 1, 2}, {"ab", 2, 2},
		{"aaab", 1, 4}, {"baaa", 1, 4}, {"aaba", 1, 3}, {"abaa", 1, 3}, {"baab", 1, 3}, {"aabaaa", 1, 4}, {"baaabaa", 1, 4}, {"abcd", 1, 4}, {"abcd", 2, 4}, {"abcd", 3, 4}, {"abcd", 4, 4}, {"abcd", 5, 0}, {"abaab", 1, 3}, {"abaab", 2, 4}, {"abaab", 3, 5}, {"abababab", 2, 3}, {"abababab", 3, 4}, {"dabcabcabcd", 1, 10},
		{last, 1, 400}, {last, 2, 400}, {last, 399, 400}, {last, 400, 400}, {"c" + last[:399], 1, 400}, {last[:399], 1, 1}, {last[:399], 399, 399}, {last[:399], 400, 0}, {last[:199] + "c" + last[:200], 1, 201},
	} {
		if got := impl.ReachOf(c.w, c.n); got != c.want {
			t.Errorf("ReachOf(%q, %d) = %d, want %d", c.w, c.n, got, c.want)
		}
	}
}

func TestFactorFunctionsAllShortWords(t *testing.T) {
	for _, w := range shortFactorWords() {
		ends := sortedEnds(w)
		for n := 1; n <= len(w)+2; n++ {
			checkFactors(t, w, ends, n, plainestReach)
		}
	}
}

func TestFactorFunctionsLongWords(t *testing.T) {
	for _, w := range factorWords() {
		ends := sortedEnds(w)
		for _, n := range []int{1, 2, 3, 4, 5, 8, 20, 60, len(w) / 2, len(w) - 2, len(w) - 1, len(w), len(w) + 1, 399, 400} {
			if n >= 1 && n <= longestWord {
				checkFactors(t, w, ends, n, plainReach)
			}
		}
	}
}

func TestFactorsOfAllNumbers(t *testing.T) {
	for _, w := range factorWords() {
		ends := sortedEnds(w)
		for n := 1; n <= longestWord; n++ {
			want := cutFactors(ends, n)
			if got := impl.FactorsOf(w, n); !slices.Equal(got, want) {
				t.Errorf("FactorsOf(%q, %d) = %q, want %q", w, n, got, want)
			}
			if got := impl.ComplexityOf(w, n); got != len(want) {
				t.Errorf("ComplexityOf(%q, %d) = %d, want %d", w, n, got, len(want))
			}
		}
	}
}

func TestFollowersAndLeadersOfAllPairs(t *testing.T) {
	allPairs(func(w, f string) { checkBeside(t, w, f) })
	for _, w := range append(stringsUpTo(letters, 5), mixedWord(5, 3, 30), mixedWord(6, 4, 400)) {
		for _, f := range stringsUpTo(letters, 2) {
			checkBeside(t, w, f)
		}
	}
	for _, w := range factorWords() {
		for _, n := range []int{0, 1, 2, 3, 7, 50, len(w) - 2, len(w) - 1, len(w)} {
			if n <= len(w) {
				checkBeside(t, w, w[:n])
				checkBeside(t, w, w[len(w)-n:])
				checkBeside(t, w, w[(len(w)-n)/2:(len(w)+n)/2])
			}
		}
	}
}

// refuseFactors checks that a word and a number have no factors, not even none.
func refuseFactors(t *testing.T, w string, n int) {
	if got := impl.FactorsOf(w, n); len(got) != 0 {
		t.Errorf("FactorsOf(%q, %d) = %q", w, n, got)
	}
	if got := impl.ComplexityOf(w, n); got != -1 {
		t.Errorf("ComplexityOf(%q, %d) = %d", w, n, got)
	}
	if got := impl.RightSpecial(w, n); len(got) != 0 {
		t.Errorf("RightSpecial(%q, %d) = %q", w, n, got)
	}
	if got := impl.LeftSpecial(w, n); len(got) != 0 {
		t.Errorf("LeftSpecial(%q, %d) = %q", w, n, got)
	}
	if got := impl.GraphOf(w, n); len(got) != 0 {
		t.Errorf("GraphOf(%q, %d) = %v", w, n, got)
	}
	if got := impl.ReachOf(w, n); got != -1 {
		t.Errorf("ReachOf(%q, %d) = %d", w, n, got)
	}
}

func TestFactorFunctionsRefuseNumbers(t *testing.T) {
	for _, w := range append(someWords(), "aabab", mixedWord(1, 2, 60), mixedWord(2, 4, 400)) {
		for _, n := range []int{0, -1, -2, -len(w), -len(w) - 1, -400, -401, 401, 402, 500, 800, 1 << 32, 1<<32 + 1, -1 << 32, math.MaxInt, math.MaxInt - 1, math.MinInt, math.MinInt + 1} {
			refuseFactors(t, w, n)
		}
	}
}

func TestFactorFunctionsRefuseWords(t *testing.T) {
	for _, w := range noWords() {
		for _, n := range []int{-1, 0, 1, 2, 3, len(w) - 1, len(w), len(w) + 1, 399, 400, 401} {
			refuseFactors(t, w, n)
		}
		if got := impl.AllFactors(w); got != -1 {
			t.Errorf("AllFactors(%q) = %d", w, got)
		}
	}
}

// The letters beside a part of a string would be found if it were a word.
func TestFollowersAndLeadersOfRefuse(t *testing.T) {
	for _, x := range noWords() {
		for _, w := range []string{"", "a", "b", "ab", "abcd", strings.Repeat("a", longestWord), strings.Repeat("a", longestWord-1), x, x + "a", "a" + x, "a" + x + "b", "ab" + x + "cd" + x} {
			for _, c := range [][2]string{{x, w}, {w, x}} {
				if got := impl.FollowersOf(c[0], c[1]); got != "" {
					t.Errorf("FollowersOf(%q, %q) = %q", c[0], c[1], got)
				}
				if got := impl.LeadersOf(c[0], c[1]); got != "" {
					t.Errorf("LeadersOf(%q, %q) = %q", c[0], c[1], got)
				}
			}
		}
	}
}

// The factors of a fixed point come from it or from the substitution, and their
// letters are those that the growing letter reaches.
func TestFactorsAgreeWithFixedPoints(t *testing.T) {
	eachGrowing(func(s impl.Subst, letter string) {
		w, _ := impl.FixedPoint(s, letter, longestWord)
		for n := 1; n <= longestFactor; n++ {
			if got, want := impl.FactorsOf(w, n), impl.FixedFactors(s, letter, n); !slices.Equal(got, want) {
				t.Errorf("FactorsOf %d letters of the fixed point of %q in %q: %q, want %q", n, letter, s.Images, got, want)
			}
		}
		reached := impl.ReachedBy(s, letter)
		if used := impl.FollowersOf(w, ""); used != impl.LeadersOf(w, "") || used != strings.Join(impl.FactorsOf(w, 1), "") || strings.Trim(used, reached) != "" {
			t.Errorf("the fixed point of %q in %q has the letters %q, reached are %q", letter, s.Images, used, reached)
		}
		image, _ := impl.ApplySubst(s, w[:longestWord/8])
		for _, f := range impl.FactorsOf(w[:longestWord/8], 3) {
			part, ok := impl.ApplySubst(s, f)
			if !ok || !impl.IsFactor(image, part) || !slices.Contains(impl.FactorsOf(image, len(part)), part) {
				t.Errorf("%q becomes %q by %q, which is not in %q", f, part, s.Images, image)
			}
		}
	})
}

// The number of factors of some fixed points is known, if they are not too long
// for the beginning that is a word.
func TestComplexityOfFixedPoints(t *testing.T) {
	word := func(name string) string {
		s, _ := impl.NamedSubst(name)
		w, _ := impl.FixedPoint(s, "a", longestWord)
		return w
	}
	for n := 1; n <= 40; n++ {
		for _, name := range []string{"fibonacci", "silver"} {
			w := word(name)
			right, left := impl.RightSpecial(w, n), impl.LeftSpecial(w, n)
			if impl.ComplexityOf(w, n) != n+1 || !slices.Equal(left, []string{w[:n]}) || !slices.Equal(right, []string{impl.TurnWord(w[:n])}) {
				t.Errorf("%s: %d factors of %d letters, special are %q and %q", name, impl.ComplexityOf(w, n), n, right, left)
			}
		}
		if got := impl.ComplexityOf(word("tribonacci"), n); got != 2*n+1 {
			t.Errorf("tribonacci: %d factors of %d letters", got, n)
		}
	}
	for i, want := range []int{2, 4, 6, 10, 12, 16, 20, 22, 24, 28, 32, 36, 40} {
		if got := impl.ComplexityOf(word("thue"), i+1); got != want {
			t.Errorf("thue: %d factors of %d letters, want %d", got, i+1, want)
		}
	}
}

// Factors are factors, which begin somewhere, come in order, and are turned
// with the word.
func TestFactorsAgreeWithWords(t *testing.T) {
	for _, w := range append(shortFactorWords(), factorWords()...) {
		turned := impl.TurnWord(w)
		all := 0
		for n := 1; n <= min(len(w), 8); n++ {
			factors := impl.FactorsOf(w, n)
			all += len(factors)
			var back []string
			for i, f := range factors {
				places := impl.PlacesIn(w, f)
				if len(f) != n || !impl.IsFactor(w, f) || len(places) == 0 || i > 0 && !impl.BeforeWord(factors[i-1], f) {
					t.Errorf("FactorsOf(%q, %d) = %q", w, n, factors)
				}
				back = append(back, impl.TurnWord(f))
				if impl.FollowersOf(w, f) != impl.LeadersOf(turned, back[i]) {
					t.Errorf("%q and %q turned do not agree on what follows %q", w, turned, f)
				}
			}
			slices.Sort(back)
			if !slices.Equal(impl.FactorsOf(turned, n), back) || impl.ReachOf(turned, n) != impl.ReachOf(w, n) {
				t.Errorf("%q and %q turned do not agree on factors of %d letters", w, turned, n)
			}
		}
		if got := impl.AllFactors(w); len(w) <= 8 && got != all {
			t.Errorf("AllFactors(%q) = %d, want %d", w, got, all)
		}
		counts := impl.CountsOf(w)
		for i := range len(letters) {
			if strings.Contains(impl.FollowersOf(w, ""), letters[i:i+1]) != (counts[i] > 0) {
				t.Errorf("FollowersOf(%q, \"\") = %q, counted are %v", w, impl.FollowersOf(w, ""), counts)
			}
		}
	}
}

// The arrows of the graph that leave a factor go to what follows it, and each
// part that is long enough has all factors.
func TestFactorFunctionsAgree(t *testing.T) {
	for _, w := range append(shortFactorWords(), factorWords()...) {
		for _, n := range []int{1, 2, 3, 5, len(w) - 1} {
			factors := impl.FactorsOf(w, n)
			from, to := make([]int, len(factors)), make([]int, len(factors))
			for _, row := range impl.GraphOf(w, n) {
				if max(row[0], row[1]) >= len(factors) {
					t.Fatalf("GraphOf(%q, %d) has the row %v for %q", w, n, row, factors)
				}
				from[row[0]]++
				to[row[1]]++
			}
			var right, left []string
			for i, f := range factors {
				if from[i] != len(impl.FollowersOf(w, f)) || to[i] != len(impl.LeadersOf(w, f)) {
					t.Errorf("%q: %d arrows leave %q and %d come to it", w, from[i], f, to[i])
				}
				if from[i] > 1 {
					right = append(right, f)
				}
				if to[i] > 1 {
					left = append(left, f)
				}
			}
			if !slices.Equal(impl.RightSpecial(w, n), right) || !slices.Equal(impl.LeftSpecial(w, n), left) {
				t.Errorf("%q: special are %q and %q, want %q and %q", w, impl.RightSpecial(w, n), impl.LeftSpecial(w, n), right, left)
			}
			reach := impl.ReachOf(w, n)
			for i := 0; reach > 0 && i+reach <= len(w); i++ {
				if !slices.Equal(impl.FactorsOf(w[i:i+reach], n), factors) {
					t.Errorf("ReachOf(%q, %d) = %d, but %q lacks a factor", w, n, reach, w[i:i+reach])
				}
			}
		}
	}
}

func TestFactorFunctionsRepeat(t *testing.T) {
	for _, w := range []string{"abcdbadc", "dcbaabdc", mixedWord(3, 4, 60), mixedWord(4, 3, 400), plainFixed([]string{"ab", "ac", "db", "dc"}, "a", 400)} {
		for n := 1; n <= 3; n++ {
			factors, right, left, graph, reach := impl.FactorsOf(w, n), impl.RightSpecial(w, n), impl.LeftSpecial(w, n), impl.GraphOf(w, n), impl.ReachOf(w, n)
			for range 200 {
				if !slices.Equal(impl.FactorsOf(w, n), factors) || !slices.Equal(impl.RightSpecial(w, n), right) || !slices.Equal(impl.LeftSpecial(w, n), left) || !sameRows(impl.GraphOf(w, n), graph) || impl.ReachOf(w, n) != reach {
					t.Fatalf("the functions of %q and %d do not return the same again", w, n)
				}
			}
			for range 200 {
				if impl.FollowersOf(w, w[:n]) != plainFollowers(w, w[:n]) || impl.LeadersOf(w, w[:n]) != plainLeaders(w, w[:n]) {
					t.Fatalf("the letters beside %q in %q are not the same again", w[:n], w)
				}
			}
		}
	}
}

func TestFactorResultsAreNew(t *testing.T) {
	for _, w := range []string{"a", "aab", "abcabdbcd", "dcdbcdca", mixedWord(8, 4, 60), mixedWord(9, 2, 400)} {
		for n := 1; n <= 3; n++ {
			for _, list := range []func(w string, n int) []string{impl.FactorsOf, impl.RightSpecial, impl.LeftSpecial} {
				first, second := list(w, n), list(w, n)
				want := slices.Clone(first)
				for i := range first[:cap(first)] {
					first[:cap(first)][i] = "x"
				}
				if third := list(w, n); !slices.Equal(second, want) || !slices.Equal(third, want) {
					t.Errorf("%q became %q and %q", want, second, third)
				}
			}
		}
	}
}

func TestGraphRowsAreNew(t *testing.T) {
	for _, w := range []string{"aab", "cabacd", "abcabdbcd", mixedWord(8, 4, 60), mixedWord(9, 2, 400)} {
		for n := 1; n <= 3; n++ {
			want := cloned(impl.GraphOf(w, n))
			for i := range want {
				first, second := impl.GraphOf(w, n), impl.GraphOf(w, n)
				overwrite(first[i])
				first[i] = want[i]
				if !sameRows(first, want) || !sameRows(second, want) || !sameRows(impl.GraphOf(w, n), want) {
					t.Errorf("GraphOf(%q, %d) shares its row %d", w, n, i)
				}
			}
			whole := impl.GraphOf(w, n)
			clear(whole[:cap(whole)])
			if !sameRows(impl.GraphOf(w, n), want) {
				t.Errorf("GraphOf(%q, %d) keeps its rows", w, n)
			}
		}
	}
}
