package tests

import (
	"math"
	"math/big"
	"slices"
	"strings"
	"testing"

	"loop.example/g03209/impl"
)

const (
	longestSloped    = 60
	longestBalanced  = 12
	greatestQuotient = 100
)

// slopes holds what SlopesOf returns.
type slopes [4]int

func slopesOf(w string) slopes {
	p, q, r, s := impl.SlopesOf(w)
	return slopes{p, q, r, s}
}

// farNumbers returns numbers that lie outside of all ranges of the chapter; some
// of them do not if only their last bits are looked at.
func farNumbers() []int {
	return []int{-1000, 1000, 1 << 16, 1<<16 + 2, 1<<16 + 5, 1 << 32, 1<<32 + 1, 1<<32 + 2, 1<<32 + 5, -1 << 32, 1 - 1<<32, math.MaxInt, math.MaxInt - 1, math.MinInt, math.MinInt + 1, math.MinInt + 2}
}

// balanceNoWords returns strings that are no words of a and b. Many of them
// would be if the letters or bytes that are none were taken out.
func balanceNoWords() []string {
	bad := append(noWords(), "c", "d", "abc", "cab", "acb", "dab", "abd", "adb", "aabbc", "caabb", "aacbb", "cdcd", "abcd", strings.Repeat("d", longestWord),
		strings.Repeat("a", 401), strings.Repeat("b", 401), strings.Repeat("ab", 200)+"a", strings.Repeat("ab", 201), strings.Repeat("a", 399)+"bb", plainMechanical(5, 13, 0, 401), endsUnbalanced(77, 200, 0)+"a")
	for _, x := range append([]string{"c", "d", "A", "B"}, outsiders...) {
		bad = append(bad, x+"ab", "ab"+x, "a"+x+"b", "aab"+x+"ab", "aa"+x+"bb", x+"aabb", "aabb"+x, strings.Repeat("a", 30)+x, x+strings.Repeat("ab", 199), strings.Repeat("ab", 100)+x+strings.Repeat("ab", 99))
	}
	return bad
}

// plainMechanical goes around a circle of q points in steps of p: a step with
// which it comes to the first point or passes it is b.
func plainMechanical(p, q, start, n int) string {
	w := make([]byte, n)
	for i := range w {
		w[i] = 'a'
		if start += p; start >= q {
			start -= q
			w[i] = 'b'
		}
	}
	return string(w)
}

func areCoprime(p, q int) bool {
	return new(big.Int).GCD(nil, nil, big.NewInt(int64(p)), big.NewInt(int64(q))).Int64() == 1
}

// endsUnbalanced returns a word that begins with b u b and ends with a u a, with
// k times a u b between them, for coprime numbers p and q: q letters of which p
// are b make a u b. It is not balanced, but is without its first or last letter.
func endsUnbalanced(p, q, k int) string {
	w := plainMechanical(p, q, 0, q)
	return "b" + w[1:] + strings.Repeat(w, k) + w[:q-1] + "a"
}

// balanceWords returns long words of a and b: balanced ones, such with a letter
// changed, with two factors that differ by 2 only if they are long or stand at
// the two ends, and others.
func balanceWords() []string {
	var words []string
	for _, n := range []int{13, 59, 60, 61, 399, 400} {
		words = append(words, strings.Repeat("a", n), strings.Repeat("b", n), strings.Repeat("a", n-1)+"b", "b"+strings.Repeat("a", n-1), strings.Repeat("a", n-2)+"bb", "bb"+strings.Repeat("a", n-2), "aa"+strings.Repeat("b", n-2), "b"+strings.Repeat("a", n-2)+"b",
			strings.Repeat("ab", n)[:n], strings.Repeat("ba", n)[:n], strings.Repeat("aab", n)[:n], strings.Repeat("aabb", n)[:n], strings.Repeat("abbb", n)[:n], plainFixed([]string{"ab", "a"}, "a", n), plainFixed([]string{"aab", "a"}, "a", n), plainFixed([]string{"ab", "ba"}, "a", n), mixedWord(uint32(n), 2, n))
		for i, slope := range [][2]int{{1, 30}, {5, 13}, {34, 55}, {17, 58}, {77, 200}, {144, 233}, {123, 397}} {
			w := plainMechanical(slope[0], slope[1], i*slope[1]/7, n)
			words = append(words, w, "a"+w[1:], "b"+w[1:], w[:n-1]+"a", w[:n-1]+"b", w[:n/2]+"a"+w[n/2+1:], w[:n/2]+"b"+w[n/2+1:], w[:n/2]+backwards(w[n/2:]))
		}
	}
	for _, c := range [][3]int{{1, 2, 5}, {1, 5, 1}, {2, 5, 10}, {5, 13, 1}, {8, 13, 3}, {7, 30, 0}, {11, 30, 1}, {21, 55, 0}, {21, 55, 5}, {99, 100, 2}, {1, 100, 2}, {77, 200, 0}, {1, 200, 0}, {199, 200, 0}, {89, 199, 0}} {
		w := endsUnbalanced(c[0], c[1], c[2])
		words = append(words, w, w[1:], w[:len(w)-1], backwards(w), w[:len(w)/2], w[len(w)/2:])
	}
	return words
}

// plainSpread counts in each factor of n letters by itself.
func plainSpread(w string, n int) (int, int) {
	if n < 1 || n > len(w) {
		return -1, -1
	}
	var numbers []int
	for i := range len(w) - n + 1 {
		numbers = append(numbers, strings.Count(w[i:i+n], "b"))
	}
	return slices.Min(numbers), slices.Max(numbers)
}

// isEvenly compares each two factors of equal lengths.
func isEvenly(w string) bool {
	for n := 1; n <= len(w); n++ {
		for i := range len(w) - n + 1 {
			for k := range i {
				v, u := strings.Count(w[i:i+n], "b"), strings.Count(w[k:k+n], "b")
				if v-u > 1 || u-v > 1 {
					return false
				}
			}
		}
	}
	return true
}

func plainSlopes(w string) slopes {
	lower, upper := big.NewRat(-1, 1), big.NewRat(2, 1)
	for i := range len(w) {
		for k := i + 1; k <= len(w); k++ {
			n, number := int64(k-i), int64(strings.Count(w[i:k], "b"))
			if r := big.NewRat(number-1, n); r.Cmp(lower) > 0 {
				lower = r
			}
			if r := big.NewRat(number+1, n); r.Cmp(upper) < 0 {
				upper = r
			}
		}
	}
	return slopes{int(lower.Num().Int64()), int(lower.Denom().Int64()), int(upper.Num().Int64()), int(upper.Denom().Int64())}
}

// unbalances returns the palindromes u of n letters for which a u a and b u b are
// factors, in the order of the alphabet.
func unbalances(w string, n int) []string {
	var found []string
	for i := range max(0, len(w)-n-1) {
		u := w[i+1 : i+1+n]
		if w[i] == 'a' && w[i+1+n] == 'a' && isSameBackwards(u) && strings.Contains(w, "b"+u+"b") {
			found = append(found, u)
		}
	}
	slices.Sort(found)
	return slices.Compact(found)
}

func plainUnbalance(w string) string {
	for n := range len(w) {
		if found := unbalances(w, n); len(found) > 0 {
			return "*" + found[0] + "*"
		}
	}
	return ""
}

func exchanged(w string) string { return strings.NewReplacer("a", "b", "b", "a").Replace(w) }

func checkBinary(t *testing.T, w string, want bool) {
	t.Helper()
	if got := impl.IsBinary(w); got != want {
		t.Errorf("IsBinary(%q) = %v", w, got)
	}
}

func checkSpread(t *testing.T, w string, n, least, greatest int) {
	t.Helper()
	if low, high := impl.SpreadOf(w, n); low != least || high != greatest {
		t.Errorf("SpreadOf(%q, %d) = %d, %d, want %d, %d", w, n, low, high, least, greatest)
	}
}

func checkBalanced(t *testing.T, w string, want bool) {
	t.Helper()
	if got := impl.IsBalanced(w); got != want {
		t.Errorf("IsBalanced(%q) = %v", w, got)
	}
}

func checkMechanical(t *testing.T, p, q, start, n int, want string, wantOk bool) {
	t.Helper()
	if got, ok := impl.MechanicalWord(p, q, start, n); got != want || ok != wantOk {
		t.Errorf("MechanicalWord(%d, %d, %d, %d) = %q, %v, want %q, %v", p, q, start, n, got, ok, want, wantOk)
	}
}

func checkChristoffel(t *testing.T, p, q int, want string, wantOk bool) {
	t.Helper()
	if got, ok := impl.ChristoffelWord(p, q); got != want || ok != wantOk {
		t.Errorf("ChristoffelWord(%d, %d) = %q, %v, want %q, %v", p, q, got, ok, want, wantOk)
	}
}

func checkSlopes(t *testing.T, w string, want slopes) {
	t.Helper()
	if got := slopesOf(w); got != want {
		t.Errorf("SlopesOf(%q) = %v, want %v", w, got, want)
	}
}

func checkCountBalanced(t *testing.T, n, want int) {
	t.Helper()
	if got := impl.CountBalanced(n); got != want {
		t.Errorf("CountBalanced(%d) = %d, want %d", n, got, want)
	}
}

func checkUnbalance(t *testing.T, w, want string) {
	t.Helper()
	if got := impl.FirstUnbalance(w); got != want {
		t.Errorf("FirstUnbalance(%q) = %q, want %q", w, got, want)
	}
}

func TestIsBinary(t *testing.T) {
	for _, w := range append(append(stringsUpTo("ab", 8), balanceWords()...), strings.Repeat("ab", 200), strings.Repeat("a", 400), strings.Repeat("b", 400)) {
		checkBinary(t, w, true)
	}
	for _, w := range balanceNoWords() {
		checkBinary(t, w, false)
	}
}

func TestIsBinaryAllBytes(t *testing.T) {
	for b := range 256 {
		x := string([]byte{byte(b)})
		for _, w := range []string{x, "a" + x, x + "b", "a" + x + "b", x + x, strings.Repeat("ab", 199) + "a" + x, x + strings.Repeat("ab", 199)} {
			checkBinary(t, w, x == "a" || x == "b")
		}
	}
	for _, w := range stringsUpTo(letters, 5) {
		checkBinary(t, w, !strings.ContainsAny(w, "cd"))
	}
}

func TestSpreadOf(t *testing.T) {
	as, bs := strings.Repeat("a", 400), strings.Repeat("b", 400)
	for _, c := range []struct {
		w                  string
		n, least, greatest int
	}{
		{"a", 1, 0, 0}, {"b", 1, 1, 1}, {"ab", 1, 0, 1}, {"ba", 1, 0, 1}, {"ab", 2, 1, 1}, {"bb", 2, 2, 2}, {"aabb", 1, 0, 1}, {"aabb", 2, 0, 2}, {"aabb", 3, 1, 2}, {"aabb", 4, 2, 2}, {"bbaa", 2, 0, 2}, {"bbaa", 3, 1, 2},
		{"abaab", 2, 0, 1}, {"abaab", 3, 1, 1}, {"abaab", 4, 1, 2}, {"abaab", 5, 2, 2}, {"abab", 2, 1, 1}, {"babab", 3, 1, 2}, {"abbb", 3, 2, 3}, {"bbba", 3, 2, 3}, {"baaab", 3, 0, 1}, {"aabaababbab", 5, 1, 3}, {"aaabbb", 3, 0, 3}, {"bbbaaa", 3, 0, 3}, {"bbbaaabbb", 3, 0, 3},
		{as, 1, 0, 0}, {as, 399, 0, 0}, {as, 400, 0, 0}, {bs, 1, 1, 1}, {bs, 399, 399, 399}, {bs, 400, 400, 400}, {as[1:] + "b", 400, 1, 1}, {as[1:] + "b", 399, 0, 1}, {"b" + as[1:], 399, 0, 1}, {as[:200] + bs[:200], 200, 0, 200}, {as[:200] + bs[:200], 201, 1, 200}, {bs[:200] + as[:200], 300, 100, 200}, {bs[:1] + as[:398] + bs[:1], 399, 1, 1}, {strings.Repeat("ab", 200), 200, 100, 100}, {strings.Repeat("ab", 200), 201, 100, 101},
		{"", 0, -1, -1}, {"", 1, -1, -1}, {"", 400, -1, -1}, {"", -1, -1, -1}, {"a", 0, -1, -1}, {"a", 2, -1, -1}, {"a", 400, -1, -1}, {"a", 401, -1, -1}, {"b", 0, -1, -1}, {"b", 2, -1, -1}, {"aabb", 5, -1, -1}, {"aabb", 0, -1, -1}, {"aabb", -1, -1, -1}, {"aabb", -4, -1, -1}, {"aabb", 400, -1, -1}, {"aabb", 401, -1, -1},
		{as, 0, -1, -1}, {as, 401, -1, -1}, {as, 402, -1, -1}, {as, -1, -1, -1}, {as, -400, -1, -1}, {bs, 401, -1, -1}, {bs, 0, -1, -1}, {as[1:], 400, -1, -1}, {bs[1:], 400, -1, -1}, {as[1:], 401, -1, -1},
	} {
		checkSpread(t, c.w, c.n, c.least, c.greatest)
	}
}

func TestSpreadOfAgrees(t *testing.T) {
	for _, w := range stringsUpTo("ab", 10) {
		for n := -2; n <= len(w)+2; n++ {
			least, greatest := plainSpread(w, n)
			checkSpread(t, w, n, least, greatest)
		}
	}
	for _, w := range balanceWords() {
		for _, n := range []int{1, 2, 3, 5, 11, 13, 30, 60, len(w) / 3, len(w)/2 - 1, len(w) / 2, len(w) - 2, len(w) - 1, len(w), len(w) + 1, 400, 401} {
			least, greatest := plainSpread(w, n)
			checkSpread(t, w, n, least, greatest)
		}
		for _, n := range append(farNumbers(), 0, -1, -len(w)) {
			checkSpread(t, w, n, -1, -1)
		}
	}
}

func TestIsBalanced(t *testing.T) {
	as := strings.Repeat("a", 400)
	fibonacci := plainFixed([]string{"ab", "a"}, "a", 400)
	for w, want := range map[string]bool{
		"": true, "a": true, "b": true, "aa": true, "bb": true, "ab": true, "ba": true, "aba": true, "bab": true, "aaab": true, "baaa": true, "abba": true, "baab": true, "abaab": true, "aabab": true, "ababb": true, "abababab": true, "aabaabab": true, "baaab": true, "abaabaab": true, "bbabbb": true,
		"aabb": false, "bbaa": false, "aaabb": false, "abbaa": false, "aaabab": false, "babaaa": false, "bbbaba": false, "ababbb": false, "aabbaabb": false, "baaabab": false, "babbaa": false, "aabaababab": false, "babaabaa": true, "bababaabaa": false, "aabaababbab": false, "abbabaab": false,
		as: true, as[1:] + "b": true, as[:200] + "b" + as[:199]: true, "b" + as[:398] + "b": true, as[:398] + "bb": false, "bb" + as[:398]: false, as[:100] + "b" + as[:99] + "b" + as[:100]: true, as[:100] + "b" + as[:99] + "b" + as[:99] + "b" + as[:98]: true, as[:101] + "b" + as[:99] + "b" + as[:100]: false, as[:100] + "b" + as[:99] + "b" + as[:101]: false, as[:100] + "b" + as[:99] + "b" + as[:98] + "b": false, as[:199] + "b" + as[:98] + "b" + as[:99]: false,
		fibonacci: true, backwards(fibonacci): true, fibonacci + "a": false, strings.Repeat("ab", 200): true, strings.Repeat("ab", 199) + "ba": true, strings.Repeat("ab", 198) + "baba": true, strings.Repeat("ab", 198) + "baab": false, strings.Repeat("ab", 198) + "bbaa": false, strings.Repeat("ab", 198) + "aabb": false, strings.Repeat("aab", 133) + "b": false, strings.Repeat("aab", 133) + "a": true,
	} {
		checkBalanced(t, w, want)
	}
}

// The shortest factors that differ by 2 have q letters; they stand at the two
// ends and nowhere else.
func TestUnbalanceAtTheEnds(t *testing.T) {
	for _, c := range [][3]int{{1, 2, 0}, {1, 2, 198}, {1, 3, 0}, {2, 3, 131}, {2, 5, 0}, {2, 5, 78}, {3, 8, 1}, {5, 13, 0}, {5, 13, 28}, {8, 13, 3}, {1, 50, 6}, {49, 50, 6}, {21, 55, 0}, {34, 55, 5}, {55, 89, 2}, {1, 100, 2}, {99, 100, 2}, {37, 100, 2}, {55, 144, 0}, {77, 200, 0}, {123, 200, 0}, {1, 200, 0}, {199, 200, 0}, {89, 199, 0}} {
		w := endsUnbalanced(c[0], c[1], c[2])
		last := len(w) - 1
		checkBalanced(t, w, false)
		checkBalanced(t, w[1:], true)
		checkBalanced(t, w[:last], true)
		checkBalanced(t, backwards(w), false)
		checkUnbalance(t, w, "*"+w[1:c[1]-1]+"*")
		checkUnbalance(t, backwards(w), "*"+w[1:c[1]-1]+"*")
		checkUnbalance(t, w[1:], "")
		checkUnbalance(t, w[:last], "")
		least, greatest := impl.SpreadOf(w, c[1])
		if least != c[0]-1 || greatest != c[0]+1 {
			t.Errorf("SpreadOf(%q, %d) = %d, %d", w, c[1], least, greatest)
		}
	}
}

func TestMechanicalWord(t *testing.T) {
	as, bs := strings.Repeat("a", 400), strings.Repeat("b", 400)
	for _, c := range []struct {
		p, q, start, n int
		want           string
	}{
		{2, 5, 0, 7, "aababaa"}, {2, 5, 1, 7, "abaabab"}, {2, 5, 2, 7, "ababaab"}, {2, 5, 3, 7, "baababa"}, {2, 5, 4, 7, "babaaba"}, {3, 5, 0, 5, "ababb"}, {3, 5, 2, 5, "babab"}, {3, 5, 4, 5, "bbaba"}, {1, 2, 0, 5, "ababa"}, {1, 2, 1, 5, "babab"}, {2, 4, 0, 6, "ababab"}, {2, 4, 1, 6, "ababab"}, {2, 4, 3, 6, "bababa"}, {4, 6, 1, 4, "abba"}, {1, 3, 0, 1, "a"}, {1, 3, 2, 1, "b"}, {1, 3, 1, 2, "ab"},
		{0, 1, 0, 3, "aaa"}, {1, 1, 0, 3, "bbb"}, {0, 5, 4, 3, "aaa"}, {0, 5, 0, 1, "a"}, {5, 5, 4, 3, "bbb"}, {5, 5, 0, 3, "bbb"}, {0, 100, 99, 2, "aa"}, {100, 100, 0, 2, "bb"}, {100, 100, 99, 2, "bb"}, {1, 100, 99, 3, "baa"}, {1, 100, 98, 3, "aba"}, {99, 100, 0, 4, "abbb"}, {99, 100, 1, 4, "babb"}, {99, 100, 99, 3, "bbb"}, {50, 100, 49, 4, "abab"}, {50, 100, 50, 4, "baba"},
		{2, 5, 0, 0, ""}, {0, 1, 0, 0, ""}, {100, 100, 99, 0, ""}, {0, 1, 0, 400, as}, {1, 1, 0, 400, bs}, {0, 100, 99, 400, as}, {100, 100, 99, 400, bs}, {1, 2, 0, 400, strings.Repeat("ab", 200)}, {1, 2, 1, 399, strings.Repeat("ba", 199) + "b"}, {2, 5, 0, 400, strings.Repeat("aabab", 80)}, {1, 100, 0, 400, strings.Repeat(as[:99]+"b", 4)}, {99, 100, 0, 400, strings.Repeat("a"+bs[:99], 4)}, {1, 100, 99, 400, strings.Repeat("b"+as[:99], 4)},
	} {
		checkMechanical(t, c.p, c.q, c.start, c.n, c.want, true)
	}
}

func TestMechanicalWordAgrees(t *testing.T) {
	for q := 1; q <= greatestQuotient; q++ {
		for p := range q + 1 {
			for start := range q {
				checkMechanical(t, p, q, start, 12, plainMechanical(p, q, start, 12), true)
			}
			for _, start := range []int{0, q / 3, q - 1} {
				checkMechanical(t, p, q, start, 400, plainMechanical(p, q, start, 400), true)
			}
		}
	}
	for n := range longestWord + 1 {
		checkMechanical(t, 34, 89, 55, n, plainMechanical(34, 89, 55, n), true)
	}
}

// Each argument is refused by itself, the others being as small, as great or as
// ordinary as they may be.
func TestMechanicalWordRefuses(t *testing.T) {
	for _, good := range [][4]int{{2, 5, 0, 7}, {2, 5, 4, 7}, {0, 1, 0, 0}, {1, 1, 0, 400}, {0, 100, 0, 400}, {100, 100, 99, 400}, {99, 100, 50, 1}, {3, 7, 3, 0}} {
		p, q, start, n := good[0], good[1], good[2], good[3]
		checkMechanical(t, p, q, start, n, plainMechanical(p, q, start, n), true)
		for _, bad := range append(farNumbers(), 0, -1, -2, -q, -100, -101, 101, 102, 200, p-1, start) {
			if bad < p || bad <= start || bad > greatestQuotient {
				checkMechanical(t, p, bad, start, n, "", false)
			}
		}
		for _, bad := range append(farNumbers(), -1, -2, -p-1, -q, q+1, q+2, 2*q+1, 101, 200) {
			checkMechanical(t, bad, q, start, n, "", false)
		}
		for _, bad := range append(farNumbers(), -1, -2, -q, q, q+1, 2*q, 100, 101) {
			checkMechanical(t, p, q, bad, n, "", false)
		}
		for _, bad := range append(farNumbers(), -1, -2, -400, 401, 402, 800) {
			checkMechanical(t, p, q, start, bad, "", false)
		}
	}
	for _, c := range [][4]int{{0, 0, 0, 0}, {0, 0, 0, 5}, {-1, -1, -1, -1}, {-1, -1, 0, 5}, {-3, -2, -3, 4}, {0, 101, 0, 5}, {101, 101, 100, 5}, {1, 101, 0, 400}, {6, 5, 0, 7}, {101, 100, 0, 7}, {2, 5, 5, 7}, {math.MinInt, math.MinInt, math.MinInt, math.MinInt}, {math.MaxInt, math.MaxInt, 0, 5}, {math.MaxInt, math.MaxInt, math.MaxInt, math.MaxInt}, {0, math.MinInt, 0, 5}, {math.MinInt, -1, 0, 5}} {
		checkMechanical(t, c[0], c[1], c[2], c[3], "", false)
	}
}

func TestChristoffelWord(t *testing.T) {
	as, bs := strings.Repeat("a", 400), strings.Repeat("b", 400)
	for _, c := range []struct {
		p, q int
		want string
	}{
		{0, 1, "a"}, {1, 2, "ab"}, {1, 3, "aab"}, {2, 3, "abb"}, {1, 4, "aaab"}, {3, 4, "abbb"}, {1, 5, "aaaab"}, {2, 5, "aabab"}, {3, 5, "ababb"}, {4, 5, "abbbb"}, {3, 7, "aababab"}, {4, 7, "abababb"}, {3, 8, "aabaabab"}, {5, 8, "ababbabb"}, {1, 100, as[:99] + "b"}, {99, 100, "a" + bs[:99]}, {1, 99, as[:98] + "b"}, {49, 99, "a" + strings.Repeat("ab", 49)}, {50, 99, strings.Repeat("ab", 49) + "b"}, {49, 100, as[:1] + strings.Repeat("ab", 24) + "a" + strings.Repeat("ab", 25)},
	} {
		checkChristoffel(t, c.p, c.q, c.want, true)
	}
	for _, c := range [][2]int{
		{2, 4}, {6, 9}, {4, 6}, {50, 100}, {98, 100}, {20, 95}, {33, 99}, {0, 2}, {0, 3}, {0, 100}, {0, 0}, {1, 1}, {2, 2}, {100, 100}, {1, 0}, {2, 0}, {2, 1}, {3, 2}, {5, 3}, {5, 2}, {100, 99}, {100, 1}, {101, 100},
		{1, 101}, {0, 101}, {50, 101}, {100, 101}, {101, 101}, {99, 200}, {1, 1000}, {-1, 1}, {-1, 2}, {-1, 0}, {-2, 5}, {-3, 5}, {-1, 100}, {-5, -3}, {-3, -2}, {-2, -1}, {-1, -1}, {1, -2}, {0, -1}, {2, -5}, {-2, -5}, {math.MinInt, 1}, {math.MinInt, 5}, {math.MinInt, -1}, {math.MinInt, math.MaxInt}, {1, math.MaxInt}, {math.MaxInt, 5}, {1, math.MinInt}, {math.MaxInt - 1, math.MaxInt}, {math.MinInt, math.MinInt + 1},
	} {
		checkChristoffel(t, c[0], c[1], "", false)
	}
}

func TestChristoffelWordAgrees(t *testing.T) {
	for q := -8; q <= greatestQuotient+8; q++ {
		for p := -8; p <= greatestQuotient+8; p++ {
			if p < 0 || p >= q || q > greatestQuotient || !areCoprime(p, q) {
				checkChristoffel(t, p, q, "", false)
				continue
			}
			checkChristoffel(t, p, q, plainMechanical(p, q, 0, q), true)
		}
		for _, far := range farNumbers() {
			checkChristoffel(t, far, q, "", false)
			checkChristoffel(t, q, far, "", false)
		}
	}
}

func TestSlopesOf(t *testing.T) {
	as, bs := strings.Repeat("a", 400), strings.Repeat("b", 400)
	for w, want := range map[string]slopes{
		"a": {-1, 1, 1, 1}, "aa": {-1, 2, 1, 2}, "aaa": {-1, 3, 1, 3}, "b": {0, 1, 2, 1}, "bb": {1, 2, 3, 2}, "bbb": {2, 3, 4, 3}, "ab": {0, 1, 1, 1}, "ba": {0, 1, 1, 1}, "aab": {0, 1, 1, 2}, "aba": {0, 1, 2, 3}, "abb": {1, 2, 1, 1}, "bab": {1, 3, 1, 1}, "aaab": {0, 1, 1, 3}, "abab": {1, 3, 2, 3}, "abaab": {1, 4, 1, 2}, "aabab": {1, 3, 1, 2}, "ababb": {1, 2, 2, 3}, "aabaab": {1, 4, 2, 5}, "ababab": {2, 5, 3, 5}, "abbabb": {3, 5, 3, 4},
		"aabb": {1, 2, 1, 2}, "bbaa": {1, 2, 1, 2}, "aaabb": {1, 2, 1, 3}, "aaaabbbb": {3, 4, 1, 4}, "aaabab": {1, 3, 1, 3}, "bbbaba": {2, 3, 2, 3}, "aabaababbab": {1, 2, 2, 5}, "aaaaaabbbbbb": {5, 6, 1, 6}, "aabbaabb": {1, 2, 1, 2}, "bababaabaa": {2, 5, 2, 5},
		as[:60]: {-1, 60, 1, 60}, bs[:60]: {59, 60, 61, 60}, as[:59]: {-1, 59, 1, 59}, bs[:59]: {58, 59, 60, 59}, as[:59] + "b": {0, 1, 1, 59}, as[:30] + bs[:30]: {29, 30, 1, 30}, strings.Repeat("ab", 30): {29, 59, 30, 59}, strings.Repeat("aab", 20): {19, 58, 20, 59}, as[:58] + "bb": {1, 2, 1, 58}, "b" + as[:58] + "b": {1, 60, 1, 58},
		"": {}, as[:61]: {}, bs[:61]: {}, as[:62]: {}, as: {}, bs: {}, strings.Repeat("ab", 30) + "a": {}, strings.Repeat("ab", 200): {}, as[:60] + "b": {}, "c": {}, "ac": {}, "abd": {}, "cab": {}, as[:59] + "c": {}, "d" + bs[:59]: {},
	} {
		checkSlopes(t, w, want)
	}
}

func TestSlopesOfAgrees(t *testing.T) {
	for _, w := range stringsUpTo("ab", 10)[1:] {
		checkSlopes(t, w, plainSlopes(w))
	}
	for _, w := range balanceWords() {
		for _, part := range []string{w, w[:min(len(w), longestSloped)], w[max(0, len(w)-longestSloped):], w[:min(len(w), longestSloped-1)], w[:len(w)/7+1]} {
			want := slopes{}
			if len(part) <= longestSloped {
				want = plainSlopes(part)
			}
			checkSlopes(t, part, want)
		}
	}
}

func TestCountBalanced(t *testing.T) {
	for n, want := range []int{1, 2, 4, 8, 14, 24, 36, 54, 76, 104, 136, 178, 224} {
		checkCountBalanced(t, n, want)
	}
	for _, n := range append(farNumbers(), -1, -2, -12, -13, longestBalanced+1, longestBalanced+2, 24, 60, 100, 400, 401, 1<<32+12) {
		checkCountBalanced(t, n, -1)
	}
}

func TestCountBalancedAgrees(t *testing.T) {
	numbers := make([]int, longestBalanced+1)
	for _, w := range stringsUpTo("ab", longestBalanced) {
		balanced := isEvenly(w)
		checkBalanced(t, w, balanced)
		if balanced {
			numbers[len(w)]++
		}
	}
	for n, want := range numbers {
		checkCountBalanced(t, n, want)
	}
}

func TestFirstUnbalance(t *testing.T) {
	as := strings.Repeat("a", 400)
	for w, want := range map[string]string{
		"": "", "a": "", "b": "", "aa": "", "ab": "", "ba": "", "bb": "", "aba": "", "abba": "", "baab": "", "abaab": "", "aabab": "", "baaab": "", "ababab": "", as: "", as[1:] + "b": "", strings.Repeat("ab", 200): "",
		"aabb": "**", "bbaa": "**", "aaabb": "**", "abbaa": "**", "aabaababbab": "**", "bbabaa": "**", "babbaa": "**", "aaabbb": "**", "aabbaabb": "**", as[:398] + "bb": "**", "bb" + as[:398]: "**", as[:200] + strings.Repeat("b", 200): "**", strings.Repeat("ab", 198) + "bbaa": "**",
		"aaabab": "*a*", "babaaa": "*a*", "baaabab": "*a*", "babaaabab": "*a*", as[:397] + "bab": "*a*", "bab" + as[:397]: "*a*", "bbbaba": "*b*", "ababbb": "*b*", "abbbaba": "*b*", "bbbbbaba": "*b*", "baabaaaa": "*aa*", "aaaabaab": "*aa*", "abbabbbb": "*bb*", "baaabaaaaa": "*aaa*",
		"aabaababab": "*aba*", "aabaabbabab": "**", "bababaabaa": "*aba*", "bbabbababa": "*bab*", "ababababbabb": "*bab*", "aaabaaabaabaab": "*aabaa*", "baabaabaaabaaa": "*aabaa*",
		as[:199] + "b" + as[:99] + "b" + as[:98] + "b": "*" + as[:98] + "*", as[:101] + "b" + as[:99] + "b" + as[:197] + "b": "*" + as[:99] + "*", as[:100] + "b" + as[:99] + "b" + as[:100]: "",
	} {
		checkUnbalance(t, w, want)
	}
}

// No two palindromes of the least length serve: before the first letter in which
// they differed, they would begin with a shorter one that serves.
func TestFirstUnbalanceAllShortWords(t *testing.T) {
	for _, w := range stringsUpTo("ab", 13) {
		want := plainUnbalance(w)
		checkUnbalance(t, w, want)
		if want != "" && len(unbalances(w, len(want)-2)) != 1 {
			t.Errorf("%q has the unbalances %q", w, unbalances(w, len(want)-2))
		}
	}
}

func TestBalanceFunctionsLongWords(t *testing.T) {
	for _, w := range balanceWords() {
		want := plainUnbalance(w)
		checkUnbalance(t, w, want)
		balanced := true
		for n := 1; n <= len(w); n++ {
			least, greatest := plainSpread(w, n)
			balanced = balanced && greatest-least <= 1
		}
		checkBalanced(t, w, balanced)
	}
}

func TestBalanceFunctionsRefuseWords(t *testing.T) {
	for _, w := range balanceNoWords() {
		checkBalanced(t, w, false)
		checkSlopes(t, w, slopes{})
		checkUnbalance(t, w, "")
		for _, n := range []int{-1, 0, 1, 2, 3, len(w) - 1, len(w), len(w) + 1, 400, 401} {
			checkSpread(t, w, n, -1, -1)
		}
	}
}

// That a word is balanced, SpreadOf, SlopesOf and FirstUnbalance say, too.
func TestBalanceFunctionsAgree(t *testing.T) {
	for _, w := range append(stringsUpTo("ab", 11)[1:], balanceWords()...) {
		balanced, evenly := impl.IsBalanced(w), true
		for n := 1; n <= len(w); n++ {
			least, greatest := impl.SpreadOf(w, n)
			evenly = evenly && greatest-least <= 1
		}
		u := impl.FirstUnbalance(w)
		if evenly != balanced || (u == "") != balanced {
			t.Errorf("IsBalanced(%q) = %v, FirstUnbalance %q", w, balanced, u)
		}
		if u != "" {
			u = strings.Trim(u, "*")
			if !impl.IsPalindrome(u) || !impl.IsFactor(w, "a"+u+"a") || !impl.IsFactor(w, "b"+u+"b") {
				t.Errorf("FirstUnbalance(%q) = %q", w, u)
			}
		}
		if s := slopesOf(w); len(w) <= longestSloped && (s[0]*s[3] < s[2]*s[1]) != balanced {
			t.Errorf("IsBalanced(%q) = %v, SlopesOf %v", w, balanced, s)
		}
	}
}

// Balance stays if the word is turned or a and b are exchanged.
func TestBalanceOfTurnedAndExchangedWords(t *testing.T) {
	for _, w := range append(stringsUpTo("ab", 10)[1:], balanceWords()...) {
		turned, other := impl.TurnWord(w), exchanged(w)
		balanced, u, s := impl.IsBalanced(w), impl.FirstUnbalance(w), slopesOf(w)
		checkBalanced(t, turned, balanced)
		checkBalanced(t, other, balanced)
		checkUnbalance(t, turned, u)
		checkUnbalance(t, other, exchanged(u))
		checkSlopes(t, turned, s)
		checkSlopes(t, other, slopes{s[3] - s[2], s[3], s[1] - s[0], s[1]})
		for _, n := range []int{1, 2, len(w) / 2, len(w) - 1, len(w)} {
			if n < 1 || n > len(w) {
				continue
			}
			least, greatest := impl.SpreadOf(w, n)
			checkSpread(t, turned, n, least, greatest)
			checkSpread(t, other, n, n-greatest, n-least)
		}
	}
}

// A mechanical word is balanced, its slopes lie on both sides of p / q, and each
// step of its start leaves out a letter.
func TestMechanicalWordsAreBalanced(t *testing.T) {
	for q := 1; q <= greatestQuotient; q++ {
		for p := range q + 1 {
			for _, start := range []int{0, q / 2, q - 1} {
				n := min(2*q+3, longestSloped)
				w, ok := impl.MechanicalWord(p, q, start, n)
				s := slopesOf(w)
				if !ok || !impl.IsBalanced(w) || s[0]*q >= p*s[1] || s[2]*q <= p*s[3] {
					t.Errorf("MechanicalWord(%d, %d, %d, %d) = %q, %v, SlopesOf %v", p, q, start, n, w, ok, s)
				}
				if impl.CountLetter(w, "b") != (start+n*p)/q {
					t.Errorf("MechanicalWord(%d, %d, %d, %d) = %q", p, q, start, n, w)
				}
				checkMechanical(t, p, q, (start+p)%q, n-1, w[1:], true)
			}
		}
	}
	for _, c := range [][3]int{{1, 100, 7}, {99, 100, 0}, {38, 99, 50}, {61, 97, 96}, {55, 89, 1}, {21, 34, 20}, {1, 2, 1}} {
		w, _ := impl.MechanicalWord(c[0], c[1], c[2], 400)
		checkBalanced(t, w, true)
		checkUnbalance(t, w, "")
	}
}

// Each balanced word is a mechanical one, for some numbers that are not much
// greater than its length.
func TestBalancedWordsAreMechanical(t *testing.T) {
	for n := range longestBalanced + 1 {
		found := map[string]bool{}
		for q := 1; q <= 2*n+1; q++ {
			for p := range q + 1 {
				for start := range q {
					w, _ := impl.MechanicalWord(p, q, start, n)
					found[w] = true
				}
			}
		}
		checkCountBalanced(t, n, len(found))
	}
}

func TestChristoffelWordsAreLyndon(t *testing.T) {
	for q := 1; q <= greatestQuotient; q++ {
		for p := range q {
			w, ok := impl.ChristoffelWord(p, q)
			if !ok {
				continue
			}
			if len(w) != q || impl.CountLetter(w, "b") != p || !impl.IsLyndon(w) || !impl.IsBalanced(w) || !impl.IsBalanced(w+w) || q > 1 && !impl.IsPalindrome(w[1:q-1]) {
				t.Errorf("ChristoffelWord(%d, %d) = %q", p, q, w)
			}
		}
	}
	for _, w := range stringsUpTo("ab", 12) {
		made, ok := impl.ChristoffelWord(strings.Count(w, "b"), len(w))
		if w != "b" && (ok && made == w) != (impl.IsLyndon(w) && impl.IsBalanced(w)) {
			t.Errorf("%q: IsLyndon %v, IsBalanced %v, ChristoffelWord %q", w, impl.IsLyndon(w), impl.IsBalanced(w), made)
		}
	}
}

func TestBalanceFunctionsRepeat(t *testing.T) {
	long := endsUnbalanced(77, 200, 0)
	for range 100 {
		checkBinary(t, "abba", true)
		checkBinary(t, "abc", false)
		checkSpread(t, "aabb", 2, 0, 2)
		checkSpread(t, "aabb", 5, -1, -1)
		checkBalanced(t, long, false)
		checkBalanced(t, long[1:], true)
		checkMechanical(t, 2, 5, 0, 7, "aababaa", true)
		checkMechanical(t, 6, 5, 0, 7, "", false)
		checkChristoffel(t, 2, 5, "aabab", true)
		checkChristoffel(t, 2, 4, "", false)
		checkSlopes(t, "aabab", slopes{1, 3, 1, 2})
		checkSlopes(t, "", slopes{})
		checkCountBalanced(t, 12, 224)
		checkCountBalanced(t, 13, -1)
		checkUnbalance(t, long, "*"+long[1:199]+"*")
		checkUnbalance(t, "abaab", "")
	}
}
