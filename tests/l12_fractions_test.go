package tests

import (
	"math"
	"math/big"
	"slices"
	"strings"
	"sync"
	"testing"

	"loop.example/g03209/impl"
)

const (
	greatestDivided = 100_000
	mostQuotients   = 20
	greatestInList  = 1000
	greatestPart    = 1_000_000_000
	mostInStandard  = 12
	mostTimes       = 100
	greatestInTree  = 400
	longestPath     = 400
)

// plainQuotients counts how often the lesser number can be taken away, for any
// numbers.
func plainQuotients(p, q int) []int {
	var quotients []int
	for q > 0 {
		times := 0
		for p >= q {
			p -= q
			times++
		}
		quotients = append(quotients, times)
		p, q = q, p
	}
	return quotients
}

// isListUpTo reports whether there are from 1 to most quotients up to greatest,
// the first one from 0 on and the others from 1 on.
func isListUpTo(quotients []int, most, greatest int) bool {
	if len(quotients) == 0 || len(quotients) > most || quotients[0] < 0 {
		return false
	}
	return slices.Max(quotients) <= greatest && (len(quotients) == 1 || slices.Min(quotients[1:]) >= 1)
}

// plainFractions returns the fractions of the first quotients, the first two
// and so on, in numbers without a bound.
func plainFractions(quotients []int) []*big.Rat {
	var fractions []*big.Rat
	for n := range quotients {
		fraction := new(big.Rat).SetInt64(int64(quotients[n]))
		for i := n - 1; i >= 0; i-- {
			fraction.Inv(fraction)
			fraction.Add(fraction, new(big.Rat).SetInt64(int64(quotients[i])))
		}
		fractions = append(fractions, fraction)
	}
	return fractions
}

// plainConvergents returns nil where FractionOf fails.
func plainConvergents(quotients []int) [][]int {
	if !isListUpTo(quotients, mostQuotients, greatestInList) {
		return nil
	}
	var rows [][]int
	bound := big.NewInt(greatestPart)
	for _, fraction := range plainFractions(quotients) {
		if fraction.Num().Cmp(bound) > 0 || fraction.Denom().Cmp(bound) > 0 {
			return nil
		}
		rows = append(rows, []int{int(fraction.Num().Int64()), int(fraction.Denom().Int64())})
	}
	return rows
}

// wordTimes puts a letter behind the other until all are there.
func wordTimes(u, v string, k int) string {
	var w []byte
	for range k {
		for i := range len(v) {
			w = append(w, v[i])
		}
	}
	return string(append(w, u...))
}

// plainCentral returns the central word of n letters that follows the slope
// p / (n + 2), for p coprime to n + 2.
func plainCentral(p, n int) string { return plainMechanical(p, n+2, 0, n+2)[1 : n+1] }

// standardSlope returns how many letters b the standard word of the quotients
// has, and how many letters at all.
func standardSlope(quotients []int) (*big.Int, *big.Int) {
	list := append([]int{0, quotients[0] + 1}, quotients[1:]...)
	fractions := plainFractions(list)
	last := fractions[len(fractions)-1]
	return last.Num(), last.Denom()
}

// plainStandard goes around a circle: a standard word is a central word and two
// different letters behind it, of which b is the last one each other time.
func plainStandard(quotients []int) (string, bool) {
	if !isListUpTo(quotients, mostInStandard, mostTimes) {
		return "", false
	}
	p, q := standardSlope(quotients)
	switch {
	case q.Cmp(big.NewInt(longestWord)) > 0:
		return "", false
	case q.Int64() == 1:
		return "b", true
	}
	w := plainCentral(int(p.Int64()), int(q.Int64())-2)
	if len(quotients)%2 == 1 {
		return w + "ab", true
	}
	return w + "ba", true
}

// hasOrPasses reports whether a number is a period or greater than the length.
func hasOrPasses(w string, p int) bool { return p > len(w) || hasPeriod(w, p) }

func plainIsCentral(w string) bool {
	if len(w) > longestWord || strings.Trim(w, "ab") != "" || !isSameBackwards(w) {
		return false
	}
	for p := 1; p <= len(w)+1; p++ {
		if q := len(w) + 2 - p; areCoprime(p, q) && hasOrPasses(w, p) && hasOrPasses(w, q) {
			return true
		}
	}
	return false
}

// plainPath keeps the two fractions between which it looks.
func plainPath(p, q int) string {
	path := ""
	lower, upper := [2]int{0, 1}, [2]int{1, 0}
	for {
		middle := [2]int{lower[0] + upper[0], lower[1] + upper[1]}
		switch here, there := p*middle[1], middle[0]*q; {
		case here < there:
			path, upper = path+"L", middle
		case here > there:
			path, lower = path+"R", middle
		default:
			return path
		}
	}
}

// plainFractionAt keeps them in numbers without a bound.
func plainFractionAt(path string) (int, int, bool) {
	if len(path) > longestPath || strings.Trim(path, "LR") != "" {
		return 0, 0, false
	}
	lower, upper := [2]*big.Int{big.NewInt(0), big.NewInt(1)}, [2]*big.Int{big.NewInt(1), big.NewInt(0)}
	middle := func() [2]*big.Int {
		return [2]*big.Int{new(big.Int).Add(lower[0], upper[0]), new(big.Int).Add(lower[1], upper[1])}
	}
	for i := range len(path) {
		if path[i] == 'L' {
			upper = middle()
		} else {
			lower = middle()
		}
	}
	p, q, bound := middle()[0], middle()[1], big.NewInt(greatestPart)
	if p.Cmp(bound) > 0 || q.Cmp(bound) > 0 {
		return 0, 0, false
	}
	return int(p.Int64()), int(q.Int64()), true
}

// mixedNumbers returns n numbers from 1 to greatest with no order that shows.
func mixedNumbers(seed uint32, greatest, n int) []int {
	numbers := make([]int, n)
	for i := range numbers {
		seed = seed*1664525 + 1013904223
		numbers[i] = 1 + int(seed>>8)%greatest
	}
	return numbers
}

// listsUpTo returns all lists of at most n of the numbers, the empty one, too.
func listsUpTo(numbers []int, n int) [][]int {
	all := [][]int{nil}
	level := all
	for range n {
		var next [][]int
		for _, list := range level {
			for _, number := range numbers {
				next = append(next, append(slices.Clone(list), number))
			}
		}
		all = append(all, next...)
		level = next
	}
	return all
}

// repeated returns first and then n times the number.
func repeated(number, n int, first ...int) []int {
	return append(first, slices.Repeat([]int{number}, n)...)
}

// goodLists returns lists that are allowed in FractionOf: short and long ones,
// with small and great quotients.
func goodLists() [][]int {
	return [][]int{{0}, {1}, {7}, {1000}, {0, 1}, {0, 1000}, {1, 1}, {1000, 1000}, {1, 2, 3}, {0, 1, 2, 3}, {3, 7, 15, 1}, {3, 7, 16}, {0, 2, 1, 1}, {999, 1, 999, 1000}, {1, 1000, 1, 1000},
		repeated(1, 19), repeated(1, 20), repeated(1, 19, 0), repeated(1, 19, 1000), repeated(2, 20), repeated(2, 19, 0), repeated(1, 18, 0, 1000), append(repeated(1, 19), 1000), {5, 4, 3, 2, 1, 2, 3, 4, 5}, {0, 9, 8, 7, 6, 5, 4, 3}}
}

// badInLists returns numbers that are no quotient of any list; some of them are
// if only their last bits are looked at.
func badInLists() []int {
	isGood := func(n int) bool { return n == greatestInList }
	return append(slices.DeleteFunc(farNumbers(), isGood), -1, -2, -7, -100, -999, -1001, 1001, 1002, 2000, 100_000, greatestPart, greatestPart+1, 1<<32+1000, 1<<32+100, 1<<33+7)
}

func checkQuotients(t *testing.T, p, q int, want []int) {
	t.Helper()
	if got := impl.QuotientsOf(p, q); !slices.Equal(got, want) {
		t.Errorf("QuotientsOf(%d, %d) = %v, want %v", p, q, got, want)
	}
}

// checkFraction gives numbers of 0 for a list that is refused.
func checkFraction(t *testing.T, quotients []int, p, q int) {
	t.Helper()
	gotP, gotQ, ok := impl.FractionOf(quotients)
	if gotP != p || gotQ != q || ok != (q != 0) {
		t.Errorf("FractionOf(%v) = %d, %d, %v, want %d, %d", quotients, gotP, gotQ, ok, p, q)
	}
}

func checkConvergents(t *testing.T, quotients []int, want [][]int) {
	t.Helper()
	if got := impl.ConvergentsOf(quotients); !sameRows(got, want) {
		t.Errorf("ConvergentsOf(%v) = %v, want %v", quotients, got, want)
	}
}

// checkList compares FractionOf and ConvergentsOf with the plain second versions
// and reports whether the list is allowed.
func checkList(t *testing.T, quotients []int) bool {
	t.Helper()
	rows := plainConvergents(quotients)
	checkConvergents(t, quotients, rows)
	if rows == nil {
		checkFraction(t, quotients, 0, 0)
		return false
	}
	last := rows[len(rows)-1]
	checkFraction(t, quotients, last[0], last[1])
	return true
}

func refuseList(t *testing.T, quotients []int) {
	t.Helper()
	checkFraction(t, quotients, 0, 0)
	checkConvergents(t, quotients, nil)
}

func checkStandard(t *testing.T, quotients []int, want string, wantOk bool) {
	t.Helper()
	if got, ok := impl.StandardWord(quotients); got != want || ok != wantOk {
		t.Errorf("StandardWord(%v) = %q, %v, want %q, %v", quotients, got, ok, want, wantOk)
	}
}

func checkPlainStandard(t *testing.T, quotients []int) bool {
	t.Helper()
	want, ok := plainStandard(quotients)
	checkStandard(t, quotients, want, ok)
	return ok
}

func checkNext(t *testing.T, u, v string, k int, want string, wantOk bool) {
	t.Helper()
	if got, ok := impl.NextStandard(u, v, k); got != want || ok != wantOk {
		t.Errorf("NextStandard(%q, %q, %d) = %q, %v, want %q, %v", u, v, k, got, ok, want, wantOk)
	}
}

func checkCentral(t *testing.T, w string, want bool) {
	t.Helper()
	if got := impl.IsCentral(w); got != want {
		t.Errorf("IsCentral(%q) = %v", w, got)
	}
}

func checkPath(t *testing.T, p, q int, want string) {
	t.Helper()
	if got := impl.PathOf(p, q); got != want {
		t.Errorf("PathOf(%d, %d) = %q, want %q", p, q, got, want)
	}
}

// checkFractionAt gives numbers of 0 for a path that is refused.
func checkFractionAt(t *testing.T, path string, p, q int) {
	t.Helper()
	gotP, gotQ, ok := impl.FractionAt(path)
	if gotP != p || gotQ != q || ok != (q != 0) {
		t.Errorf("FractionAt(%q) = %d, %d, %v, want %d, %d", path, gotP, gotQ, ok, p, q)
	}
}

func checkPlainFractionAt(t *testing.T, path string) bool {
	t.Helper()
	p, q, ok := plainFractionAt(path)
	checkFractionAt(t, path, p, q)
	return ok
}

func TestQuotientsOf(t *testing.T) {
	for _, c := range []struct {
		p, q int
		want []int
	}{
		{10, 7, []int{1, 2, 3}}, {7, 10, []int{0, 1, 2, 3}}, {43, 30, []int{1, 2, 3, 4}}, {355, 113, []int{3, 7, 16}}, {649, 200, []int{3, 4, 12, 4}}, {3, 2, []int{1, 2}}, {2, 3, []int{0, 1, 2}}, {1, 2, []int{0, 2}},
		{0, 1, []int{0}}, {0, 7, []int{0}}, {0, 100000, []int{0}}, {1, 1, []int{1}}, {7, 7, []int{1}}, {100000, 100000, []int{1}},
		{7, 1, []int{7}}, {12, 4, []int{3}}, {100000, 1, []int{100000}}, {100000, 4, []int{25000}}, {99999, 3, []int{33333}}, {4, 12, []int{0, 3}}, {1, 100000, []int{0, 100000}}, {50000, 100000, []int{0, 2}},
		{6, 4, []int{1, 2}}, {4, 6, []int{0, 1, 2}}, {20, 14, []int{1, 2, 3}}, {14, 20, []int{0, 1, 2, 3}}, {66666, 99999, []int{0, 1, 2}}, {99998, 6, []int{16666, 3}}, {60000, 84000, []int{0, 1, 2, 2}},
		{99999, 100000, []int{0, 1, 99999}}, {100000, 99999, []int{1, 99999}}, {100000, 3, []int{33333, 3}}, {3, 100000, []int{0, 33333, 3}}, {75025, 46368, append(repeated(1, 22), 2)}, {46368, 75025, append(repeated(1, 22, 0), 2)}, {92736, 57314, append(repeated(1, 21), 2)},
	} {
		checkQuotients(t, c.p, c.q, c.want)
	}
}

func TestQuotientsOfAgrees(t *testing.T) {
	for p := range 301 {
		for q := 1; q <= 300; q++ {
			checkQuotients(t, p, q, plainQuotients(p, q))
		}
	}
	for n := 1; n <= greatestDivided; n += 7 {
		for _, m := range []int{1 + n*382/1000, 61803, 46368, 99999, greatestDivided} {
			checkQuotients(t, n, m, plainQuotients(n, m))
			checkQuotients(t, m, n, plainQuotients(m, n))
		}
	}
}

// Each number is allowed for p and, if it is not 0, for q; the quotients make
// p / q again, and the last one is not 1 unless it is the only one: there is one
// such list.
func TestQuotientsOfEachNumber(t *testing.T) {
	for n := range greatestDivided + 1 {
		for _, pair := range [][2]int{{n, 1 + n*618/1000}, {n * 618 / 1000, n}, {n, 7}, {12, n}, {n, n}} {
			p, q := pair[0], pair[1]
			if q == 0 {
				continue
			}
			quotients := impl.QuotientsOf(p, q)
			k := len(quotients)
			if !isListUpTo(quotients, 30, greatestDivided) || k > 1 && quotients[k-1] == 1 {
				t.Fatalf("QuotientsOf(%d, %d) = %v", p, q, quotients)
			}
			numerator, denominator := 1, 0
			for i := k - 1; i >= 0; i-- {
				numerator, denominator = quotients[i]*numerator+denominator, numerator
			}
			if numerator*q != p*denominator {
				t.Fatalf("QuotientsOf(%d, %d) = %v, which is %d / %d", p, q, quotients, numerator, denominator)
			}
		}
	}
}

// Each argument is refused by itself, the other being as small, as great or as
// ordinary as it may be.
func TestQuotientsOfRefuses(t *testing.T) {
	isGood := func(n int) bool { return n > 0 && n <= greatestDivided }
	bad := append(slices.DeleteFunc(farNumbers(), isGood), -1, -2, -7, -99999, -100000, -100001, 100001, 100002, 200000, 1<<32+7, 1<<32+100000, greatestPart)
	for _, good := range []int{0, 1, 2, 3, 7, 100, 99999, 100000} {
		for _, far := range bad {
			checkQuotients(t, far, good, nil)
			checkQuotients(t, good, far, nil)
			checkQuotients(t, far, far, nil)
		}
		checkQuotients(t, good, 0, nil)
	}
	for _, far := range bad {
		checkQuotients(t, far, 0, nil)
	}
	checkQuotients(t, math.MinInt, -1, nil)
	checkQuotients(t, -10, -7, nil)
	checkQuotients(t, -14, 7, nil)
	checkQuotients(t, 14, -7, nil)
}

func TestFractionOf(t *testing.T) {
	for _, c := range []struct {
		quotients []int
		p, q      int
	}{
		{[]int{1, 2, 3}, 10, 7}, {[]int{0, 1, 2, 3}, 7, 10}, {[]int{1, 2, 2, 1}, 10, 7}, {[]int{3, 7, 16}, 355, 113}, {[]int{3, 7, 15, 1}, 355, 113}, {[]int{0, 2, 1, 1}, 2, 5}, {[]int{1, 1}, 2, 1}, {[]int{0, 1}, 1, 1}, {[]int{0, 1, 1}, 1, 2}, {[]int{2, 2}, 5, 2},
		{[]int{0}, 0, 1}, {[]int{1}, 1, 1}, {[]int{5}, 5, 1}, {[]int{999}, 999, 1}, {[]int{1000}, 1000, 1}, {[]int{1001}, 0, 0}, {[]int{-1}, 0, 0}, {nil, 0, 0}, {[]int{}, 0, 0},
		{[]int{0, 1000}, 1, 1000}, {[]int{1000, 1}, 1001, 1}, {[]int{1, 1000}, 1001, 1000}, {[]int{1000, 1000}, 1000001, 1000}, {[]int{1, 0}, 0, 0}, {[]int{0, 0}, 0, 0}, {[]int{1, 2, 0}, 0, 0}, {[]int{1, 0, 2}, 0, 0}, {[]int{0, 1001}, 0, 0}, {[]int{1, 1001, 1}, 0, 0}, {[]int{0, -1}, 0, 0}, {[]int{5, -1, 5}, 0, 0}, {[]int{1001, 1}, 0, 0}, {[]int{-1, 1}, 0, 0},
		{repeated(1, 19), 6765, 4181}, {repeated(1, 20), 10946, 6765}, {repeated(1, 21), 0, 0}, {repeated(1, 19, 0), 4181, 6765}, {repeated(1, 20, 0), 0, 0}, {repeated(2, 20), 38613965, 15994428}, {repeated(2, 21), 0, 0},
		{[]int{999, 1, 999, 1000}, 1000000000, 1000001}, {[]int{0, 999, 1, 999, 1000}, 1000001, 1000000000}, {[]int{924, 13, 895, 93}, 1000000000, 1082161}, {[]int{0, 924, 13, 895, 93}, 1082161, 1000000000}, {[]int{999, 1, 998, 500, 2}, 999999999, 1000001}, {[]int{0, 999, 1, 998, 500, 2}, 1000001, 999999999}, {[]int{1000, 1000, 999}, 999001999, 999001},
		{[]int{992, 58, 96, 181}, 0, 0}, {[]int{0, 992, 58, 96, 181}, 0, 0}, {[]int{999, 1, 1000, 499, 2}, 0, 0}, {[]int{0, 999, 1, 1000, 499, 2}, 0, 0}, {[]int{1000, 1000, 1000}, 0, 0}, {[]int{0, 1000, 1000, 1000}, 0, 0}, {[]int{1, 1000, 1000, 1000}, 0, 0}, {repeated(1000, 20), 0, 0}, {repeated(1000, 19, 0), 0, 0}, {repeated(3, 20), 0, 0},
	} {
		checkFraction(t, c.quotients, c.p, c.q)
	}
}

func TestConvergentsOf(t *testing.T) {
	for _, c := range []struct {
		quotients []int
		want      [][]int
	}{
		{[]int{1, 2, 3}, [][]int{{1, 1}, {3, 2}, {10, 7}}}, {[]int{0, 1, 2, 3}, [][]int{{0, 1}, {1, 1}, {2, 3}, {7, 10}}}, {[]int{3, 7, 15, 1}, [][]int{{3, 1}, {22, 7}, {333, 106}, {355, 113}}}, {[]int{0, 2, 1, 1}, [][]int{{0, 1}, {1, 2}, {1, 3}, {2, 5}}}, {[]int{1, 1, 1, 1}, [][]int{{1, 1}, {2, 1}, {3, 2}, {5, 3}}},
		{[]int{0}, [][]int{{0, 1}}}, {[]int{1}, [][]int{{1, 1}}}, {[]int{1000}, [][]int{{1000, 1}}}, {[]int{1001}, nil}, {[]int{-1}, nil}, {nil, nil}, {[]int{}, nil}, {[]int{0, 1}, [][]int{{0, 1}, {1, 1}}}, {[]int{0, 1000}, [][]int{{0, 1}, {1, 1000}}}, {[]int{1000, 1000}, [][]int{{1000, 1}, {1000001, 1000}}},
		{[]int{1, 0}, nil}, {[]int{0, 0}, nil}, {[]int{1, 2, 0}, nil}, {[]int{5, 4, 1001}, nil}, {[]int{5, 4, -1}, nil}, {[]int{-1, 4, 1}, nil}, {repeated(1, 21), nil}, {repeated(1, 20, 0), nil},
		{[]int{999, 1, 999, 1000}, [][]int{{999, 1}, {1000, 1}, {999999, 1000}, {1000000000, 1000001}}}, {[]int{0, 999, 1, 999, 1000}, [][]int{{0, 1}, {1, 999}, {1, 1000}, {1000, 999999}, {1000001, 1000000000}}},
		{[]int{992, 58, 96, 181}, nil}, {[]int{0, 992, 58, 96, 181}, nil}, {[]int{1000, 1000, 1000}, nil}, {[]int{0, 1000, 1000, 1000}, nil}, {[]int{1, 1, 1000, 1000, 1000, 1000, 1000}, nil},
	} {
		checkConvergents(t, c.quotients, c.want)
	}
	for n := 1; n <= mostQuotients; n++ {
		if got := impl.ConvergentsOf(repeated(1, n)); len(got) != n {
			t.Errorf("%d quotients 1: %v", n, got)
		}
	}
}

func TestListsAgree(t *testing.T) {
	for _, list := range append(goodLists(), listsUpTo([]int{-1, 0, 1, 2, 3, 1000, 1001}, 4)...) {
		checkList(t, list)
	}
	for _, list := range goodLists() {
		if !checkList(t, list) {
			t.Errorf("%v is refused", list)
		}
	}
	allowed, refused := 0, 0
	for seed := range uint32(300) {
		for _, greatest := range []int{1, 2, 3, 5, 9, 30, 100, 999, 1000, 1001} {
			for _, n := range []int{2, 3, 4, 7, 12, 19, 20, 21} {
				list := mixedNumbers(seed, greatest, n)
				list[0] -= int(seed % 2)
				if checkList(t, list) {
					allowed++
				} else {
					refused++
				}
			}
		}
	}
	if allowed < 1000 || refused < 1000 {
		t.Errorf("%d lists are allowed, %d refused", allowed, refused)
	}
}

// Numbers of exactly 10 to the power of 9 are allowed, and the next ones are
// not, as a numerator as well as as a denominator. The beginnings of the lists
// are allowed always.
func TestListsAtTheBound(t *testing.T) {
	for _, p := range []int{greatestPart - 1, greatestPart, greatestPart + 1, greatestPart + 2} {
		met := 0
		for _, near := range []int{1_000_000, 1_234_567, 98_765_432, 381_966_011, 618_033_988, 999_000_000} {
			for q := near; q < near+300; q++ {
				list := plainQuotients(p, q)
				if !isListUpTo(list, mostQuotients-1, greatestInList) || !areCoprime(p, q) {
					continue
				}
				met++
				upside := append([]int{0}, list...)
				if p > greatestPart {
					refuseList(t, list)
					refuseList(t, upside)
				} else {
					checkFraction(t, list, p, q)
					checkFraction(t, upside, q, p)
				}
				checkList(t, list)
				checkList(t, upside)
				if !checkList(t, list[:len(list)-1]) || !checkList(t, upside[:len(list)]) {
					t.Errorf("the beginning of %v is refused", list)
				}
			}
		}
		if met < 100 {
			t.Errorf("%d lists make %d", met, p)
		}
	}
}

// As soon as the fraction of a beginning fails, so does that of the whole list,
// however great its numbers would be without a bound.
func TestListsBehindTheBound(t *testing.T) {
	for _, k := range []int{3, 4, 7, 10, 32, 100, 512, 999, 1000} {
		for first := range 2 {
			failed := false
			for n := range mostQuotients {
				list := repeated(k, n, first)
				ok := checkList(t, list)
				if failed && ok {
					t.Errorf("%v is allowed", list)
				}
				failed = failed || !ok
			}
			if !failed {
				t.Errorf("no list of quotients %d failed", k)
			}
		}
	}
}

// Each quotient is refused by itself, wherever it stands.
func TestListsRefuseQuotients(t *testing.T) {
	for _, good := range goodLists() {
		for i := range good {
			list := slices.Clone(good)
			for _, bad := range badInLists() {
				list[i] = bad
				refuseList(t, list)
			}
			for _, edge := range []int{0, 1, 2, 999, 1000} {
				list[i] = edge
				checkList(t, list)
				if edge == 0 && i > 0 {
					refuseList(t, list)
				}
			}
		}
		for n := len(good) + 1; n <= 45; n++ {
			list := append(slices.Clone(good), slices.Repeat([]int{1}, n-len(good))...)
			checkList(t, list)
			if n > mostQuotients {
				refuseList(t, list)
			}
		}
	}
	refuseList(t, nil)
	refuseList(t, []int{})
	refuseList(t, make([]int, 0, 5))
	refuseList(t, make([]int, 20))
	refuseList(t, make([]int, 400))
	refuseList(t, repeated(1, 100_000))
	refuseList(t, repeated(math.MaxInt, 20))
	refuseList(t, repeated(math.MinInt, 20))
}

func TestStandardWord(t *testing.T) {
	as, bs := strings.Repeat("a", 400), strings.Repeat("b", 400)
	for _, c := range []struct {
		quotients []int
		want      string
	}{
		{[]int{0}, "b"}, {[]int{1}, "ab"}, {[]int{2}, "aab"}, {[]int{5}, "aaaaab"}, {[]int{99}, as[:99] + "b"}, {[]int{100}, as[:100] + "b"},
		{[]int{0, 1}, "ba"}, {[]int{0, 2}, "bba"}, {[]int{0, 100}, bs[:100] + "a"}, {[]int{1, 1}, "aba"}, {[]int{1, 2}, "ababa"}, {[]int{2, 1}, "aaba"}, {[]int{2, 2}, "aabaaba"}, {[]int{1, 100}, strings.Repeat("ab", 100) + "a"}, {[]int{100, 1}, as[:100] + "ba"},
		{[]int{1, 1, 1}, "abaab"}, {[]int{0, 1, 1}, "bab"}, {[]int{0, 2, 1}, "bbab"}, {[]int{0, 1, 2}, "babab"}, {[]int{1, 1, 2}, "abaabaab"}, {[]int{1, 2, 1}, "ababaab"}, {[]int{2, 1, 1}, "aabaaab"}, {[]int{1, 2, 3}, "ababaababaababaab"}, {[]int{1, 1, 1, 1}, "abaababa"}, {[]int{0, 1, 1, 1}, "babba"},
		{repeated(1, 11), plainFixed([]string{"ab", "a"}, "a", 231) + "ab"}, {repeated(1, 12), plainFixed([]string{"ab", "a"}, "a", 375) + "ba"}, {[]int{0, 1, 1, 1, 1, 1}, "babbababbabba"},
		{[]int{56, 7}, strings.Repeat(as[:56]+"b", 7) + "a"}, {[]int{6, 57}, strings.Repeat("aaaaaab", 57) + "a"}, {[]int{0, 6, 57}, strings.Repeat("bbbbbba", 57) + "b"}, {[]int{2, 1, 99}, strings.Repeat("aaba", 99) + "aab"}, {[]int{3, 99}, strings.Repeat("aaab", 99) + "a"}, {[]int{99, 3}, strings.Repeat(as[:99]+"b", 3) + "a"}, {[]int{100, 3}, strings.Repeat(as[:100]+"b", 3) + "a"},
	} {
		checkStandard(t, c.quotients, c.want, true)
	}
	for _, quotients := range [][]int{
		nil, {}, {-1}, {101}, {0, 0}, {1, 0}, {1, -1}, {1, 101}, {0, 101}, {0, 1, 0}, {1, 0, 1}, {1, 1, 101}, {-1, 1}, {101, 1},
		{3, 100}, {4, 80}, {7, 50}, {15, 25}, {1, 2, 80}, {100, 4}, {100, 100}, {0, 4, 100}, {0, 100, 4}, {2, 2, 57, 1}, {100, 100, 100}, {56, 7, 1}, {6, 57, 100}, repeated(100, 12), repeated(100, 11, 0), repeated(2, 12), repeated(1, 11, 2),
		repeated(1, 13), repeated(1, 12, 0), repeated(1, 100), repeated(1, 10_000),
	} {
		checkStandard(t, quotients, "", false)
	}
}

func TestStandardWordAgrees(t *testing.T) {
	for _, list := range append(listsUpTo([]int{-1, 0, 1, 2, 3, 99, 100, 101}, 4), listsUpTo([]int{0, 1, 2, 3}, 7)...) {
		checkPlainStandard(t, list)
	}
	for _, list := range listsUpTo([]int{1, 2}, 12) {
		checkPlainStandard(t, list)
		checkPlainStandard(t, append([]int{0}, list...))
	}
	for k := range 104 {
		for i := range 104 {
			checkPlainStandard(t, []int{k})
			checkPlainStandard(t, []int{k, i})
			checkPlainStandard(t, []int{0, k, i})
			checkPlainStandard(t, []int{1, k, i})
		}
	}
	for seed := range uint32(200) {
		for _, greatest := range []int{2, 3, 7, 30} {
			for n := 2; n <= 14; n++ {
				list := mixedNumbers(seed, greatest, n)
				list[0] -= int(seed % 2)
				checkPlainStandard(t, list)
			}
		}
	}
}

// For each number of letters near the bound, all quotients with that many are
// taken.
func TestStandardWordAtTheBound(t *testing.T) {
	for q := longestWord - 3; q <= longestWord+3; q++ {
		met := 0
		for p := 1; p < q; p++ {
			list := plainQuotients(p, q)[1:]
			list[0]--
			if !areCoprime(p, q) || !isListUpTo(list, mostInStandard, mostTimes) {
				continue
			}
			met++
			got, ok := impl.StandardWord(list)
			if ok != (q <= longestWord) || ok && len(got) != q || !ok && got != "" {
				t.Errorf("StandardWord(%v) = %q, %v, but has %d letters", list, got, ok, q)
			}
			checkPlainStandard(t, list)
			checkPlainStandard(t, list[:max(1, len(list)-1)])
		}
		if met < 20 {
			t.Errorf("%d lists make %d letters", met, q)
		}
	}
}

// Each quotient is refused by itself, wherever it stands.
func TestStandardWordRefusesQuotients(t *testing.T) {
	for _, good := range [][]int{{0}, {1}, {100}, {0, 1}, {3, 2}, {0, 100}, {1, 100}, {1, 1, 1}, {0, 2, 1}, {2, 1, 99}, {1, 1, 1, 1, 1, 1}, repeated(1, 11), repeated(1, 12), repeated(1, 11, 0)} {
		if !checkPlainStandard(t, good) {
			t.Errorf("%v is refused", good)
		}
		for i := range good {
			list := slices.Clone(good)
			for _, bad := range append(badInLists(), 101, 102, 200, 256, 999, 1000) {
				list[i] = bad
				checkStandard(t, list, "", false)
			}
			for _, edge := range []int{0, 1, 2, 99, 100} {
				list[i] = edge
				checkPlainStandard(t, list)
				if edge == 0 && i > 0 {
					checkStandard(t, list, "", false)
				}
			}
		}
	}
}

func TestNextStandard(t *testing.T) {
	as, four := strings.Repeat("a", 400), strings.Repeat("abcd", 100)
	for _, c := range []struct {
		u, v string
		k    int
		want string
	}{
		{"b", "a", 2, "aab"}, {"b", "a", 0, "b"}, {"b", "a", 1, "ab"}, {"b", "a", 99, as[:99] + "b"}, {"b", "a", 100, as[:100] + "b"}, {"a", "aab", 2, "aabaaba"}, {"ab", "ba", 1, "baab"}, {"aab", "cd", 3, "cdcdcdaab"}, {"d", "c", 1, "cd"}, {"dcba", "abcd", 1, "abcddcba"},
		{"", "", 0, ""}, {"", "", 1, ""}, {"", "", 100, ""}, {"", "ab", 0, ""}, {"", "ab", 1, "ab"}, {"", "ab", 3, "ababab"}, {"ab", "", 0, "ab"}, {"ab", "", 1, "ab"}, {"ab", "", 100, "ab"}, {"", as, 1, as}, {"", as, 0, ""}, {as, "", 100, as}, {as, "", 1, as}, {as, "ab", 0, as}, {as, as, 0, as}, {four, "d", 0, four}, {"b", as, 0, "b"},
		{"", "abcd", 100, four}, {"abcd", "abcd", 99, four}, {as[:399], "b", 1, "b" + as[:399]}, {"b", as[:399], 1, as[:399] + "b"}, {as[:200], as[:200], 1, as}, {as[:300], "b", 100, strings.Repeat("b", 100) + as[:300]}, {as[:100], "abc", 100, strings.Repeat("abc", 100) + as[:100]}, {"", as[:200], 2, as}, {"a", as[:133], 3, as}, {"", as[:4], 100, as}, {as[:298], "b", 100, strings.Repeat("b", 100) + as[:298]},
	} {
		checkNext(t, c.u, c.v, c.k, c.want, true)
	}
	for _, c := range []struct {
		u, v string
		k    int
	}{
		{"a", "abcd", 100}, {"abcda", "abcd", 99}, {as, "b", 1}, {"b", as, 1}, {as[:399], "bb", 1}, {as[:200], as[:201], 1}, {as[:201], as[:200], 1}, {as[:301], "b", 100}, {as[:101], "abc", 100}, {"", as, 2}, {"", as[:201], 2}, {"", "abcda", 100}, {"bb", as[:133], 3}, {as, as, 1}, {as, as, 100}, {"", as, 100}, {as, "a", 100},
		{"b", "a", -1}, {"b", "a", 101}, {"b", "", 101}, {"", "", -1}, {"", "", 101}, {"", "a", -1}, {"", "a", 102}, {as, "", 101}, {as, "", -1}, {"b", "a", -100},
		{as + "a", "", 0}, {as + "a", "a", 0}, {"b", as + "a", 0}, {"", as + "b", 1}, {as + "b", "", 1}, {"e", "a", 0}, {"e", "a", 1}, {"b", "e", 0}, {"b", "e", 1}, {"b", "aE", 0}, {"", "x", 0}, {"x", "", 0},
	} {
		checkNext(t, c.u, c.v, c.k, "", false)
	}
}

func TestNextStandardAgrees(t *testing.T) {
	words := append(stringsUpTo("abd", 2), strings.Repeat("a", 99), strings.Repeat("cb", 50), strings.Repeat("dca", 66)+"b", strings.Repeat("abcd", 50), strings.Repeat("dcb", 67), strings.Repeat("a", 399), strings.Repeat("abcd", 100))
	for _, u := range words {
		for _, v := range words {
			for k := range 101 {
				want := wordTimes(u, v, k)
				if len(want) > longestWord {
					checkNext(t, u, v, k, "", false)
				} else {
					checkNext(t, u, v, k, want, true)
				}
			}
		}
	}
}

// Each argument is refused by itself, the others being as small, as great or as
// ordinary as they may be.
func TestNextStandardRefuses(t *testing.T) {
	for _, bad := range append(farNumbers(), -1, -2, -99, -100, -101, 101, 102, 200, 400, 1<<32+100) {
		for _, good := range [][2]string{{"b", "a"}, {"", ""}, {"ab", ""}, {"", "ab"}, {strings.Repeat("a", 400), ""}, {"cd", "dc"}} {
			checkNext(t, good[0], good[1], bad, "", false)
		}
	}
	for _, bad := range noWords() {
		for _, good := range []string{"", "a", "cd", strings.Repeat("a", 399)} {
			for _, k := range []int{0, 1, 2, 100} {
				checkNext(t, bad, good, k, "", false)
				checkNext(t, good, bad, k, "", false)
			}
		}
		checkNext(t, bad, bad, 0, "", false)
	}
}

func TestIsCentral(t *testing.T) {
	as, bs := strings.Repeat("a", 400), strings.Repeat("b", 400)
	for _, w := range []string{
		"", "a", "b", "aa", "bb", "aaa", "bbb", "aaaa", "bbbbbbb", as, bs, as[:399], bs[:399], as[:60], bs[:61],
		"aba", "bab", "ababa", "babab", "aabaa", "bbabb", "abaaba", "babbab", "aaabaaa", "aabaabaa", "abaabaaba", "aabaaabaa", "bababbabab", "abaababaaba", "bababab", strings.Repeat("ab", 199) + "a", strings.Repeat("ba", 198) + "b", as[:199] + "b" + as[:199], as[:132] + "b" + as[:132] + "b" + as[:132], bs[:131] + "a" + bs[:131] + "a" + bs[:131], plainCentral(179, 400), plainCentral(155, 399),
	} {
		checkCentral(t, w, true)
	}
	for _, w := range []string{
		"abba", "baab", "abbba", "baaab", "aabbaa", "abaaaba", "abbabba", "aababaa", "bbababb", "aaabbbaaa", "bbaabb", "abbaabba", "abaabbaaba", "aabaabbaabaa", "aabaabaaaabaabaa", as[:198] + "bb" + as[:198], as[:199] + "bb" + as[:199], "b" + as[:398] + "b", "b" + as[:397] + "b", "b" + as[:10] + "b", as[:100] + "b" + as[:99] + "b" + as[:100],
		"ab", "ba", "aab", "abb", "abaab", "aabab", "ababab", as[:399] + "b", "b" + as[:399], as[:200] + bs[:200], strings.Repeat("ab", 200), "abaabb",
		"c", "d", "cc", "aca", "cac", "bcb", "dd", "cdc", "dcd", "aacaa", "abcba", "acbca", "e", "aea", "A", "ABA", "aBa", " ", "a a", "0", as[:199] + "c" + as[:199], as + "a", bs + "b", as + bs, as[:200] + "b" + as[:200], plainCentral(179, 401), plainCentral(181, 402), strings.Repeat("ab", 200) + "a",
	} {
		checkCentral(t, w, false)
	}
}

// As many words of n letters are central as numbers up to n + 2 are coprime to
// n + 2.
func TestIsCentralAllShortWords(t *testing.T) {
	numbers := make([]int, 15)
	for _, w := range stringsUpTo("ab", 14) {
		central := plainIsCentral(w)
		checkCentral(t, w, central)
		if central {
			numbers[len(w)]++
		}
	}
	for n, number := range numbers {
		coprime := 0
		for p := 1; p <= n+2; p++ {
			if areCoprime(p, n+2) {
				coprime++
			}
		}
		if number != coprime {
			t.Errorf("%d words of %d letters are central, want %d", number, n, coprime)
		}
	}
	for _, w := range append(stringsUpTo("abc", 8), stringsUpTo(letters, 6)...) {
		checkCentral(t, w, plainIsCentral(w))
	}
}

func TestIsCentralLongWords(t *testing.T) {
	for _, n := range []int{13, 58, 59, 60, 61, 255, 256, 397, 398, 399, 400, 401, 402} {
		for p := 1; p < n+2; p++ {
			if !areCoprime(p, n+2) {
				continue
			}
			w := plainCentral(p, n)
			checkCentral(t, w, n <= longestWord)
			if p%7 == 1 {
				middle, end := exchanged(w[n/2:n/2+1]), exchanged(w[:1])
				for _, other := range []string{w[:n-1], w[1:], w + "a", "b" + w, w[:n/2] + middle + w[n/2+1:], end + w[1:n-1] + end, end + w[1:], w[:n-1] + end, "a" + w + "a", "b" + w + "b", w + w, w[:n/3] + "c" + w[n/3+1:]} {
					checkCentral(t, other, plainIsCentral(other))
				}
			}
		}
	}
	for _, w := range append(balanceWords(), palindromeWords()...) {
		checkCentral(t, w, plainIsCentral(w))
		if both := w + backwards(w); len(both) <= longestWord {
			checkCentral(t, both, plainIsCentral(both))
		}
	}
}

func TestIsCentralRefusesWords(t *testing.T) {
	for _, w := range append(balanceNoWords(), noWords()...) {
		checkCentral(t, w, false)
		checkCentral(t, w+backwards(w), false)
	}
}

func TestPathOf(t *testing.T) {
	ls, rs := strings.Repeat("L", 400), strings.Repeat("R", 400)
	for _, c := range []struct {
		p, q int
		want string
	}{
		{3, 7, "LLRR"}, {7, 3, "RRLL"}, {2, 3, "LR"}, {3, 2, "RL"}, {3, 5, "LRL"}, {5, 3, "RLR"}, {2, 5, "LLR"}, {5, 2, "RRL"}, {1, 2, "L"}, {2, 1, "R"}, {1, 3, "LL"}, {3, 1, "RR"}, {355, 113, "RRRLLLLLLLRRRRRRRRRRRRRRR"}, {89, 144, "LRLRLRLRLR"},
		{1, 1, ""}, {1, 400, ls[:399]}, {400, 1, rs[:399]}, {1, 399, ls[:398]}, {399, 400, "L" + rs[:398]}, {400, 399, "R" + ls[:398]}, {399, 2, rs[:199] + "L"}, {2, 399, ls[:199] + "R"}, {200, 399, "L" + "R" + ls[:198]},
		{2, 2, ""}, {2, 4, ""}, {4, 2, ""}, {6, 9, ""}, {3, 3, ""}, {400, 400, ""}, {200, 400, ""}, {400, 2, ""}, {399, 399, ""}, {399, 133, ""}, {399, 21, ""},
		{0, 1, ""}, {1, 0, ""}, {0, 0, ""}, {0, 5, ""}, {5, 0, ""}, {1, 401, ""}, {401, 1, ""}, {2, 401, ""}, {401, 400, ""}, {400, 401, ""}, {401, 401, ""}, {-1, 1, ""}, {1, -1, ""}, {-1, -1, ""}, {-3, 7, ""}, {3, -7, ""}, {-3, -7, ""}, {7, 10001, ""},
	} {
		checkPath(t, c.p, c.q, c.want)
	}
}

func TestPathOfAgrees(t *testing.T) {
	for p := -3; p <= greatestInTree+3; p++ {
		for q := -3; q <= greatestInTree+3; q++ {
			if p < 1 || q < 1 || p > greatestInTree || q > greatestInTree || !areCoprime(p, q) {
				checkPath(t, p, q, "")
				continue
			}
			checkPath(t, p, q, plainPath(p, q))
		}
		for _, far := range append(farNumbers(), 401, 402, 500, 799, 801, -400, 1<<32+400, 1<<32+399) {
			checkPath(t, p, far, "")
			checkPath(t, far, p, "")
		}
	}
}

func TestFractionAt(t *testing.T) {
	ls, rs, both := strings.Repeat("L", 401), strings.Repeat("R", 401), strings.Repeat("LR", 200)
	for _, c := range []struct {
		path string
		p, q int
	}{
		{"", 1, 1}, {"L", 1, 2}, {"R", 2, 1}, {"LL", 1, 3}, {"LR", 2, 3}, {"RL", 3, 2}, {"RR", 3, 1}, {"LLRR", 3, 7}, {"RRLL", 7, 3}, {"LRL", 3, 5}, {"RLR", 5, 3}, {"LRLRLRLRLR", 89, 144}, {"RRRLLLLLLLRRRRRRRRRRRRRRR", 355, 113},
		{ls[:399], 1, 400}, {rs[:399], 400, 1}, {ls[:400], 1, 401}, {rs[:400], 401, 1}, {ls, 0, 0}, {rs, 0, 0}, {ls[:200] + rs[:200], 201, 40201}, {rs[:399] + "L", 799, 2}, {rs[:400] + "L", 0, 0}, {"L" + ls[:399], 1, 401},
		{both[:41], 267914296, 433494437}, {both[:42], 433494437, 701408733}, {both[1:43], 701408733, 433494437}, {both[:43], 0, 0}, {both[1:44], 0, 0}, {both, 0, 0}, {both[1:], 0, 0}, {both[:399], 0, 0}, {both[:90], 0, 0}, {both[:91], 0, 0}, {both[:92], 0, 0}, {both[:93], 0, 0},
		{"l", 0, 0}, {"r", 0, 0}, {"LRl", 0, 0}, {"a", 0, 0}, {"X", 0, 0}, {" ", 0, 0}, {"L R", 0, 0}, {"LR ", 0, 0}, {"M", 0, 0}, {"K", 0, 0}, {"Q", 0, 0}, {"S", 0, 0}, {"LXR", 0, 0}, {both + "X", 0, 0}, {both[:399] + "X", 0, 0}, {"X" + ls[:399], 0, 0}, {"\u014c", 0, 0}, {"\u0152", 0, 0}, {"L\u014cR", 0, 0}, {"\x00", 0, 0}, {"L\xff", 0, 0}, {"\xccL", 0, 0},
	} {
		checkFractionAt(t, c.path, c.p, c.q)
	}
}

func TestFractionAtAgrees(t *testing.T) {
	for _, path := range append(stringsUpTo("LR", 12), stringsUpTo("LRX", 6)...) {
		checkPlainFractionAt(t, path)
	}
	allowed, refused := 0, 0
	for seed := range uint32(60) {
		for _, n := range []int{13, 20, 30, 40, 41, 42, 43, 44, 45, 60, 64, 90, 399, 400, 401} {
			path := strings.NewReplacer("a", "L", "b", "R").Replace(mixedWord(seed, 2, n))
			if checkPlainFractionAt(t, path) {
				allowed++
			} else {
				refused++
			}
		}
	}
	if allowed < 100 || refused < 100 {
		t.Errorf("%d paths are allowed, %d refused", allowed, refused)
	}
	for n := range longestPath + 4 {
		for _, part := range []string{"L", "R", "LR", "RL", "LLR", "RRRRL", strings.Repeat("L", 60) + "R"} {
			checkPlainFractionAt(t, strings.Repeat(part, n)[:n])
		}
	}
}

// Numbers of exactly 10 to the power of 9 are allowed, and the next ones are
// not, as a numerator as well as as a denominator.
func TestFractionAtTheBound(t *testing.T) {
	for _, p := range []int{greatestPart - 1, greatestPart, greatestPart + 1, greatestPart + 2} {
		met := 0
		for _, near := range []int{123_456_789, 381_966_011, 618_033_988, 707_106_781} {
			for q := near; q < near+60; q++ {
				turns := plainQuotients(p, q)
				if !areCoprime(p, q) || sumOf(turns) > longestPath+1 {
					continue
				}
				met++
				turns[len(turns)-1]--
				path := ""
				for i, k := range turns {
					path += strings.Repeat("RL"[i%2:i%2+1], k)
				}
				if upside := strings.NewReplacer("L", "R", "R", "L").Replace(path); p > greatestPart {
					checkFractionAt(t, path, 0, 0)
					checkFractionAt(t, upside, 0, 0)
				} else {
					checkFractionAt(t, path, p, q)
					checkFractionAt(t, upside, q, p)
				}
			}
		}
		if met < 40 {
			t.Errorf("%d paths lead to %d", met, p)
		}
	}
}

// No sign but L and R is a turn, wherever it stands.
func TestFractionAtRefusesSigns(t *testing.T) {
	for _, good := range []string{"", "L", "R", "LR", "LLRR", strings.Repeat("L", 399), strings.Repeat("R", 398) + "L"} {
		if !checkPlainFractionAt(t, good) {
			t.Errorf("%q is refused", good)
		}
		for i := range len(good) + 1 {
			for _, x := range append([]string{"l", "r", "X", "LRl", "\u014c", "\u0152", "\u2c4c"}, outsiders...) {
				checkFractionAt(t, good[:i]+x+good[i:], 0, 0)
			}
		}
	}
	for x := range 256 {
		sign := string([]byte{byte(x)})
		for _, path := range []string{sign, "LR" + sign, sign + "LR", "L" + sign + "R"} {
			checkPlainFractionAt(t, path)
			if sign != "L" && sign != "R" {
				checkFractionAt(t, path, 0, 0)
			}
		}
	}
	for _, path := range []string{strings.Repeat("L", 100_000), strings.Repeat("LR", 201), strings.Repeat("L", 401), strings.Repeat("X", 401), strings.Repeat("X", 5000)} {
		checkFractionAt(t, path, 0, 0)
	}
}

// The quotients of a fraction make the fraction again, without what divides both
// numbers.
func TestFractionOfUndoesQuotientsOf(t *testing.T) {
	for p := range 260 {
		for q := 1; q < 260; q++ {
			quotients := impl.QuotientsOf(p, q)
			numerator, denominator, ok := impl.FractionOf(quotients)
			if !ok || !areCoprime(numerator, denominator) || numerator*q != p*denominator {
				t.Errorf("FractionOf(QuotientsOf(%d, %d)) = %d, %d, %v", p, q, numerator, denominator, ok)
			}
		}
	}
	for _, list := range append(listsUpTo([]int{1, 2, 5}, 5), goodLists()...) {
		if len(list) == 0 {
			continue
		}
		p, q, _ := impl.FractionOf(list)
		if p > greatestDivided || q > greatestDivided {
			continue
		}
		want := slices.Clone(list)
		if k := len(list) - 1; k > 0 && list[k] == 1 {
			want = append(slices.Clone(list[:k-1]), list[k-1]+1)
		}
		checkQuotients(t, p, q, want)
	}
}

// Convergents are in lowest terms, they come nearer from both sides by turns, and
// two neighbors differ by 1 divided by the product of their denominators.
func TestConvergentsComeNearer(t *testing.T) {
	lists := goodLists()
	for seed := range uint32(50) {
		lists = append(lists, mixedNumbers(seed, 4, 13), mixedNumbers(seed, 60, 5), mixedNumbers(seed, 1000, 3))
	}
	for _, list := range lists {
		rows := impl.ConvergentsOf(list)
		if p, q, ok := impl.FractionOf(list); ok && (len(rows) != len(list) || !slices.Equal(rows[len(rows)-1], []int{p, q})) {
			t.Errorf("ConvergentsOf(%v) = %v, FractionOf %d, %d", list, rows, p, q)
		}
		sign := 1
		for i := 1; i < len(rows); i++ {
			if rows[i][0]*rows[i-1][1]-rows[i-1][0]*rows[i][1] != sign || !areCoprime(rows[i][0], rows[i][1]) {
				t.Errorf("ConvergentsOf(%v) = %v", list, rows)
			}
			p, q, ok := impl.FractionOf(list[:i])
			if !ok || p != rows[i-1][0] || q != rows[i-1][1] {
				t.Errorf("FractionOf(%v) = %d, %d, %v, the convergent is %v", list[:i], p, q, ok, rows[i-1])
			}
			sign = -sign
		}
	}
}

// A standard word has as many letters b as the numerator of the fraction that
// the chapter names, and as many letters as its denominator; without its last
// two letters, it is central, and it is a shift of a Christoffel word.
func TestStandardWordsAgree(t *testing.T) {
	lists := append(listsUpTo([]int{0, 1, 2, 3, 4}, 5), repeated(1, 12), []int{56, 7}, []int{6, 57}, []int{100}, []int{99}, []int{0, 100}, []int{3, 99})
	for _, list := range lists {
		w, ok := impl.StandardWord(list)
		if !ok {
			continue
		}
		p, q, _ := impl.FractionOf(append([]int{0, list[0] + 1}, list[1:]...))
		if strings.Count(w, "b") != p || len(w) != q || !impl.IsPrimitiveWord(w) || !impl.IsBalanced(w) || !impl.IsBalanced(w[1:]+w[:1]) {
			t.Errorf("StandardWord(%v) = %q, the fraction is %d / %d", list, w, p, q)
		}
		if len(w) >= 2 {
			checkCentral(t, w[:len(w)-2], true)
		}
		if christoffel, ok := impl.ChristoffelWord(p, q); ok && !impl.AreConjugate(w, christoffel) {
			t.Errorf("StandardWord(%v) = %q, ChristoffelWord(%d, %d) = %q", list, w, p, q, christoffel)
		}
		for k := 1; k <= mostTimes; k++ {
			next, ok := impl.StandardWord(append(slices.Clone(list), k))
			before := "a"
			if n := len(list) - 1; n > 0 {
				before, _ = impl.StandardWord(list[:n])
			}
			if ok {
				checkNext(t, before, w, k, next, true)
			}
		}
	}
}

// The central words are those that directions of a and b make, and those between
// the first and the last letter of a Christoffel word.
func TestCentralWordsAgree(t *testing.T) {
	directions := map[string]bool{}
	for _, d := range stringsUpTo("ab", 10) {
		w, ok := impl.DirectedWord(d)
		if !ok {
			t.Fatalf("DirectedWord(%q) failed", d)
		}
		checkCentral(t, w, true)
		directions[w] = true
	}
	for _, w := range stringsUpTo("ab", 10) {
		checkCentral(t, w, directions[w])
	}
	for q := 2; q <= greatestQuotient; q++ {
		for p := 1; p < q; p++ {
			if w, ok := impl.ChristoffelWord(p, q); ok {
				checkCentral(t, w[1:q-1], true)
				checkCentral(t, w, false)
			}
		}
	}
}

// The path to p / q and the fraction at its end, the path with both letters
// exchanged, and the quotients of p / q say the same.
func TestPathsAgree(t *testing.T) {
	for p := 1; p <= greatestInTree; p += 3 {
		for q := 1; q <= greatestInTree; q++ {
			if !areCoprime(p, q) {
				continue
			}
			path := impl.PathOf(p, q)
			checkFractionAt(t, path, p, q)
			checkPath(t, q, p, strings.NewReplacer("L", "R", "R", "L").Replace(path))
			if quotients := impl.QuotientsOf(p, q); len(path) != sumOf(quotients)-1 || strings.HasPrefix(path, "R") != (p > q) {
				t.Errorf("PathOf(%d, %d) = %q, QuotientsOf %v", p, q, path, quotients)
			}
		}
	}
	for _, path := range stringsUpTo("LR", 10) {
		p, q, ok := impl.FractionAt(path)
		if !ok {
			t.Errorf("FractionAt(%q) failed", path)
		}
		checkPath(t, p, q, path)
	}
}

// spaciousList returns a list with more numbers behind it.
func spaciousList(list []int) []int { return append(slices.Clone(list), 1, 1, -7)[:len(list)] }

func TestQuotientListsStay(t *testing.T) {
	lists := append(goodLists(), nil, []int{1, 0}, []int{-1}, []int{1001, 1}, []int{1, 101}, []int{1000, 1000, 1000}, repeated(1, 21), repeated(1, 13), repeated(1000, 20), repeated(1, 12), []int{56, 7}, []int{3, 100})
	for _, want := range lists {
		list := spaciousList(want)
		for range 2 {
			impl.FractionOf(list)
			impl.ConvergentsOf(list)
			impl.StandardWord(list)
		}
		if got := list[:len(want)+3]; !slices.Equal(got, append(slices.Clone(want), 1, 1, -7)) {
			t.Fatalf("%v became %v", want, got)
		}
	}
}

func TestQuotientsAreNew(t *testing.T) {
	for _, c := range [][2]int{{10, 7}, {0, 1}, {7, 7}, {100000, 1}, {46368, 75025}, {99999, 100000}} {
		first, second := impl.QuotientsOf(c[0], c[1]), impl.QuotientsOf(c[0], c[1])
		overwrite(first)
		checkQuotients(t, c[0], c[1], plainQuotients(c[0], c[1]))
		if !slices.Equal(second, plainQuotients(c[0], c[1])) {
			t.Errorf("QuotientsOf(%d, %d) became %v", c[0], c[1], second)
		}
	}
}

func TestConvergentsAreNew(t *testing.T) {
	for _, want := range goodLists() {
		rows := plainConvergents(want)
		list := spaciousList(want)
		for i := range rows {
			first, second := impl.ConvergentsOf(list), impl.ConvergentsOf(list)
			if !sameRows(first, rows) {
				t.Fatalf("ConvergentsOf(%v) = %v", want, first)
			}
			overwrite(first[i])
			first[i] = slices.Clone(rows[i])
			if !sameRows(first, rows) || !sameRows(second, rows) || !sameRows(impl.ConvergentsOf(list), rows) {
				t.Errorf("ConvergentsOf(%v) shares its row %d", want, i)
			}
			if !slices.Equal(list[:len(want)+3], append(slices.Clone(want), 1, 1, -7)) {
				t.Fatalf("ConvergentsOf(%v) shares its row %d with the argument", want, i)
			}
			clear(second[:cap(second)])
			checkConvergents(t, list, rows)
		}
		kept := impl.ConvergentsOf(list)
		overwrite(list)
		if !sameRows(kept, rows) {
			t.Errorf("ConvergentsOf(%v) became %v with its argument", want, kept)
		}
	}
}

func TestFractionFunctionsRepeat(t *testing.T) {
	for range 100 {
		checkQuotients(t, 10, 7, []int{1, 2, 3})
		checkQuotients(t, 10, 0, nil)
		checkFraction(t, []int{1, 2, 3}, 10, 7)
		checkFraction(t, []int{1000, 1000, 1000}, 0, 0)
		checkConvergents(t, []int{1, 2, 3}, [][]int{{1, 1}, {3, 2}, {10, 7}})
		checkConvergents(t, []int{1, 0}, nil)
		checkStandard(t, []int{1, 1, 1}, "abaab", true)
		checkStandard(t, []int{3, 100}, "", false)
		checkNext(t, "b", "a", 2, "aab", true)
		checkNext(t, "b", "a", 101, "", false)
		checkCentral(t, "aba", true)
		checkCentral(t, "abba", false)
		checkPath(t, 3, 7, "LLRR")
		checkPath(t, 2, 4, "")
		checkFractionAt(t, "LLRR", 3, 7)
		checkFractionAt(t, "LLRX", 0, 0)
	}
}

// Calls at the same time with the same list do not disturb each other.
func TestFractionFunctionsSideBySide(t *testing.T) {
	list := repeated(1, 12)
	var all sync.WaitGroup
	for k := range 16 {
		all.Go(func() {
			for n := 1; n <= len(list); n++ {
				checkList(t, list[:n])
				checkPlainStandard(t, list[:n])
				checkQuotients(t, k*1000, n, plainQuotients(k*1000, n))
			}
		})
	}
	all.Wait()
}
