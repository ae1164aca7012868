package tests

import (
	"math"
	"math/big"
	"slices"
	"strings"
	"testing"

	"loop.example/g03209/impl"
)

const greatestCount = 1_000_000_000_000

// sameRows compares matrices number by number.
func sameRows(a, b [][]int) bool { return slices.EqualFunc(a, b, slices.Equal[[]int]) }

// plainMatrix counts the letters of the images one by one.
func plainMatrix(images []string) [][]int {
	m := make([][]int, len(images))
	for i := range m {
		for _, image := range images {
			m[i] = append(m[i], countBytes(image, letters[i]))
		}
	}
	return m
}

func TestMatrixOf(t *testing.T) {
	for text, want := range map[string][][]int{
		"a": {{1}}, "aaaaaaaa": {{8}}, "ab,a": {{1, 1}, {1, 0}}, "aab,a": {{2, 1}, {1, 0}}, "ab,ba": {{1, 1}, {1, 1}}, "ab,aa": {{1, 2}, {1, 0}},
		"b,a": {{0, 1}, {1, 0}}, "ab,b": {{1, 0}, {1, 1}}, "a,ab": {{1, 1}, {0, 1}}, "a,a": {{1, 1}, {0, 0}}, "bbbbbbbb,a": {{0, 1}, {8, 0}},
		"ab,ac,a": {{1, 1, 1}, {1, 0, 0}, {0, 1, 0}}, "abc,ac,b": {{1, 1, 0}, {1, 0, 1}, {1, 1, 0}}, "b,b,b": {{0, 0, 0}, {1, 1, 1}, {0, 0, 0}},
		"ab,ac,db,dc": {{1, 1, 0, 0}, {1, 0, 1, 0}, {0, 1, 0, 1}, {0, 0, 1, 1}}, "b,c,d,aab": {{0, 0, 0, 2}, {1, 0, 0, 1}, {0, 1, 0, 0}, {0, 0, 1, 0}},
		"dddd,dddd,dddd,dddd": {{0, 0, 0, 0}, {0, 0, 0, 0}, {0, 0, 0, 0}, {4, 4, 4, 4}},
	} {
		if got := impl.MatrixOf(subst(text)); !sameRows(got, want) {
			t.Errorf("MatrixOf(%q) = %v, want %v", text, got, want)
		}
	}
	for _, text := range someSubsts() {
		s := subst(text)
		got := impl.MatrixOf(s)
		if !sameRows(got, plainMatrix(s.Images)) {
			t.Errorf("MatrixOf(%q) = %v", text, got)
		}
		for i := range got {
			for k := range got[i] {
				if got[i][k] != impl.CountLetter(s.Images[k], letters[i:i+1]) {
					t.Errorf("MatrixOf(%q)[%d][%d] = %d", text, i, k, got[i][k])
				}
			}
		}
		if turned, _ := impl.TurnSubst(s); !sameRows(impl.MatrixOf(turned), got) {
			t.Errorf("MatrixOf(%q) = %v, turned %v", text, got, impl.MatrixOf(turned))
		}
	}
	for _, s := range noSubsts() {
		if got := impl.MatrixOf(s); got != nil {
			t.Errorf("MatrixOf(%q) = %v", s.Images, got)
		}
	}
}

// bigCounts follows the letters of the images down, letter by letter, in
// numbers without a bound: its row k, column i says how often i stands in what
// k becomes.
func bigCounts(images []string, n int) [][]*big.Int {
	table := make([][]*big.Int, len(images))
	for k := range table {
		for i := range images {
			table[k] = append(table[k], big.NewInt(int64(countBytes(letters[k:k+1], letters[i]))))
		}
	}
	for range n {
		next := make([][]*big.Int, len(images))
		for k, image := range images {
			for i := range images {
				sum := new(big.Int)
				for j := range len(image) {
					sum.Add(sum, table[image[j]-'a'][i])
				}
				next[k] = append(next[k], sum)
			}
		}
		table = next
	}
	return table
}

// plainCounts returns the counts after what the table of bigCounts says, and
// whether all of them are small enough.
func plainCounts(table [][]*big.Int, counts []int) ([]int, bool) {
	result := make([]int, len(counts))
	for i := range counts {
		sum := new(big.Int)
		for k, count := range counts {
			sum.Add(sum, new(big.Int).Mul(table[k][i], big.NewInt(int64(count))))
		}
		if sum.Cmp(big.NewInt(greatestCount)) > 0 {
			return nil, false
		}
		result[i] = int(sum.Int64())
	}
	return result, true
}

func TestCountAfter(t *testing.T) {
	for _, c := range []struct {
		s      string
		counts []int
		n      int
		want   []int
	}{
		{"ab,a", []int{1, 0}, 3, []int{3, 2}}, {"ab,a", []int{1, 0}, 0, []int{1, 0}}, {"ab,a", []int{0, 1}, 1, []int{1, 0}}, {"ab,a", []int{2, 3}, 1, []int{5, 2}},
		{"ab,a", []int{0, 0}, 40, []int{0, 0}}, {"ab,a", []int{1, 0}, 40, []int{165580141, 102334155}}, {"a", []int{1000}, 40, []int{1000}}, {"a", []int{0}, 0, []int{0}},
		{"aa", []int{1}, 39, []int{1 << 39}}, {"aa", []int{1000}, 29, []int{1000 << 29}}, {"aaaaaaaa", []int{1}, 13, []int{1 << 39}}, {"b,a", []int{7, 1000}, 39, []int{1000, 7}},
		{"b,a", []int{7, 1000}, 40, []int{7, 1000}}, {"ab,b", []int{1000, 1000}, 40, []int{1000, 41000}}, {"ab,ba", []int{1, 0}, 40, []int{1 << 39, 1 << 39}},
		{"b,b,b", []int{1, 2, 3}, 1, []int{0, 6, 0}}, {"ab,ac,a", []int{1, 0, 0}, 4, []int{7, 4, 2}}, {"b,c,d,a", []int{1, 2, 3, 4}, 1, []int{4, 1, 2, 3}},
		{"b,c,d,a", []int{1, 2, 3, 4}, 39, []int{2, 3, 4, 1}}, {"ab,ac,db,dc", []int{1, 0, 0, 0}, 3, []int{3, 3, 1, 1}}, {"a,b,c,d", []int{1000, 0, 1000, 0}, 40, []int{1000, 0, 1000, 0}},
	} {
		if got, ok := impl.CountAfter(subst(c.s), c.counts, c.n); !slices.Equal(got, c.want) || !ok {
			t.Errorf("CountAfter(%q, %v, %d) = %v, %v, want %v", c.s, c.counts, c.n, got, ok, c.want)
		}
	}
}

// The counts become exactly 10 to the power of 12, or one more or less.
func TestCountAfterAtTheBound(t *testing.T) {
	for _, c := range []struct {
		s      string
		counts []int
		n      int
		want   []int
	}{
		{"bbbbbc,aacc,c", []int{6, 6, 9}, 22, []int{600000000000, 600000000000, 999999999999}},
		{"bbbbbc,aacc,c", []int{6, 6, 10}, 22, []int{600000000000, 600000000000, 1000000000000}},
		{"bbbbbc,aacc,c", []int{6, 6, 11}, 22, nil},
		{"bbbbbc,aacc,c", []int{6, 6, 12}, 22, nil},
		{"a,ccccca,bbaa", []int{9, 6, 6}, 22, []int{999999999999, 600000000000, 600000000000}},
		{"a,ccccca,bbaa", []int{10, 6, 6}, 22, []int{1000000000000, 600000000000, 600000000000}},
		{"a,ccccca,bbaa", []int{11, 6, 6}, 22, nil},
		{"ddddda,b,c,aabb", []int{6, 1000, 5, 6}, 22, nil},
		{"ddddda,b,c,aabb", []int{0, 1000, 5, 0}, 22, []int{0, 1000, 5, 0}},
		{"dddddb,b,c,aabb", []int{6, 10, 5, 6}, 22, []int{600000000000, 1000000000000, 5, 600000000000}},
		{"dddddb,b,c,aabb", []int{6, 11, 5, 6}, 22, nil},
		{"bb,aaaaa", []int{1, 0}, 24, []int{1000000000000, 0}},
		{"bb,aaaaa", []int{0, 1}, 24, []int{0, 1000000000000}},
		{"bb,aaaaa", []int{1, 0}, 25, nil},
		{"bb,aaaaa", []int{1, 1}, 24, []int{1000000000000, 1000000000000}},
		{"bb,aaaaa", []int{1000, 0}, 18, []int{1000000000000, 0}},
		{"bb,aaaaa", []int{1000, 1}, 18, []int{1000000000000, 1000000000}},
		{"bb,aaaaa", []int{1000, 0}, 19, nil},
		{"bb,aaaaa", []int{0, 200}, 19, []int{1000000000000, 0}},
		{"bb,aaaaa", []int{0, 201}, 19, nil},
		{"aa", []int{1}, 40, nil},
		{"aa", []int{931}, 30, []int{999653638144}},
		{"aa", []int{932}, 30, nil},
		{"aaaaaaaa", []int{1000}, 40, nil},
		{"aaaaaaaa", []int{1}, 40, nil},
		{"aaaaaaaa,b", []int{1, 0}, 14, nil},
		{"a,bbbbbbbb", []int{1, 1}, 14, nil},
		{"dddddddd,dddddddd,dddddddd,dddddddd", []int{1000, 1000, 1000, 1000}, 40, nil},
		{"abcdabcd,dcbadcba,bbbbaaaa,ccccdddd", []int{1000, 1000, 1000, 1000}, 40, nil},
	} {
		if got, ok := impl.CountAfter(subst(c.s), c.counts, c.n); !slices.Equal(got, c.want) || ok != (c.want != nil) || !ok && got != nil {
			t.Errorf("CountAfter(%q, %v, %d) = %v, %v, want %v", c.s, c.counts, c.n, got, ok, c.want)
		}
	}
}

// someCounts returns lists of n counts: with a 1 and others 0, with the
// greatest ones, and mixed ones.
func someCounts(n int) [][]int {
	var lists [][]int
	for k := range n {
		one, great := make([]int, n), make([]int, n)
		one[k], great[k] = 1, 1000
		lists = append(lists, one, great)
	}
	return append(lists, make([]int, n), []int{1000, 1000, 1000, 1000}[:n], []int{3, 0, 1, 2}[:n], []int{17, 1000, 999, 1}[:n])
}

func TestCountAfterAllNumbers(t *testing.T) {
	for _, text := range someSubsts() {
		s := subst(text)
		for n := range 41 {
			table := bigCounts(s.Images, n)
			for _, counts := range someCounts(len(s.Images)) {
				want, fits := plainCounts(table, counts)
				if got, ok := impl.CountAfter(s, counts, n); !slices.Equal(got, want) || ok != fits || !ok && got != nil {
					t.Errorf("CountAfter(%q, %v, %d) = %v, %v, want %v, %v", text, counts, n, got, ok, want, fits)
				}
			}
		}
	}
}

// As long as the word itself can be written, its letters can be counted.
func TestCountAfterAgreesWithIterateSubst(t *testing.T) {
	for _, text := range someSubsts() {
		s := subst(text)
		n := len(s.Images)
		for _, w := range append(stringsUpTo(letters[:n], 3), strings.Repeat("a", longestWord), strings.Repeat(letters[:n], 9)) {
			for steps := range 21 {
				word, written := impl.IterateSubst(s, w, steps)
				if !written {
					break
				}
				got, ok := impl.CountAfter(s, impl.CountsOf(w)[:n], steps)
				if !ok || !slices.Equal(got, impl.CountsOf(word)[:n]) {
					t.Errorf("CountAfter(%q, %q, %d) = %v, %v, but the word is %q", text, w, steps, got, ok, word)
				}
				if length := impl.LengthAfter(s, w, steps); len(w) == 1 && length != len(word) {
					t.Errorf("LengthAfter(%q, %q, %d) = %d, but the word is %q", text, w, steps, length, word)
				}
			}
		}
	}
}

func TestCountAfterRefusesSubsts(t *testing.T) {
	for _, s := range noSubsts() {
		for _, counts := range [][]int{nil, {}, {0}, {1}, {1, 0}, {0, 0}, {1, 0, 0}, {1, 0, 0, 0}, {1, 0, 0, 0, 0}, make([]int, len(s.Images))} {
			for _, n := range []int{-1, 0, 1, 40, 41} {
				if got, ok := impl.CountAfter(s, counts, n); got != nil || ok {
					t.Errorf("CountAfter(%q, %v, %d) = %v, %v", s.Images, counts, n, got, ok)
				}
			}
		}
	}
}

func TestCountAfterRefusesCounts(t *testing.T) {
	for _, text := range []string{"a", "aa", "ab,a", "b,a", "ab,ac,a", "a,b,c", "a,b,c,d", "ab,ac,db,dc"} {
		s := subst(text)
		for length := range 8 {
			for _, number := range []int{0, 1, 1000} {
				counts := slices.Repeat([]int{number}, length)
				for _, n := range []int{0, 1, 5} {
					got, ok := impl.CountAfter(s, counts, n)
					if ok != (length == len(s.Images)) || !ok && got != nil {
						t.Errorf("CountAfter(%q, %v, %d) = %v, %v", text, counts, n, got, ok)
					}
				}
			}
		}
		for k := range s.Images {
			for _, number := range []int{-1, 0, 1, 999, 1000, 1001, -2, -1000, 1002, 2000, 1 << 32, 1<<32 + 1, math.MaxInt, math.MinInt} {
				for _, other := range []int{0, 1, 1000} {
					counts := slices.Repeat([]int{other}, len(s.Images))
					counts[k] = number
					for _, n := range []int{0, 1, 2} {
						got, ok := impl.CountAfter(s, counts, n)
						if ok != (number >= 0 && number <= 1000) || !ok && got != nil {
							t.Errorf("CountAfter(%q, %v, %d) = %v, %v", text, counts, n, got, ok)
						}
					}
				}
			}
		}
	}
}

func TestCountAfterAndLengthAfterRefuseNumbers(t *testing.T) {
	for _, text := range []string{"a", "ab,b", "ab,a", "b,a", "a,b,c", "a,b,c,d", "b,c,d,a"} {
		s := subst(text)
		counts := make([]int, len(s.Images))
		for _, number := range []int{0, 1} {
			counts[0] = number
			for _, n := range []int{-1, 0, 1, 39, 40, 41, -2, -40, -41, 42, 80, 1 << 32, 1<<32 + 1, math.MaxInt, math.MinInt} {
				fits := n >= 0 && n <= 40
				if got, ok := impl.CountAfter(s, counts, n); ok != fits || !ok && got != nil {
					t.Errorf("CountAfter(%q, %v, %d) = %v, %v", text, counts, n, got, ok)
				}
				if got := impl.LengthAfter(s, "a", n); (got == -1) == fits || got < -1 {
					t.Errorf("LengthAfter(%q, a, %d) = %d", text, n, got)
				}
			}
		}
	}
}

func TestLengthAfter(t *testing.T) {
	for _, c := range []struct {
		s, letter string
		n, want   int
	}{
		{"ab,a", "a", 4, 8}, {"ab,a", "b", 4, 5}, {"ab,a", "a", 0, 1}, {"ab,a", "b", 1, 1}, {"ab,a", "a", 40, 267914296}, {"ab,a", "b", 40, 165580141}, {"a", "a", 40, 1},
		{"aa", "a", 39, 1 << 39}, {"aa", "a", 40, -1}, {"ab,ba", "a", 40, 1 << 40}, {"ab,ba", "b", 40, 1 << 40}, {"ab,b", "a", 40, 41}, {"ab,b", "b", 40, 1},
		{"bb,aaaaa", "a", 24, greatestCount}, {"bb,aaaaa", "b", 24, greatestCount}, {"bb,aaaaa", "a", 25, -1}, {"bb,aaaaa", "b", 25, -1}, {"bb,aaaaa", "a", 23, 200000000000},
		{"abcd,bcda,cdab,dabc", "c", 20, 1 << 40}, {"abcd,bcda,cdab,dabc", "d", 21, -1}, {"ab,ac,a", "c", 5, 13}, {"a,b,c,d", "d", 40, 1}, {"ab,ac,db,dc", "d", 10, 1024},
		{"a,b,cccccccc,d", "c", 13, 1 << 39}, {"a,b,cccccccc,d", "c", 14, -1}, {"a,b,cccccccc,d", "d", 14, 1}, {"aaaaaaaa", "a", 40, -1},
	} {
		if got := impl.LengthAfter(subst(c.s), c.letter, c.n); got != c.want {
			t.Errorf("LengthAfter(%q, %q, %d) = %d, want %d", c.s, c.letter, c.n, got, c.want)
		}
	}
}

func TestLengthAfterAllNumbers(t *testing.T) {
	for _, text := range someSubsts() {
		s := subst(text)
		for n := range 41 {
			table := bigCounts(s.Images, n)
			for k := range s.Images {
				counts := make([]int, len(s.Images))
				counts[k] = 1
				numbers, fits := plainCounts(table, counts)
				want := -1
				if fits {
					want = 0
					for _, number := range numbers {
						want += number
					}
				}
				if got := impl.LengthAfter(s, letters[k:k+1], n); got != want {
					t.Errorf("LengthAfter(%q, %q, %d) = %d, want %d", text, letters[k:k+1], n, got, want)
				}
			}
		}
	}
}

func TestLengthAfterAndReachedByRefuse(t *testing.T) {
	for _, s := range noSubsts() {
		for _, letter := range []string{"", "a", "b", "c", "d", "e", "ab"} {
			for _, n := range []int{-1, 0, 1, 40} {
				if got := impl.LengthAfter(s, letter, n); got != -1 {
					t.Errorf("LengthAfter(%q, %q, %d) = %d", s.Images, letter, n, got)
				}
			}
			if got := impl.ReachedBy(s, letter); got != "" {
				t.Errorf("ReachedBy(%q, %q) = %q", s.Images, letter, got)
			}
		}
	}
	for _, text := range []string{"a", "aa", "ab,a", "b,a", "a,b,c", "ab,ac,a", "a,b,c,d", "ab,ac,db,dc"} {
		s := subst(text)
		for _, letter := range append(noLetters(), letters[len(s.Images):], letters[:len(s.Images)]+"a") {
			refuseLetter(t, s, letter)
		}
		for b := range 256 {
			if b < 'a' || b >= 'a'+len(s.Images) {
				refuseLetter(t, s, string([]byte{byte(b)}))
			}
		}
	}
}

func refuseLetter(t *testing.T, s impl.Subst, letter string) {
	for _, n := range []int{-1, 0, 1, 40} {
		if got := impl.LengthAfter(s, letter, n); got != -1 {
			t.Errorf("LengthAfter(%q, %q, %d) = %d", s.Images, letter, n, got)
		}
	}
	if got := impl.ReachedBy(s, letter); got != "" {
		t.Errorf("ReachedBy(%q, %q) = %q", s.Images, letter, got)
	}
}

// everySupport calls check with a substitution for each choice of letters for
// each of n images.
func everySupport(n int, check func(s impl.Subst)) {
	var choices []string
	for bits := 1; bits < 1<<n; bits++ {
		choice := ""
		for i := range n {
			if bits>>i&1 == 1 {
				choice = letters[i:i+1] + choice
			}
		}
		choices = append(choices, choice)
	}
	images := make([]string, n)
	var choose func(k int)
	choose = func(k int) {
		if k == n {
			check(impl.Subst{Images: images})
			return
		}
		for _, choice := range choices {
			images[k] = choice
			choose(k + 1)
		}
	}
	choose(0)
}

// lettersAfter returns for each letter those that stand in what it becomes, as
// the bits of a number, if before says so for what the letters were before.
func lettersAfter(images []string, before []int) []int {
	after := make([]int, len(images))
	for k, image := range images {
		for i := range len(image) {
			after[k] |= before[image[i]-'a']
		}
	}
	return after
}

// firstFullPower returns the least number of applications, up to 100, after
// which each letter has become a word with all of them; 0 if there is none.
func firstFullPower(images []string) int {
	sets := make([]int, len(images))
	for k := range sets {
		sets[k] = 1 << k
	}
	for n := 1; n <= 100; n++ {
		sets = lettersAfter(images, sets)
		if slices.Min(sets) == 1<<len(images)-1 {
			return n
		}
	}
	return 0
}

func TestIsPrimitiveSubst(t *testing.T) {
	for text, want := range map[string]bool{
		"a": true, "aa": true, "aaaaaaaa": true, "ab,a": true, "ab,ba": true, "ab,aa": true, "a,b": false, "b,a": false, "bb,aa": false, "ab,b": false, "a,ab": false, "aab,b": false,
		"a,a": false, "b,ab": true, "b,b": false, "ab,ac,a": true, "abc,ac,b": true, "b,c,a": false, "b,c,ab": true, "c,ca,b": true, "a,b,c": false, "aaa,aaa,aaa": false,
		"ab,ac,db,dc": true, "b,c,d,ab": true, "b,c,d,a": false, "bcd,a,a,a": false, "b,a,d,c": false, "ab,ab,cd,cd": false, "d,a,b,bc": true, "abcd,abcd,abcd,abc": true,
		"abcd,abcd,abcd,d": false, "bbbbbbbb,aaaaaaab": true, "c,d,ab,ab": false, "cd,cd,ab,abc": true, "bc,bc,d,a": true, "bc,d,d,a": false, "dddddddd,aaaaaaaa,bbbbbbbb,cccccccd": true,
	} {
		if got := impl.IsPrimitiveSubst(subst(text)); got != want {
			t.Errorf("IsPrimitiveSubst(%q) = %v", text, got)
		}
	}
	for _, text := range someSubsts() {
		s := subst(text)
		if got, want := impl.IsPrimitiveSubst(s), firstFullPower(s.Images) > 0; got != want {
			t.Errorf("IsPrimitiveSubst(%q) = %v", text, got)
		}
	}
	for _, s := range noSubsts() {
		if impl.IsPrimitiveSubst(s) {
			t.Errorf("IsPrimitiveSubst(%q) = true", s.Images)
		}
	}
}

func TestIsPrimitiveSubstEverySupport(t *testing.T) {
	greatest := 0
	for n := 1; n <= 4; n++ {
		everySupport(n, func(s impl.Subst) {
			power := firstFullPower(s.Images)
			greatest = max(greatest, power)
			if got := impl.IsPrimitiveSubst(s); got != (power > 0) {
				t.Errorf("IsPrimitiveSubst(%q) = %v, but the first power without 0 is %d", s.Images, got, power)
			}
		})
	}
	if greatest != 10 {
		t.Errorf("the highest power that is needed is %d", greatest)
	}
}

// plainReached collects the letters that are reached, one after the other.
func plainReached(images []string, letter byte) string {
	reached := string(letter)
	for i := 0; i < len(reached); i++ {
		image := images[reached[i]-'a']
		for k := range len(image) {
			if !strings.Contains(reached, image[k:k+1]) {
				reached += image[k : k+1]
			}
		}
	}
	bytes := []byte(reached)
	slices.Sort(bytes)
	return string(bytes)
}

func TestReachedBy(t *testing.T) {
	for _, c := range [][3]string{
		{"ab,a", "a", "ab"}, {"ab,a", "b", "ab"}, {"ab,b", "a", "ab"}, {"ab,b", "b", "b"}, {"a", "a", "a"}, {"aaaa", "a", "a"}, {"a,b", "a", "a"}, {"a,b", "b", "b"}, {"b,b", "a", "ab"}, {"a,a", "b", "ab"},
		{"b,c,a", "a", "abc"}, {"b,c,c", "a", "abc"}, {"c,b,b", "a", "abc"}, {"c,b,b", "c", "bc"}, {"c,b,b", "b", "b"}, {"a,a,b", "c", "abc"}, {"a,c,b", "c", "bc"},
		{"b,c,d,d", "a", "abcd"}, {"b,c,d,d", "b", "bcd"}, {"b,c,d,d", "c", "cd"}, {"b,c,d,d", "d", "d"}, {"a,a,b,c", "d", "abcd"}, {"d,b,b,c", "a", "abcd"}, {"d,b,b,c", "d", "bcd"},
		{"c,d,d,b", "a", "abcd"}, {"c,d,a,b", "a", "ac"}, {"c,d,a,b", "d", "bd"}, {"dca,b,c,d", "a", "acd"}, {"d,b,c,a", "d", "ad"}, {"a,bdc,c,d", "b", "bcd"}, {"dcba,b,c,d", "a", "abcd"}, {"dcb,b,c,d", "a", "abcd"},
	} {
		if got := impl.ReachedBy(subst(c[0]), c[1]); got != c[2] {
			t.Errorf("ReachedBy(%q, %q) = %q, want %q", c[0], c[1], got, c[2])
		}
	}
	check := func(s impl.Subst) {
		for k := range s.Images {
			if got, want := impl.ReachedBy(s, letters[k:k+1]), plainReached(s.Images, letters[k]); got != want {
				t.Errorf("ReachedBy(%q, %q) = %q, want %q", s.Images, letters[k:k+1], got, want)
			}
		}
	}
	for n := 1; n <= 4; n++ {
		everySupport(n, check)
	}
	for _, text := range someSubsts() {
		check(subst(text))
	}
}

// permutations calls use with each order of the numbers up to n, and the sign
// of the order.
func permutations(n int, use func(order []int, sign int)) {
	var extend func(order []int)
	extend = func(order []int) {
		if len(order) == n {
			sign := 1
			for i := range order {
				for k := range i {
					if order[k] > order[i] {
						sign = -sign
					}
				}
			}
			use(order, sign)
			return
		}
		for x := range n {
			if !slices.Contains(order, x) {
				extend(append(slices.Clone(order), x))
			}
		}
	}
	extend(nil)
}

// plainDeterminant adds the products over all orders of the columns.
func plainDeterminant(m [][]int) int {
	sum := 0
	permutations(len(m), func(order []int, sign int) {
		product := sign
		for i, k := range order {
			product *= m[i][k]
		}
		sum += product
	})
	return sum
}

func plainTrace(m [][]int) int {
	sum := 0
	for i := range m {
		sum += m[i][i]
	}
	return sum
}

func plainProduct(a, b [][]int) [][]int {
	product := make([][]int, len(a))
	for i := range a {
		for k := range b {
			sum := 0
			for j := range b {
				sum += a[i][j] * b[j][k]
			}
			product[i] = append(product[i], sum)
		}
	}
	return product
}

// matricesOf calls check with all square matrices of n rows with numbers from a
// list.
func matricesOf(n int, numbers []int, check func(m [][]int)) {
	m := make([][]int, n)
	for i := range m {
		m[i] = make([]int, n)
	}
	var fill func(place int)
	fill = func(place int) {
		if place == n*n {
			check(m)
			return
		}
		for _, number := range numbers {
			m[place/n][place%n] = number
			fill(place + 1)
		}
	}
	fill(0)
}

// someMatrices returns square matrices of from 1 to 4 rows with numbers of all
// sizes that are allowed, the same ones each time.
func someMatrices() [][][]int {
	var all [][][]int
	state := uint32(1)
	for _, bound := range []int{1, 3, 10, 100} {
		for n := 1; n <= 4; n++ {
			for range 25 {
				m := make([][]int, n)
				for i := range m {
					for range n {
						state = state*1664525 + 1013904223
						m[i] = append(m[i], int(state>>16)%(2*bound+1)-bound)
					}
				}
				all = append(all, m)
			}
		}
	}
	return all
}

// noMatrices returns what is no square matrix of from 1 to 4 rows with numbers
// from -100 to 100.
func noMatrices() [][][]int {
	bad := [][][]int{
		nil, {}, {nil}, {{}}, {{}, {}}, {nil, nil}, {{}, {}, {}}, {{}, {}, {}, {}}, {nil, nil, nil, nil, nil}, {{1, 2}}, {{1}, {2}}, {{1}, {2}, {3}, {4}}, {{1, 2, 3, 4}},
		{{1, 2}, {3}}, {{1}, {2, 3}}, {{1, 2}, {}}, {{}, {1, 2}}, {{1, 2}, nil}, {{1, 2}, {3, 4, 5}}, {{1, 2, 3}, {4, 5}}, {{1, 2, 3}, {4, 5, 6}}, {{1, 2}, {3, 4}, {5, 6}}, {{1, 2}, {3, 4}, {}},
	}
	for n := 1; n <= 6; n++ {
		for k := range n {
			for _, change := range []func(m [][]int){
				func(m [][]int) { m[k] = m[k][1:] },
				func(m [][]int) { m[k] = m[k][:n-1] },
				func(m [][]int) { m[k] = append(m[k], 1) },
				func(m [][]int) { m[k] = append(m[k], 0) },
				func(m [][]int) { m[k] = append(m[k], m[k]...) },
				func(m [][]int) { m[k] = nil },
				func(m [][]int) { m[k] = []int{} },
			} {
				m := identity(n)
				change(m)
				bad = append(bad, m)
			}
			for _, number := range []int{-101, 101, -102, 102, -1000, 200, 1 << 32, 1<<32 + 1, -1 << 32, math.MaxInt, math.MinInt} {
				for i := range n {
					m := identity(n)
					m[k][i] = number
					bad = append(bad, m)
				}
			}
		}
		if n > 4 {
			bad = append(bad, identity(n))
		}
	}
	return bad
}

func identity(n int) [][]int {
	m := make([][]int, n)
	for i := range m {
		m[i] = make([]int, n)
		m[i][i] = 1
	}
	return m
}

func cloned(m [][]int) [][]int {
	result := make([][]int, len(m))
	for i := range m {
		result[i] = slices.Clone(m[i])
	}
	return result
}

func TestDeterminantAndTraceOf(t *testing.T) {
	for _, c := range []struct {
		m                  [][]int
		determinant, trace int
	}{
		{[][]int{{1, 2}, {3, 4}}, -2, 5}, {[][]int{{7}}, 7, 7}, {[][]int{{-100}}, -100, -100}, {[][]int{{100}}, 100, 100}, {[][]int{{0}}, 0, 0}, {[][]int{{1, 1}, {1, 0}}, -1, 1},
		{[][]int{{0, 1}, {1, 0}}, -1, 0}, {[][]int{{2, 4}, {1, 2}}, 0, 4}, {[][]int{{100, -100}, {100, 100}}, 20000, 200}, {[][]int{{-100, 100}, {100, 100}}, -20000, 0},
		{[][]int{{1, 2, 3}, {4, 5, 6}, {7, 8, 9}}, 0, 15}, {[][]int{{1, 2, 3}, {4, 5, 6}, {7, 8, 10}}, -3, 16}, {[][]int{{0, 1, 0}, {0, 0, 1}, {1, 0, 0}}, 1, 0},
		{[][]int{{0, 0, 1}, {0, 1, 0}, {1, 0, 0}}, -1, 1}, {[][]int{{2, 0, 0}, {0, -3, 0}, {0, 0, 5}}, -30, 4}, {[][]int{{1, 1, 1}, {1, 0, 0}, {0, 1, 0}}, 1, 1},
		{[][]int{{0, 0, 0, 1}, {1, 0, 0, 0}, {0, 1, 0, 0}, {0, 0, 1, 0}}, -1, 0}, {[][]int{{1, 0, 0, 2}, {0, 1, 2, 0}, {0, 3, 1, 0}, {3, 0, 0, 1}}, 25, 4},
		{[][]int{{0, 1, 0, 0}, {1, 0, 0, 0}, {0, 0, 0, 1}, {0, 0, 1, 0}}, 1, 0}, {[][]int{{1, 2, 3, 4}, {5, 6, 7, 8}, {9, 10, 11, 12}, {13, 14, 15, 16}}, 0, 34},
		{[][]int{{100, 100, 100, 100}, {100, -100, 100, -100}, {100, 100, -100, -100}, {100, -100, -100, 100}}, 1600000000, 0},
		{[][]int{{100, 100, 100, 100}, {100, 100, -100, -100}, {100, -100, 100, -100}, {100, -100, -100, 100}}, -1600000000, 400},
	} {
		if got := impl.DeterminantOf(c.m); got != c.determinant {
			t.Errorf("DeterminantOf(%v) = %d, want %d", c.m, got, c.determinant)
		}
		if got := impl.TraceOf(c.m); got != c.trace {
			t.Errorf("TraceOf(%v) = %d, want %d", c.m, got, c.trace)
		}
	}
}

func checkDeterminantAndTrace(t *testing.T, m [][]int) {
	if got, want := impl.DeterminantOf(m), plainDeterminant(m); got != want {
		t.Errorf("DeterminantOf(%v) = %d, want %d", m, got, want)
	}
	if got, want := impl.TraceOf(m), plainTrace(m); got != want {
		t.Errorf("TraceOf(%v) = %d, want %d", m, got, want)
	}
}

func TestDeterminantAndTraceOfMany(t *testing.T) {
	check := func(m [][]int) { checkDeterminantAndTrace(t, m) }
	for number := -100; number <= 100; number++ {
		check([][]int{{number}})
	}
	matricesOf(2, []int{-100, -99, -1, 0, 1, 2, 99, 100}, check)
	matricesOf(3, []int{-1, 0, 2}, check)
	matricesOf(4, []int{0, 1}, check)
	for _, m := range someMatrices() {
		check(m)
	}
	for n := 1; n <= 4; n++ {
		for i := range n {
			for k := range n {
				for _, number := range []int{-100, 100} {
					m := identity(n)
					m[i][k] = number
					check(m)
				}
			}
		}
	}
}

func TestMatricesRefused(t *testing.T) {
	for _, m := range noMatrices() {
		if got := impl.DeterminantOf(m); got != 0 {
			t.Errorf("DeterminantOf(%v) = %d", m, got)
		}
		if got := impl.TraceOf(m); got != 0 {
			t.Errorf("TraceOf(%v) = %d", m, got)
		}
		others := [][][]int{cloned(m)}
		for n := range 6 {
			others = append(others, identity(n))
		}
		for _, other := range others {
			if got, ok := impl.MultiplyMatrices(m, other); got != nil || ok {
				t.Errorf("MultiplyMatrices(%v, %v) = %v, %v", m, other, got, ok)
			}
			if got, ok := impl.MultiplyMatrices(other, m); got != nil || ok {
				t.Errorf("MultiplyMatrices(%v, %v) = %v, %v", other, m, got, ok)
			}
		}
	}
}

func TestMultiplyMatrices(t *testing.T) {
	for _, c := range [][3][][]int{
		{{{1, 1}, {1, 0}}, {{1, 1}, {1, 0}}, {{2, 1}, {1, 1}}}, {{{1, 2}, {3, 4}}, {{0, 1}, {1, 0}}, {{2, 1}, {4, 3}}}, {{{0, 1}, {1, 0}}, {{1, 2}, {3, 4}}, {{3, 4}, {1, 2}}},
		{{{7}}, {{-8}}, {{-56}}}, {{{100}}, {{100}}, {{10000}}}, {{{100, 100}, {-100, -100}}, {{100, -100}, {100, -100}}, {{20000, -20000}, {-20000, 20000}}},
		{{{1, 2}, {0, 1}}, {{1, 0}, {3, 1}}, {{7, 2}, {3, 1}}}, {{{1, 0}, {3, 1}}, {{1, 2}, {0, 1}}, {{1, 2}, {3, 7}}},
		{{{0, 1, 0}, {0, 0, 1}, {1, 0, 0}}, {{1, 2, 3}, {4, 5, 6}, {7, 8, 9}}, {{4, 5, 6}, {7, 8, 9}, {1, 2, 3}}}, {{{1, 2, 3}, {4, 5, 6}, {7, 8, 9}}, {{0, 1, 0}, {0, 0, 1}, {1, 0, 0}}, {{3, 1, 2}, {6, 4, 5}, {9, 7, 8}}},
		{{{1, 0, 0, 0}, {0, 2, 0, 0}, {0, 0, 3, 0}, {0, 0, 0, 4}}, {{1, 1, 1, 1}, {1, 1, 1, 1}, {1, 1, 1, 1}, {1, 1, 1, 1}}, {{1, 1, 1, 1}, {2, 2, 2, 2}, {3, 3, 3, 3}, {4, 4, 4, 4}}},
	} {
		if got, ok := impl.MultiplyMatrices(c[0], c[1]); !sameRows(got, c[2]) || !ok {
			t.Errorf("MultiplyMatrices(%v, %v) = %v, %v, want %v", c[0], c[1], got, ok, c[2])
		}
	}
}

func checkProduct(t *testing.T, a, b [][]int) {
	got, ok := impl.MultiplyMatrices(a, b)
	if len(a) != len(b) {
		if got != nil || ok {
			t.Errorf("MultiplyMatrices(%v, %v) = %v, %v", a, b, got, ok)
		}
		return
	}
	if !ok || !sameRows(got, plainProduct(a, b)) {
		t.Errorf("MultiplyMatrices(%v, %v) = %v, %v", a, b, got, ok)
		return
	}
	if plainDeterminant(got) != impl.DeterminantOf(a)*impl.DeterminantOf(b) {
		t.Errorf("the determinant of %v times %v is not the product of both", a, b)
	}
}

func TestMultiplyMatricesMany(t *testing.T) {
	var all [][][]int
	matricesOf(1, []int{-100, -1, 0, 1, 99, 100}, func(m [][]int) { all = append(all, cloned(m)) })
	matricesOf(2, []int{-1, 0, 2}, func(m [][]int) { all = append(all, cloned(m)) })
	for n := 1; n <= 4; n++ {
		all = append(all, identity(n))
	}
	all = append(all, someMatrices()...)
	for _, a := range all {
		for _, b := range all {
			checkProduct(t, a, b)
		}
	}
}

// The matrix of a composed substitution is the product, the second one first.
func TestMatrixOfComposed(t *testing.T) {
	orders := 0
	allSubstPairs(func(first, second impl.Subst) {
		composed, ok := impl.ComposeSubst(first, second)
		if !ok {
			return
		}
		product, _ := impl.MultiplyMatrices(impl.MatrixOf(second), impl.MatrixOf(first))
		if !sameRows(impl.MatrixOf(composed), product) {
			t.Errorf("MatrixOf(%q) = %v, the product is %v", composed.Images, impl.MatrixOf(composed), product)
		}
		turned, _ := impl.MultiplyMatrices(impl.MatrixOf(first), impl.MatrixOf(second))
		if !sameRows(turned, product) {
			orders++
		}
	})
	if orders == 0 {
		t.Error("no pair of substitutions whose order matters")
	}
}

func TestUniformLengths(t *testing.T) {
	for _, text := range someSubsts() {
		s := subst(text)
		length := impl.IsUniform(s)
		for k := range s.Images {
			power := 1
			for n := 0; n < 12 && length > 0; n++ {
				if got := impl.LengthAfter(s, letters[k:k+1], n); got != power {
					t.Errorf("LengthAfter(%q, %q, %d) = %d, want %d", text, letters[k:k+1], n, got, power)
				}
				power *= length
			}
		}
	}
}

// spaciousRows returns a matrix with more numbers behind each row and another
// row behind the last one.
func spaciousRows(m [][]int) [][]int {
	rows := make([][]int, 0, len(m)+1)
	for _, row := range m {
		long := append(slices.Clone(row), -7, -7)
		rows = append(rows, long[:len(row):len(row)+2])
	}
	return append(rows, []int{-7})[:len(m)]
}

func rowsStay(m, want [][]int) bool {
	all := m[:len(m)+1]
	for i, row := range m {
		if !slices.Equal(row[:len(row)+2], append(slices.Clone(want[i]), -7, -7)) {
			return false
		}
	}
	return len(m) == len(want) && slices.Equal(all[len(m)], []int{-7})
}

func TestMatrixArgumentsStay(t *testing.T) {
	for _, want := range append(noMatrices(), someMatrices()...) {
		m, other := spaciousRows(want), spaciousRows(want)
		impl.DeterminantOf(m)
		impl.TraceOf(m)
		impl.MultiplyMatrices(m, other)
		impl.MultiplyMatrices(m, m)
		if !rowsStay(m, want) || !rowsStay(other, want) {
			t.Fatalf("%v became %v and %v", want, m, other)
		}
	}
	for _, text := range append(someSubsts(), "ab,c", "ab,,a", "a,b,c,d,a", "aaaaaaaaa,b", "") {
		s := spacious(text)
		counts := []int{3, 1000, 0, 2, 1, -7, -7}
		impl.MatrixOf(s)
		impl.IsPrimitiveSubst(s)
		for n := range 6 {
			impl.CountAfter(s, counts[:n], n)
			impl.LengthAfter(s, "a", n)
			impl.ReachedBy(s, "b")
		}
		if !slices.Equal(counts, []int{3, 1000, 0, 2, 1, -7, -7}) {
			t.Fatalf("the counts became %v", counts)
		}
		if !slices.Equal(s.Images[:cap(s.Images)], append(strings.Split(text, ","), "spare")) {
			t.Fatalf("%q became %q", text, s.Images[:cap(s.Images)])
		}
	}
}

// overwrite changes all that a row can reach.
func overwrite(row []int) {
	for i := range row[:cap(row)] {
		row[:cap(row)][i] = -99
	}
}

func TestMatrixResultsAreNew(t *testing.T) {
	rows := [][]int{{1, 2, 3}, {4, 5, 6}, {7, 8, 9}}
	factor := identity(3)
	counts := []int{5, 6}
	s, same := subst("aab,b"), subst("a,b")
	for name, call := range map[string]func() [][]int{
		"MatrixOf":         func() [][]int { return impl.MatrixOf(s) },
		"CountAfter":       func() [][]int { after, _ := impl.CountAfter(s, counts, 3); return [][]int{after} },
		"CountAfter 0":     func() [][]int { after, _ := impl.CountAfter(same, counts, 0); return [][]int{after} },
		"MultiplyMatrices": func() [][]int { product, _ := impl.MultiplyMatrices(rows, factor); return product },
		"the other way":    func() [][]int { product, _ := impl.MultiplyMatrices(factor, rows); return product },
		"by itself":        func() [][]int { product, _ := impl.MultiplyMatrices(factor, factor); return product },
	} {
		want := cloned(call())
		for i := range want {
			result, later := call(), call()
			overwrite(result[i])
			result[i] = want[i]
			if !sameRows(result, want) {
				t.Errorf("%s: row %d of %v shares memory with another one", name, i, want)
			}
			if !sameRows(later, want) || !sameRows(call(), want) {
				t.Errorf("%s: row %d of %v shares memory with another result", name, i, want)
			}
		}
		if !sameRows(rows, [][]int{{1, 2, 3}, {4, 5, 6}, {7, 8, 9}}) || !sameRows(factor, identity(3)) || !slices.Equal(counts, []int{5, 6}) {
			t.Errorf("%s: the arguments became %v, %v and %v", name, rows, factor, counts)
		}
	}
}
