package tests

import (
	"math"
	"slices"
	"strings"
	"testing"

	"loop.example/g03209/impl"
)

const (
	lastIndex     = 10000
	longestFactor = 8
)

// fixedSubsts returns the texts of substitutions with no growing letter, one
// and several, with fixed points that grow slowly and fast, and with factors
// that come late.
func fixedSubsts() []string {
	return append(someSubsts(),
		"ab,bb,c", "ab,b,ca", "ab,c,d,d", "b,c,db,dd", "a,ba,cb,dc", "ad,b,c,dd", "b,bc,c", "c,b,ca", "abc,bca,cab", "dcba,b,cdab,d", "ab,bc,cd,da", "abcd,b,c,d", "ac,b,bb",
		"ab,bc,c", "ab,bc,cd,d", "aab,c,c", "bbbbbbbb,bbbbbbba", "aaaaaaab,c,d,d", "aaaaaaab,c,ad,d", "aaaaaaab,bbbbbbbc,ccccccca", "abcdabcd,bcdabcda,cdabcdab,dabcdabc",
		"ab,aac,d,cb", "aad,da,b,cc", "aaab,c,bba", "accb,b,ca", "aab,cc,baba", "b,c,d,da", "b,a,cb,d", "dd,c,b,dddddddd")
}

// plainGrowing looks at the images one by one.
func plainGrowing(images []string) string {
	growing := ""
	for k, image := range images {
		x := letters[k : k+1]
		if image != x && strings.HasPrefix(image, x) {
			growing += x
		}
	}
	return growing
}

// plainFixed replaces all letters of the word again and again, and cuts it off
// behind n letters.
func plainFixed(images []string, letter string, n int) string {
	w := letter
	for len(w) < n {
		w = applied(images, w)
		w = w[:min(n, len(w))]
	}
	return w[:n]
}

// lengthTable returns how long the letters are after 0, 1, 2 and so on
// applications, until one of them has more than most letters; longer ones
// count as most + 1.
func lengthTable(images []string, letter string, most int) [][]int {
	lengths := slices.Repeat([]int{1}, len(images))
	table := [][]int{lengths}
	for lengths[letter[0]-'a'] <= most {
		next := make([]int, len(images))
		for k, image := range images {
			for i := range len(image) {
				next[k] = min(next[k]+lengths[image[i]-'a'], most+1)
			}
		}
		lengths = next
		table = append(table, lengths)
	}
	return table
}

// plainLetterAt goes down from the last row of the table to the letter, without
// writing any word.
func plainLetterAt(images []string, table [][]int, letter string, n int) string {
	for level := len(table) - 2; level >= 0; level-- {
		image := images[letter[0]-'a']
		i := 0
		for n >= table[level][image[i]-'a'] {
			n -= table[level][image[i]-'a']
			i++
		}
		letter = image[i : i+1]
	}
	return letter
}

// plainPower applies the substitution to whole words, four times at most.
func plainPower(images []string) int {
	words := make([]string, len(images))
	for k := range words {
		words[k] = letters[k : k+1]
	}
	for n := 1; n <= 4; n++ {
		for k := range words {
			words[k] = applied(images, words[k])
			if words[k][0] == letters[k] {
				return n
			}
		}
	}
	return 0
}

// plainOrbit follows the first letters as far as the longest orbit can go.
func plainOrbit(images []string, letter string) string {
	orbit := ""
	for range 2 * len(images) {
		if !strings.Contains(orbit, letter) {
			orbit += letter
		}
		letter = images[letter[0]-'a'][:1]
	}
	return orbit
}

// plainFactors tries all words of n letters of the first letters, in order.
func plainFactors(w string, count, n int) []string {
	var factors []string
	var extend func(f string)
	extend = func(f string) {
		if !strings.Contains(w, f) {
			return
		}
		if len(f) == n {
			factors = append(factors, f)
			return
		}
		for i := range count {
			extend(f + letters[i:i+1])
		}
	}
	extend("")
	return factors
}

// everyFirst calls check with a substitution for each choice of the first
// letters of up to four images, and of one of three ends for each.
func everyFirst(check func(s impl.Subst)) {
	for n := 1; n <= 4; n++ {
		ends := []string{"", letters[:1], letters[n-1:n] + "a"}
		images := make([]string, n)
		var choose func(k int)
		choose = func(k int) {
			if k == n {
				check(impl.Subst{Images: slices.Clone(images)})
				return
			}
			for i := range n {
				for _, end := range ends {
					images[k] = letters[i:i+1] + end
					choose(k + 1)
				}
			}
		}
		choose(0)
	}
}

// eachGrowing calls check with all growing letters of fixedSubsts.
func eachGrowing(check func(s impl.Subst, letter string)) {
	for _, text := range fixedSubsts() {
		s := subst(text)
		for _, x := range plainGrowing(s.Images) {
			check(s, string(x))
		}
	}
}

func TestGrowingLetters(t *testing.T) {
	for text, want := range map[string]string{
		"ab,a": "a", "ab,ba": "ab", "ab,aa": "a", "a": "", "aa": "a", "aaaaaaaa": "a", "a,b": "", "b,a": "", "ba,ab": "", "a,bb": "b", "ab,b": "a", "b,ba": "b", "ba,b": "", "aab,a": "a",
		"ab,ac,a": "a", "abc,ac,b": "a", "a,b,c": "", "a,b,cc": "c", "b,c,a": "", "bb,cc,aa": "", "abc,bca,cab": "abc", "c,b,ca": "c", "ab,b,cc": "ac", "b,bc,cc": "bc", "aa,bb,c": "ab",
		"ab,ac,db,dc": "ad", "a,b,c,d": "", "aa,bb,cc,dd": "abcd", "a,b,c,dd": "d", "b,c,d,a": "", "ba,cb,dc,ad": "", "dd,c,b,dddddddd": "d", "ad,b,c,dd": "ad", "a,ba,cb,d": "bc", "dcba,b,cdab,d": "c", "b,bb,c,db": "bd",
	} {
		if got := impl.GrowingLetters(subst(text)); got != want {
			t.Errorf("GrowingLetters(%q) = %q, want %q", text, got, want)
		}
	}
	check := func(s impl.Subst) {
		if got, want := impl.GrowingLetters(s), plainGrowing(s.Images); got != want {
			t.Errorf("GrowingLetters(%q) = %q, want %q", s.Images, got, want)
		}
	}
	everyFirst(check)
	for _, text := range fixedSubsts() {
		check(subst(text))
	}
}

func TestFixedPoint(t *testing.T) {
	for _, c := range []struct {
		s, letter string
		n         int
		want      string
	}{
		{"ab,a", "a", 8, "abaababa"}, {"ab,a", "a", 0, ""}, {"ab,a", "a", 1, "a"}, {"ab,a", "a", 2, "ab"}, {"ab,a", "a", 3, "aba"}, {"ab,a", "a", 14, "abaababaabaaba"},
		{"ab,ba", "a", 17, "abbabaabbaababbab"}, {"ab,ba", "b", 17, "baababbaabbabaaba"}, {"ab,aa", "a", 16, "abaaabababaaabaa"}, {"aab,a", "a", 12, "aabaabaaabaa"},
		{"ab,ac,a", "a", 13, "abacabaabacab"}, {"abc,ac,b", "a", 12, "abcacbabcbac"}, {"ab,ac,db,dc", "a", 16, "abacabdbabacdcac"}, {"aa", "a", 5, "aaaaa"}, {"aaaaaaaa", "a", 400, strings.Repeat("a", 400)},
		{"ab,b", "a", 400, "a" + strings.Repeat("b", 399)}, {"ab,b", "a", 21, "a" + strings.Repeat("b", 20)}, {"ab,b", "a", 22, "a" + strings.Repeat("b", 21)}, {"ab,bc,c", "a", 16, "abbcbccbcccbcccc"},
		{"b,ba", "b", 9, "babbababb"}, {"ab,c,c", "a", 5, "abccc"}, {"a,b,ca", "c", 4, "caaa"}, {"b,c,d,da", "d", 12, "dabcddadabda"}, {"a,b,c,dddddddc", "d", 10, "dddddddcdd"},
		{"bbbbbbbb,bbbbbbba", "b", 24, "bbbbbbbabbbbbbbabbbbbbba"},
	} {
		if got, ok := impl.FixedPoint(subst(c.s), c.letter, c.n); got != c.want || !ok {
			t.Errorf("FixedPoint(%q, %q, %d) = %q, %v, want %q", c.s, c.letter, c.n, got, ok, c.want)
		}
	}
}

func TestFixedPointAllNumbers(t *testing.T) {
	eachGrowing(func(s impl.Subst, letter string) {
		want := plainFixed(s.Images, letter, longestWord)
		for n := range longestWord + 1 {
			if got, ok := impl.FixedPoint(s, letter, n); got != want[:n] || !ok {
				t.Errorf("FixedPoint(%q, %q, %d) = %q, %v", s.Images, letter, n, got, ok)
			}
		}
	})
}

func TestFixedPointEveryFirst(t *testing.T) {
	everyFirst(func(s impl.Subst) {
		for k := range s.Images {
			x := letters[k : k+1]
			want, growing := "", strings.Contains(plainGrowing(s.Images), x)
			if growing {
				want = plainFixed(s.Images, x, 20)
			}
			if got, ok := impl.FixedPoint(s, x, 20); got != want || ok != growing {
				t.Errorf("FixedPoint(%q, %q, 20) = %q, %v, want %q, %v", s.Images, x, got, ok, want, growing)
			}
		}
	})
}

func TestLetterAt(t *testing.T) {
	for _, c := range []struct {
		s, letter string
		n         int
		want      string
	}{
		{"ab,a", "a", 0, "a"}, {"ab,a", "a", 1, "b"}, {"ab,a", "a", 4, "b"}, {"ab,a", "a", 5, "a"}, {"ab,a", "a", 6764, "a"}, {"ab,a", "a", 4180, "b"}, {"ab,a", "a", 609, "b"}, {"ab,a", "a", 986, "a"},
		{"ab,ba", "a", 1023, "a"}, {"ab,ba", "a", 1024, "b"}, {"ab,ba", "a", 8191, "b"}, {"ab,ba", "a", 8192, "b"}, {"ab,ba", "b", 8192, "a"}, {"ab,ba", "a", 10000, "b"}, {"ab,ba", "b", 10000, "a"},
		{"ab,aa", "a", 1023, "a"}, {"ab,aa", "a", 2047, "b"}, {"ab,aa", "a", 9999, "a"}, {"ab,b", "a", 0, "a"}, {"ab,b", "a", 1, "b"}, {"ab,b", "a", 400, "b"}, {"ab,b", "a", 10000, "b"},
		{"aaaaaaab,c,ad,d", "a", 399, "a"}, {"aaaaaaab,c,ad,d", "a", 400, "d"}, {"aaaaaaab,c,d,d", "a", 399, "d"}, {"aaaaaaaa", "a", 10000, "a"}, {"a,b,c,dd", "d", 10000, "d"}, {"a,b,ca", "c", 5000, "a"},
		{"bbbbbbbb,bbbbbbba", "b", 4095, "b"}, {"bbbbbbbb,bbbbbbba", "b", 511, "a"}, {"bbbbbbbb,bbbbbbba", "b", 63, "b"}, {"bbbbbbbb,bbbbbbba", "b", 7, "a"},
	} {
		if got, ok := impl.LetterAt(subst(c.s), c.letter, c.n); got != c.want || !ok {
			t.Errorf("LetterAt(%q, %q, %d) = %q, %v, want %q", c.s, c.letter, c.n, got, ok, c.want)
		}
	}
}

func checkLetterAt(t *testing.T, s impl.Subst, table [][]int, letter string, n int) {
	want := plainLetterAt(s.Images, table, letter, n)
	if got, ok := impl.LetterAt(s, letter, n); got != want || !ok {
		t.Errorf("LetterAt(%q, %q, %d) = %q, %v, want %q", s.Images, letter, n, got, ok, want)
	}
}

func TestLetterAtMany(t *testing.T) {
	eachGrowing(func(s impl.Subst, letter string) {
		table := lengthTable(s.Images, letter, lastIndex)
		for _, n := range []int{0, 1, 2, 3, 7, 8, 9, 19, 20, 21, 63, 64, 65, 398, 399, 400, 401, 402, 511, 512, 513, 999, 1000, 1001, 4095, 4096, 4097, 9998, 9999, 10000} {
			checkLetterAt(t, s, table, letter, n)
		}
	})
	for _, c := range [][2]string{{"ab,a", "a"}, {"ab,ac,db,dc", "a"}} {
		s := subst(c[0])
		table := lengthTable(s.Images, c[1], lastIndex)
		for n := range lastIndex + 1 {
			checkLetterAt(t, s, table, c[1], n)
		}
	}
}

func TestLetterAtAgreesWithFixedPoint(t *testing.T) {
	eachGrowing(func(s impl.Subst, letter string) {
		w, _ := impl.FixedPoint(s, letter, longestWord)
		if len(w) != longestWord {
			t.Errorf("FixedPoint(%q, %q, 400) has %d letters", s.Images, letter, len(w))
		}
		for n := range len(w) {
			if got, ok := impl.LetterAt(s, letter, n); got != w[n:n+1] || !ok {
				t.Errorf("LetterAt(%q, %q, %d) = %q, %v, want %q", s.Images, letter, n, got, ok, w[n:n+1])
			}
		}
	})
}

func TestFixedFunctionsRefuseNumbers(t *testing.T) {
	far := []int{-2, -8, -400, -10000, 20000, 1 << 32, 1<<32 + 1, -1 << 32, math.MaxInt, math.MaxInt - 1, math.MinInt}
	for _, c := range [][2]string{{"aa", "a"}, {"ab,a", "a"}, {"ab,b", "a"}, {"a,bbbbbbbb", "b"}, {"ab,ac,a", "a"}, {"b,c,d,da", "d"}} {
		s := subst(c[0])
		for _, n := range append(far, -1, 0, 1, 399, 400, 401, 402, 800, 10000) {
			if got, ok := impl.FixedPoint(s, c[1], n); ok != (n >= 0 && n <= longestWord) || !ok && got != "" || ok && len(got) != n {
				t.Errorf("FixedPoint(%q, %q, %d) = %q, %v", c[0], c[1], n, got, ok)
			}
		}
		for _, n := range append(far, -1, 0, 1, 399, 400, 401, 9999, 10000, 10001, 10002) {
			if got, ok := impl.LetterAt(s, c[1], n); ok != (n >= 0 && n <= lastIndex) || !ok && got != "" || ok && len(got) != 1 {
				t.Errorf("LetterAt(%q, %q, %d) = %q, %v", c[0], c[1], n, got, ok)
			}
		}
		for _, n := range append(far, -1, 0, 1, 2, 7, 8, 9, 10, 399, 400, 401) {
			if got := impl.FixedFactors(s, c[1], n); (len(got) > 0) != (n >= 1 && n <= longestFactor) {
				t.Errorf("FixedFactors(%q, %q, %d) = %q", c[0], c[1], n, got)
			}
		}
	}
}

// refuseFixed checks that there is no fixed point, with numbers that are in
// order and others.
func refuseFixed(t *testing.T, s impl.Subst, letter string) {
	for _, n := range []int{-1, 0, 1, 5, 400, 401} {
		if got, ok := impl.FixedPoint(s, letter, n); got != "" || ok {
			t.Errorf("FixedPoint(%q, %q, %d) = %q, %v", s.Images, letter, n, got, ok)
		}
	}
	for _, n := range []int{-1, 0, 1, 10000, 10001} {
		if got, ok := impl.LetterAt(s, letter, n); got != "" || ok {
			t.Errorf("LetterAt(%q, %q, %d) = %q, %v", s.Images, letter, n, got, ok)
		}
	}
	for _, n := range []int{0, 1, 2, 8, 9} {
		if got := impl.FixedFactors(s, letter, n); len(got) != 0 {
			t.Errorf("FixedFactors(%q, %q, %d) = %q", s.Images, letter, n, got)
		}
	}
}

func refuseOrbit(t *testing.T, s impl.Subst, letter string) {
	if got := impl.OrbitOfFirst(s, letter); got != "" {
		t.Errorf("OrbitOfFirst(%q, %q) = %q", s.Images, letter, got)
	}
}

func TestFixedFunctionsRefuseSubsts(t *testing.T) {
	for _, s := range append(noSubsts(), subst("ab,a,b,c,d"), subst("aab,"), subst("aaaaaaaaab,a"), subst("ab,aa,bb,cc,dd"), subst("ab,e"), subst("aE,a"), subst("aa,bc")) {
		if got := impl.GrowingLetters(s); got != "" {
			t.Errorf("GrowingLetters(%q) = %q", s.Images, got)
		}
		if got := impl.PowerNeeded(s); got != 0 {
			t.Errorf("PowerNeeded(%q) = %d", s.Images, got)
		}
		for _, letter := range []string{"", "a", "b", "c", "d", "e", "ab", "aa"} {
			refuseFixed(t, s, letter)
			refuseOrbit(t, s, letter)
		}
		for _, w := range []string{"a", "b", "aa", "ab", "aba", "abaab", strings.Repeat("a", 9), strings.Join(s.Images, "")} {
			if w != "" && impl.IsFixedStart(s, w) {
				t.Errorf("IsFixedStart(%q, %q) = true", s.Images, w)
			}
		}
	}
}

func TestFixedFunctionsRefuseLetters(t *testing.T) {
	for _, text := range []string{"aa", "ab,a", "ab,ba", "aa,bb", "ab,ac,a", "abc,bca,cab", "ab,ac,db,dc", "aa,bb,cc,dd"} {
		s := subst(text)
		for _, letter := range append(noLetters(), letters[len(s.Images):], letters[:len(s.Images)]+"a", "a\x00", "\x00a", s.Images[0], text) {
			refuseFixed(t, s, letter)
			refuseOrbit(t, s, letter)
		}
		for b := range 256 {
			if b < 'a' || b >= 'a'+len(s.Images) {
				refuseFixed(t, s, string([]byte{byte(b)}))
				refuseOrbit(t, s, string([]byte{byte(b)}))
			}
		}
	}
}

// A letter that is not growing has no fixed point, whatever its image is.
func TestFixedFunctionsRefuseOtherLetters(t *testing.T) {
	refused := 0
	for _, text := range append(fixedSubsts(), "a", "a,b", "b,a", "ba,ab", "a,a", "aa,a", "aa,ab", "bb,b", "c,ab,b", "a,b,c", "b,b,b") {
		s := subst(text)
		growing := plainGrowing(s.Images)
		for k := range s.Images {
			x := letters[k : k+1]
			if strings.Contains(growing, x) {
				continue
			}
			refused++
			refuseFixed(t, s, x)
			for _, w := range []string{x, s.Images[k], x + s.Images[k], applied(s.Images, s.Images[k]), strings.Repeat(x, 3)} {
				if w[:1] == x && impl.IsFixedStart(s, w) {
					t.Errorf("IsFixedStart(%q, %q) = true", text, w)
				}
			}
		}
	}
	if refused == 0 {
		t.Error("all letters are growing")
	}
}

func TestIsFixedStart(t *testing.T) {
	for _, c := range []struct {
		s, w string
		want bool
	}{
		{"ab,a", "abaab", true}, {"ab,a", "abb", false}, {"ab,a", "", true}, {"ab,a", "a", true}, {"ab,a", "b", false}, {"ab,a", "ba", false}, {"ab,a", "aa", false}, {"ab,a", "abaaa", false}, {"ab,a", "abac", false},
		{"ab,a", "baab", false}, {"ab,ba", "abba", true}, {"ab,ba", "baab", true}, {"ab,ba", "abab", false}, {"ab,ba", "b", true}, {"ab,ba", "c", false}, {"a,b", "a", false}, {"a,b", "aa", false}, {"a,b", "", true},
		{"aa", strings.Repeat("a", 400), true}, {"aa", strings.Repeat("a", 401), false}, {"aa", strings.Repeat("a", 399) + "b", false}, {"a", "a", false}, {"a", strings.Repeat("a", 400), false},
		{"ab,b", "a" + strings.Repeat("b", 399), true}, {"ab,b", "a" + strings.Repeat("b", 400), false}, {"ab,b", "bb", false}, {"ab,b", "b", false}, {"b,a", "ab", false}, {"ab,ac,db,dc", "abacabdb", true},
		{"ab,ac,db,dc", "d", true}, {"ab,ac,db,dc", "c", false}, {"aab,a", "aabaabaab", false}, {"aab,a", "aabaabaa", true}, {"ab,a", "abaab\n", false}, {"ab,a", " abaab", false}, {"ab,a", "ABAAB", false}, {"ab,a", "abaab,", false},
	} {
		if got := impl.IsFixedStart(subst(c.s), c.w); got != c.want {
			t.Errorf("IsFixedStart(%q, %q) = %v", c.s, c.w, got)
		}
	}
	for _, s := range noSubsts() {
		if !impl.IsFixedStart(s, "") {
			t.Errorf("IsFixedStart(%q, the empty word) = false", s.Images)
		}
	}
	for _, w := range noWords() {
		for _, text := range []string{"aa", "ab,a", "ab,ba", "ab,b", "aa,bb,cc,dd", "ab,bc,cd,da"} {
			if impl.IsFixedStart(subst(text), w) {
				t.Errorf("IsFixedStart(%q, %q) = true", text, w)
			}
		}
	}
}

func TestIsFixedStartAllLengths(t *testing.T) {
	eachGrowing(func(s impl.Subst, letter string) {
		w := plainFixed(s.Images, letter, 2*longestWord)
		for n := 1; n <= len(w); n++ {
			if got := impl.IsFixedStart(s, w[:n]); got != (n <= longestWord) {
				t.Errorf("IsFixedStart(%q, %q) = %v", s.Images, w[:n], got)
			}
		}
	})
}

// A beginning of the fixed point with one letter changed is none.
func TestIsFixedStartChanged(t *testing.T) {
	for _, c := range [][2]string{{"aa", "a"}, {"ab,a", "a"}, {"ab,b", "a"}, {"b,ba", "b"}, {"ab,ac,a", "a"}, {"aaaaaaab,c,d,d", "a"}, {"b,c,d,da", "d"}} {
		s := subst(c[0])
		w := plainFixed(s.Images, c[1], longestWord)
		for i := range w {
			for _, x := range letters + "eA" {
				changed := w[:i] + string(x) + w[i+1:]
				for _, v := range []string{changed, changed[:i+1], changed[:min(i+2, len(w))]} {
					if got, want := impl.IsFixedStart(s, v), byte(x) == w[i]; got != want {
						t.Errorf("IsFixedStart(%q, %q) = %v", c[0], v, got)
					}
				}
			}
		}
	}
}

func TestIsFixedStartAllShortWords(t *testing.T) {
	for _, text := range fixedSubsts() {
		s := subst(text)
		starts := map[string]bool{"": true}
		for _, x := range plainGrowing(s.Images) {
			for n := range 4 {
				starts[plainFixed(s.Images, string(x), n+1)] = true
			}
		}
		for _, w := range stringsUpTo(letters, 4) {
			if got := impl.IsFixedStart(s, w); got != starts[w] {
				t.Errorf("IsFixedStart(%q, %q) = %v", text, w, got)
			}
		}
	}
}

func TestPowerNeeded(t *testing.T) {
	for text, want := range map[string]int{
		"a": 1, "aa": 1, "aaaaaaaa": 1, "ab,a": 1, "ab,ba": 1, "a,b": 1, "b,a": 2, "b,ab": 2, "ba,ab": 2, "bbbbbbbb,aaaaaaaa": 2, "b,b": 1, "a,a": 1, "b,ba": 1, "ba,b": 1,
		"b,c,a": 3, "bc,ca,ab": 3, "c,a,b": 3, "b,a,c": 1, "b,a,a": 2, "b,c,b": 2, "c,c,b": 2, "b,c,c": 1, "c,b,a": 1, "ba,aa,ab": 2, "b,c,ba": 2,
		"b,c,d,a": 4, "bb,cc,dd,aa": 4, "d,a,b,c": 4, "c,d,b,a": 4, "b,d,a,c": 4, "b,c,a,a": 3, "b,c,a,b": 3, "b,c,a,d": 1, "d,a,b,b": 3, "c,a,d,a": 3, "b,c,d,b": 3,
		"b,a,d,c": 2, "b,a,a,b": 2, "b,a,d,b": 2, "b,c,d,c": 2, "c,d,a,b": 2, "d,c,b,a": 2, "b,c,d,d": 1, "a,b,c,d": 1, "b,a,c,c": 1, "a,a,b,c": 1, "b,a,c,dd": 1, "d,d,d,c": 2,
	} {
		if got := impl.PowerNeeded(subst(text)); got != want {
			t.Errorf("PowerNeeded(%q) = %d, want %d", text, got, want)
		}
	}
	powers := map[int]int{}
	check := func(s impl.Subst) {
		want := plainPower(s.Images)
		powers[want]++
		if got := impl.PowerNeeded(s); got != want || got < 1 || got > len(s.Images) {
			t.Errorf("PowerNeeded(%q) = %d, want %d", s.Images, got, want)
		}
	}
	everyFirst(check)
	for _, text := range fixedSubsts() {
		check(subst(text))
	}
	for n := 1; n <= 4; n++ {
		if powers[n] == 0 {
			t.Errorf("no substitution needs the power %d", n)
		}
	}
}

func TestOrbitOfFirst(t *testing.T) {
	for _, c := range [][3]string{
		{"b,c,b", "a", "abc"}, {"b,c,b", "b", "bc"}, {"b,c,b", "c", "cb"}, {"ab,a", "a", "a"}, {"ab,a", "b", "ba"}, {"a", "a", "a"}, {"aaaa", "a", "a"}, {"a,b", "b", "b"}, {"b,a", "a", "ab"}, {"b,a", "b", "ba"},
		{"ba,ab", "b", "ba"}, {"b,b", "a", "ab"}, {"b,b", "b", "b"}, {"b,c,a", "a", "abc"}, {"b,c,a", "b", "bca"}, {"b,c,a", "c", "cab"}, {"c,a,b", "a", "acb"}, {"b,c,c", "a", "abc"}, {"c,b,b", "a", "acb"},
		{"ab,ac,a", "c", "ca"}, {"ab,ac,a", "b", "ba"}, {"b,c,d,a", "c", "cdab"}, {"b,c,d,b", "a", "abcd"}, {"b,c,d,b", "d", "dbc"}, {"b,c,d,c", "a", "abcd"}, {"b,c,d,c", "d", "dc"}, {"b,c,d,d", "a", "abcd"},
		{"d,c,b,a", "a", "ad"}, {"d,c,b,a", "b", "bc"}, {"ab,ac,db,dc", "d", "d"}, {"ab,ac,db,dc", "c", "cd"}, {"d,a,a,b", "c", "cadb"}, {"da,ab,ab,ba", "a", "adb"}, {"bbb,aaa,ddd,ccc", "d", "dc"}, {"acd,b,c,d", "a", "a"},
	} {
		if got := impl.OrbitOfFirst(subst(c[0]), c[1]); got != c[2] {
			t.Errorf("OrbitOfFirst(%q, %q) = %q, want %q", c[0], c[1], got, c[2])
		}
	}
	check := func(s impl.Subst) {
		for k := range s.Images {
			x := letters[k : k+1]
			if got, want := impl.OrbitOfFirst(s, x), plainOrbit(s.Images, x); got != want {
				t.Errorf("OrbitOfFirst(%q, %q) = %q, want %q", s.Images, x, got, want)
			}
		}
	}
	everyFirst(check)
	for _, text := range fixedSubsts() {
		check(subst(text))
	}
}

func TestFixedFactors(t *testing.T) {
	for _, c := range []struct {
		s, letter string
		n         int
		want      string
	}{
		{"ab,a", "a", 1, "a b"}, {"ab,a", "a", 2, "aa ab ba"}, {"ab,a", "a", 3, "aab aba baa bab"}, {"ab,a", "a", 4, "aaba abaa abab baab baba"}, {"aa", "a", 1, "a"}, {"aa", "a", 8, "aaaaaaaa"},
		{"ab,ba", "a", 2, "aa ab ba bb"}, {"ab,ba", "b", 3, "aab aba abb baa bab bba"}, {"ab,b", "a", 1, "a b"}, {"ab,b", "a", 2, "ab bb"}, {"ab,b", "a", 8, "abbbbbbb bbbbbbbb"}, {"b,ba", "b", 2, "ab ba bb"},
		{"a,ba", "b", 2, "aa ba"}, {"a,ba", "b", 8, "aaaaaaaa baaaaaaa"}, {"a,b,ca", "c", 3, "aaa caa"}, {"ab,ac,a", "a", 2, "aa ab ac ba ca"}, {"b,c,d,da", "d", 1, "a b c d"},
		{"ab,ac,db,dc", "a", 2, "ab ac ba bd ca cd db dc"}, {"aaaaaaab,c,ad,d", "a", 1, "a b c"}, {"aaaaaaab,c,d,d", "a", 1, "a b c d"}, {"aaaaaaab,c,d,d", "a", 2, "aa ab ba bc ca cd"}, {"a,b,c,dc", "d", 4, "cccc dccc"},
	} {
		if got := impl.FixedFactors(subst(c.s), c.letter, c.n); !slices.Equal(got, strings.Split(c.want, " ")) {
			t.Errorf("FixedFactors(%q, %q, %d) = %q, want %q", c.s, c.letter, c.n, got, c.want)
		}
	}
}

// Among the substitutions are some with a factor that comes first at the end of
// the first 400 letters, and some with one that comes first right behind it.
func TestFixedFactorsAll(t *testing.T) {
	var last, next [longestFactor + 1]int
	eachGrowing(func(s impl.Subst, letter string) {
		w := plainFixed(s.Images, letter, longestWord+1)
		for n := 1; n <= longestFactor; n++ {
			if strings.Index(w, w[longestWord-n:longestWord]) == longestWord-n {
				last[n]++
			}
			if strings.Index(w, w[longestWord+1-n:]) == longestWord+1-n {
				next[n]++
			}
			want := plainFactors(w[:longestWord], len(s.Images), n)
			if got := impl.FixedFactors(s, letter, n); !slices.Equal(got, want) {
				t.Errorf("FixedFactors(%q, %q, %d) = %q, want %q", s.Images, letter, n, got, want)
			}
		}
	})
	for n := 1; n <= longestFactor; n++ {
		if last[n] == 0 || next[n] == 0 {
			t.Errorf("%d factors of %d letters at the end, %d behind it", last[n], n, next[n])
		}
	}
}

// The words that a growing letter becomes begin its fixed point, and their
// letters are counted by the matrix.
func TestFixedPointsAgreeWithSubstsAndMatrices(t *testing.T) {
	eachGrowing(func(s impl.Subst, letter string) {
		counts := make([]int, len(s.Images))
		counts[letter[0]-'a'] = 1
		for n := range 21 {
			w, ok := impl.IterateSubst(s, letter, n)
			if !ok {
				break
			}
			start, startOk := impl.FixedPoint(s, letter, impl.LengthAfter(s, letter, n))
			after, _ := impl.CountAfter(s, counts, n)
			if start != w || !startOk || !impl.IsFixedStart(s, w) || !slices.Equal(impl.CountsOf(start)[:len(counts)], after) {
				t.Errorf("%q becomes %q after %d applications of %q, the fixed point begins with %q", letter, w, n, s.Images, start)
			}
		}
	})
}

func TestFixedPointsStay(t *testing.T) {
	eachGrowing(func(s impl.Subst, letter string) {
		for n := range longestWord / 8 {
			w, _ := impl.FixedPoint(s, letter, n)
			image, ok := impl.ApplySubst(s, w)
			if !ok || !strings.HasPrefix(image, w) || !impl.IsFixedStart(s, image) {
				t.Errorf("%q of %q is %q", s.Images, w, image)
			}
		}
	})
}

// Factors are factors, those of one letter are reached, and each one begins a
// longer one or ends the word.
func TestFixedFactorsAgree(t *testing.T) {
	eachGrowing(func(s impl.Subst, letter string) {
		w, _ := impl.FixedPoint(s, letter, longestWord)
		reached := impl.ReachedBy(s, letter)
		for n := 1; n <= longestFactor; n++ {
			factors := impl.FixedFactors(s, letter, n)
			for i, f := range factors {
				if !impl.IsFactor(w, f) || len(f) != n || i > 0 && !impl.BeforeWord(factors[i-1], f) || n == 1 && !strings.Contains(reached, f) {
					t.Errorf("FixedFactors(%q, %q, %d) = %q", s.Images, letter, n, factors)
				}
				if n == longestFactor || strings.HasSuffix(w, f) {
					continue
				}
				longer := impl.FixedFactors(s, letter, n+1)
				if !slices.ContainsFunc(longer, func(g string) bool { return strings.HasPrefix(g, f) }) {
					t.Errorf("%q of FixedFactors(%q, %q, %d) begins none of %q", f, s.Images, letter, n, longer)
				}
			}
		}
	})
}

// Growing letters stay where they are, and need the power 1.
func TestOrbitsAgree(t *testing.T) {
	everyFirst(func(s impl.Subst) {
		power := impl.PowerNeeded(s)
		for k := range s.Images {
			x := letters[k : k+1]
			orbit := impl.OrbitOfFirst(s, x)
			if strings.Contains(impl.GrowingLetters(s), x) && (orbit != x || power != 1) {
				t.Errorf("%q is growing for %q, with the orbit %q and the power %d", x, s.Images, orbit, power)
			}
			after, ok := impl.IterateSubst(s, x, len(orbit))
			if !ok || !strings.Contains(orbit, after[:1]) || after[:1] == x && power > len(orbit) {
				t.Errorf("%q becomes %q by %q, with the orbit %q and the power %d", x, after, s.Images, orbit, power)
			}
			if !strings.Contains(impl.ReachedBy(s, x), orbit[len(orbit)-1:]) {
				t.Errorf("%q of the orbit of %q is not reached by %q", orbit, x, s.Images)
			}
		}
	})
}

func TestFixedArgumentsStay(t *testing.T) {
	for _, text := range append(fixedSubsts(), "ab,c", "ab,,a", "a,b,c,d,a", "aaaaaaaaa,b", "") {
		s := spacious(text)
		impl.GrowingLetters(s)
		impl.IsFixedStart(s, "abaab")
		impl.PowerNeeded(s)
		for _, letter := range []string{"a", "b", "c", "d", ""} {
			impl.FixedPoint(s, letter, 100)
			impl.LetterAt(s, letter, 100)
			impl.OrbitOfFirst(s, letter)
			impl.FixedFactors(s, letter, 3)
		}
		if want := append(strings.Split(text, ","), "spare"); !slices.Equal(s.Images[:cap(s.Images)], want) {
			t.Fatalf("%q became %q", want, s.Images[:cap(s.Images)])
		}
	}
}

func TestFixedFactorsAreNew(t *testing.T) {
	eachGrowing(func(s impl.Subst, letter string) {
		for n := 1; n <= longestFactor; n++ {
			first, second := impl.FixedFactors(s, letter, n), impl.FixedFactors(s, letter, n)
			want := slices.Clone(first)
			for i := range first[:cap(first)] {
				first[:cap(first)][i] = "x"
			}
			if third := impl.FixedFactors(s, letter, n); !slices.Equal(second, want) || !slices.Equal(third, want) {
				t.Errorf("FixedFactors(%q, %q, %d) changed from %q to %q and %q", s.Images, letter, n, want, second, third)
			}
		}
	})
}

// A substitution that is changed after a call has another fixed point.
func TestFixedPointsKeepNothing(t *testing.T) {
	s := subst("ab,a")
	for _, text := range []string{"ab,a", "ab,ba", "aab,b", "b,ba", "ab,a"} {
		copy(s.Images, strings.Split(text, ","))
		other := subst(text)
		for k := range s.Images {
			x := letters[k : k+1]
			got, ok := impl.FixedPoint(s, x, 50)
			want, wantOk := impl.FixedPoint(other, x, 50)
			if got != want || ok != wantOk || impl.OrbitOfFirst(s, x) != impl.OrbitOfFirst(other, x) || impl.GrowingLetters(s) != impl.GrowingLetters(other) {
				t.Errorf("FixedPoint(%q, %q, 50) = %q, %v, want %q, %v", text, x, got, ok, want, wantOk)
			}
		}
	}
}
