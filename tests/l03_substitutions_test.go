package tests

import (
	"math"
	"slices"
	"strings"
	"testing"

	"loop.example/g03209/impl"
)

// subst makes a substitution of a text, valid or not, by a plain split.
func subst(text string) impl.Subst { return impl.Subst{Images: strings.Split(text, ",")} }

var namedSubsts = map[string]string{
	"fibonacci": "ab,a", "thue": "ab,ba", "doubling": "ab,aa", "tribonacci": "ab,ac,a",
	"silver": "aab,a", "squarefree": "abc,ac,b", "rudin": "ab,ac,db,dc",
}

// someSubsts returns the texts of substitutions: all those of one image, of two
// short ones, and others of up to four images.
func someSubsts() []string {
	var texts []string
	for n := range 8 {
		texts = append(texts, strings.Repeat("a", n+1))
	}
	short := stringsUpTo("ab", 3)[1:]
	for _, a := range short {
		for _, b := range short {
			texts = append(texts, a+","+b)
		}
	}
	for _, text := range namedSubsts {
		texts = append(texts, text)
	}
	return append(texts,
		"a,b", "b,a", "a,a,a", "c,a,b", "a,b,c,d", "b,c,d,a", "d,c,b,a", "dddd,dddd,dddd,dddd", "abcd,bcda,cdab,dabc", "a,ab,abc,abcd",
		"d,cd,bcd,abcd", "ab,cd,ab,cd", "abc,ab,cba,ba", "aaaaaaaa,b", "a,bbbbbbbb", "abababab,babababa", "abcabcab,c,abc",
		"a,b,cccccccc,d", "abcdabcd,dcbadcba,aaaabbbb,ccccdddd", "ab,cd,a,bb", "b,ba", "ba,b,c", "bac,ca,b")
}

// noSubsts returns substitutions that are not valid: too few or too many
// images, and such with an image that is empty, too long or no word.
func noSubsts() []impl.Subst {
	bad := []impl.Subst{{}, {Images: []string{}}}
	for _, text := range []string{
		"", ",", ",,", ",,,", "a,", ",a", "ab,", ",ab", "ab,,a", "ab,a,", ",ab,a", "ab,a,,", "a,b,c,", ",b,c,d", "a,,c,d",
		"a,b,c,d,a", "a,a,a,a,a", "a,b,c,d,e", "a,b,c,d,", "ab,ac,db,dc,a", strings.Repeat("a,", 99) + "a",
		"aaaaaaaaa", "aaaaaaaaa,b", "a,bbbbbbbbb", "a,b,ccccccccc", "ddddddddd,b,c,d", "ab,ac,db,dcdcdcdcd", strings.Repeat("a", 400), strings.Repeat("a", 401),
		"b", "ab", "c", "d", "e", "ab,c", "c,ab", "ab,ac", "ad,b", "ab,ba,d", "ab,ad,a", "d,b,c", "ab,bc,ca,de", "ea,b,c,d", "ab,a,b,A",
		" ab,a", "ab ,a", "ab, a", "ab,a ", "ab;a", "ab a", "ab|a", "ab\na", "ab,a\n", "a-b,a", "AB,A", "Ab,a", "1,0", "ab,a0",
	} {
		bad = append(bad, subst(text))
	}
	for _, x := range outsiders {
		bad = append(bad, subst(x), subst("a"+x+",a"), subst("ab,"+x+"a"), subst("a,b,c,d"+x), impl.Subst{Images: []string{"ab", x}})
	}
	return bad
}

// isSubst says what a substitution is, byte by byte.
func isSubst(images []string) bool {
	ok := len(images) >= 1 && len(images) <= 4
	for _, image := range images {
		ok = ok && len(image) >= 1 && len(image) <= 8
		for i := range len(image) {
			ok = ok && image[i] >= 'a' && int(image[i]) < 'a'+len(images)
		}
	}
	return ok
}

func isWordOf(w string, n int) bool {
	ok := len(w) <= longestWord
	for i := range len(w) {
		ok = ok && w[i] >= 'a' && int(w[i]) < 'a'+min(n, 4)
	}
	return ok
}

// applied puts the images of a word's letters together, all of which it has.
func applied(images []string, w string) string {
	result := ""
	for i := range len(w) {
		result += images[w[i]-'a']
	}
	return result
}

// substWords returns words of the first n letters, short and long ones, among
// them all that are near the length where an image has 400 letters.
func substWords(s impl.Subst) []string {
	n := len(s.Images)
	words := stringsUpTo(letters[:n], 4)
	for k := range len(s.Images) {
		x := letters[k : k+1]
		m := longestWord / len(s.Images[k])
		for _, tail := range stringsUpTo(letters[:n], 2) {
			words = append(words, strings.Repeat(x, m)+tail, strings.Repeat(x, m-1)+tail, strings.Repeat(x, m-2)+tail)
		}
		words = append(words, strings.Repeat(x, longestWord), strings.Repeat(x, longestWord-1))
	}
	return slices.DeleteFunc(words, func(w string) bool { return len(w) > longestWord })
}

func TestSubstOk(t *testing.T) {
	for _, text := range someSubsts() {
		if !impl.SubstOk(subst(text)) {
			t.Errorf("SubstOk(%q) = false", text)
		}
	}
	for _, s := range noSubsts() {
		if impl.SubstOk(s) {
			t.Errorf("SubstOk(%q) = true", s.Images)
		}
	}
}

func TestSubstOkAllShort(t *testing.T) {
	images := append(stringsUpTo("abce", 2), "aaaaaaaa", "aaaaaaaaa", "d", "bd")
	level := [][]string{nil}
	for n := range 4 {
		var next [][]string
		for _, list := range level {
			if got, want := impl.SubstOk(impl.Subst{Images: list}), isSubst(list); got != want {
				t.Errorf("SubstOk(%q) = %v", list, got)
			}
			for _, image := range images {
				next = append(next, append(slices.Clone(list), image))
			}
		}
		if n == 3 {
			break
		}
		level = next
	}
}

func TestSubstOkAllBytesAndLengths(t *testing.T) {
	for n := 1; n <= 5; n++ {
		for k := range n {
			images := strings.Split(strings.Repeat("a,", n-1)+"a", ",")
			for b := range 256 {
				x := string([]byte{byte(b)})
				want := n <= 4 && b >= 97 && b < 97+n
				for _, image := range []string{x, "a" + x, x + "a", "aaaaaaa" + x} {
					images[k] = image
					if impl.SubstOk(impl.Subst{Images: images}) != want {
						t.Errorf("SubstOk(%q) = %v", images, !want)
					}
				}
			}
			for length := range 30 {
				images[k] = strings.Repeat(letters[:1], length)
				if impl.SubstOk(impl.Subst{Images: images}) != (n <= 4 && length >= 1 && length <= 8) {
					t.Errorf("SubstOk(%q) is wrong", images)
				}
			}
		}
	}
}

func TestApplySubst(t *testing.T) {
	for _, c := range []struct{ s, w, want string }{
		{"ab,a", "aba", "abaab"}, {"ab,a", "", ""}, {"ab,a", "a", "ab"}, {"ab,a", "b", "a"}, {"ab,a", "bb", "aa"}, {"ab,ba", "abba", "abbabaab"},
		{"ab,ac,a", "abc", "abaca"}, {"abc,ac,b", "cba", "bacabc"}, {"ab,ac,db,dc", "abcd", "abacdbdc"}, {"a", "aaa", "aaa"}, {"aa", "aaa", "aaaaaa"},
		{"b,a", "aab", "bba"}, {"b,c,d,a", "dabc", "abcd"}, {"aaaaaaaa", strings.Repeat("a", 50), strings.Repeat("a", 400)},
		{"ab,a", strings.Repeat("a", 200), strings.Repeat("ab", 200)}, {"ab,a", strings.Repeat("a", 199) + "bb", strings.Repeat("ab", 199) + "aa"},
		{"ab,a", strings.Repeat("b", 400), strings.Repeat("a", 400)}, {"b,a", strings.Repeat("ab", 200), strings.Repeat("ba", 200)},
	} {
		if got, ok := impl.ApplySubst(subst(c.s), c.w); got != c.want || !ok {
			t.Errorf("ApplySubst(%q, %q) = %q, %v, want %q", c.s, c.w, got, ok, c.want)
		}
	}
}

func TestApplySubstTooLong(t *testing.T) {
	for _, c := range [][2]string{
		{"ab,a", strings.Repeat("a", 200) + "b"}, {"ab,a", strings.Repeat("a", 201)}, {"ab,a", strings.Repeat("b", 399) + "a"}, {"ab,a", strings.Repeat("a", 400)},
		{"aaaaaaaa", strings.Repeat("a", 51)}, {"aaaaaaaa", strings.Repeat("a", 400)}, {"b,aa", "b" + strings.Repeat("a", 399)}, {"ab,ba", strings.Repeat("b", 201)},
	} {
		if got, ok := impl.ApplySubst(subst(c[0]), c[1]); got != "" || ok {
			t.Errorf("ApplySubst(%q, %q) = %q, %v", c[0], c[1], got, ok)
		}
	}
}

func TestApplySubstAllWords(t *testing.T) {
	lengths := map[int]int{}
	for _, text := range someSubsts() {
		s := subst(text)
		for _, w := range substWords(s) {
			want := applied(s.Images, w)
			lengths[len(want)]++
			fits := len(want) <= longestWord
			if !fits {
				want = ""
			}
			if got, ok := impl.ApplySubst(s, w); got != want || ok != fits {
				t.Errorf("ApplySubst(%q, %q) = %q, %v, want %q, %v", text, w, got, ok, want, fits)
			}
		}
	}
	if lengths[399] == 0 || lengths[400] == 0 || lengths[401] == 0 {
		t.Errorf("results of 399 to 401 letters: %d, %d, %d", lengths[399], lengths[400], lengths[401])
	}
}

// A substitution of n images refuses exactly the words with other letters than
// the first n.
func TestApplySubstRefusesOtherLetters(t *testing.T) {
	for _, text := range []string{"a", "aaa", "ab,a", "b,a", "ab,ac,a", "ab,ac,db,dc"} {
		s := subst(text)
		for _, w := range append(stringsUpTo(letters, 4), "aaaaaab", "bbbbbc", "caaaaa", "aaadaaa", strings.Repeat("a", 399)+"c") {
			want, fits := "", isWordOf(w, len(s.Images))
			if fits {
				want = applied(s.Images, w)
			}
			if len(want) > longestWord {
				want, fits = "", false
			}
			if got, ok := impl.ApplySubst(s, w); got != want || ok != fits {
				t.Errorf("ApplySubst(%q, %q) = %q, %v, want %q, %v", text, w, got, ok, want, fits)
			}
			for _, n := range []int{0, 1, 2} {
				if got, ok := impl.IterateSubst(s, w, n); !isWordOf(w, len(s.Images)) && (got != "" || ok) {
					t.Errorf("IterateSubst(%q, %q, %d) = %q, %v", text, w, n, got, ok)
				}
			}
		}
	}
}

func TestApplyAndIterateSubstRefuse(t *testing.T) {
	for _, s := range noSubsts() {
		for _, w := range []string{"", "a", "b", "aa", strings.Repeat("a", longestWord)} {
			if got, ok := impl.ApplySubst(s, w); got != "" || ok {
				t.Errorf("ApplySubst(%q, %q) = %q, %v", s.Images, w, got, ok)
			}
			for _, n := range []int{-1, 0, 1, 2, 20} {
				if got, ok := impl.IterateSubst(s, w, n); got != "" || ok {
					t.Errorf("IterateSubst(%q, %q, %d) = %q, %v", s.Images, w, n, got, ok)
				}
			}
		}
	}
	for _, w := range noWords() {
		for _, text := range []string{"a", "ab,a", "b,a", "ab,ac,a", "a,b,c,d", "ab,ac,db,dc"} {
			if got, ok := impl.ApplySubst(subst(text), w); got != "" || ok {
				t.Errorf("ApplySubst(%q, %q) = %q, %v", text, w, got, ok)
			}
			for _, n := range []int{-1, 0, 1, 20} {
				if got, ok := impl.IterateSubst(subst(text), w, n); got != "" || ok {
					t.Errorf("IterateSubst(%q, %q, %d) = %q, %v", text, w, n, got, ok)
				}
			}
		}
	}
}

func TestIterateSubst(t *testing.T) {
	for _, c := range []struct {
		s, w string
		n    int
		want string
	}{
		{"ab,a", "a", 4, "abaababa"}, {"ab,a", "a", 0, "a"}, {"ab,a", "a", 1, "ab"}, {"ab,a", "ba", 2, "ababa"}, {"ab,a", "", 20, ""}, {"ab,a", "", 0, ""},
		{"ab,ba", "a", 4, "abbabaabbaababba"}, {"ab,aa", "a", 3, "abaaabab"}, {"ab,ac,a", "a", 4, "abacabaabacab"}, {"aab,a", "a", 3, "aabaabaaabaabaaab"},
		{"b,a", "aab", 20, "aab"}, {"b,a", "aab", 19, "bba"}, {"b,c,d,a", "abcd", 18, "cdab"}, {"a", "aaa", 20, "aaa"}, {"a,b", strings.Repeat("ab", 200), 20, strings.Repeat("ab", 200)},
		{"aa", "a", 8, strings.Repeat("a", 256)}, {"ab,b", "a", 20, "a" + strings.Repeat("b", 20)}, {"ab,b", strings.Repeat("b", 379) + "a", 20, strings.Repeat("b", 379) + "a" + strings.Repeat("b", 20)},
		{"ab,ac,db,dc", "d", 2, "dcdb"}, {"aaaaaaaa", strings.Repeat("a", 400), 0, strings.Repeat("a", 400)},
	} {
		if got, ok := impl.IterateSubst(subst(c.s), c.w, c.n); got != c.want || !ok {
			t.Errorf("IterateSubst(%q, %q, %d) = %q, %v, want %q", c.s, c.w, c.n, got, ok, c.want)
		}
	}
}

func TestIterateSubstFailsOnTheWay(t *testing.T) {
	for _, c := range []struct {
		s, w string
		last int
	}{
		{"ab,a", "a", 12}, {"ab,ba", "a", 8}, {"aa", "a", 8}, {"aaaaaaaa", "a", 2}, {"aaaaaaaa", strings.Repeat("a", 51), 0},
		{"ab,b", strings.Repeat("b", 380) + "a", 19}, {"ab,b", strings.Repeat("b", 399) + "a", 0}, {"ab,ac,a", "a", 9}, {"ab,ac,db,dc", "c", 8},
	} {
		for n := range 21 {
			got, ok := impl.IterateSubst(subst(c.s), c.w, n)
			if ok != (n <= c.last) || (got == "") != (n > c.last) {
				t.Errorf("IterateSubst(%q, %q, %d) = %q, %v", c.s, c.w, n, got, ok)
			}
		}
	}
}

func TestIterateSubstAllNumbers(t *testing.T) {
	for _, text := range someSubsts() {
		s := subst(text)
		for _, w := range append(stringsUpTo(letters[:len(s.Images)], 2), strings.Repeat("a", longestWord)) {
			want := w
			for n := range 21 {
				fits := len(want) <= longestWord
				if !fits {
					want = ""
				}
				if got, ok := impl.IterateSubst(s, w, n); got != want || ok != fits {
					t.Errorf("IterateSubst(%q, %q, %d) = %q, %v, want %q, %v", text, w, n, got, ok, want, fits)
				}
				if !fits {
					break
				}
				want = applied(s.Images, want)
			}
		}
	}
}

func TestIterateSubstRefusesNumbers(t *testing.T) {
	for _, n := range []int{-1, -2, -20, -21, 21, 22, 40, 400, 1 << 32, 1<<32 + 1, math.MaxInt, math.MinInt} {
		for _, text := range []string{"a", "ab,a", "b,a", "a,b,c,d"} {
			for _, w := range []string{"", "a", "aa", strings.Repeat("a", longestWord)} {
				if got, ok := impl.IterateSubst(subst(text), w, n); got != "" || ok {
					t.Errorf("IterateSubst(%q, %q, %d) = %q, %v", text, w, n, got, ok)
				}
			}
		}
	}
}

func TestComposeSubst(t *testing.T) {
	for _, c := range [][3]string{
		{"ab,a", "b,a", "ba,b"}, {"b,a", "ab,a", "a,ab"}, {"ab,a", "ab,a", "aba,ab"}, {"ab,ba", "ab,ba", "abba,baab"}, {"aa", "aaaa", "aaaaaaaa"},
		{"aaaaaaaa", "a", "aaaaaaaa"}, {"a", "aaaaaaaa", "aaaaaaaa"}, {"ab,ac,a", "b,c,a", "bc,ba,b"}, {"b,c,d,a", "ab,ac,db,dc", "ac,db,dc,ab"},
		{"abab,baba", "ab,ba", "abbaabba,baabbaab"}, {"aaab,a", "ab,aa", "abababaa,ab"}, {"a,b", "aaaaaaaa,b", "aaaaaaaa,b"},
	} {
		got, ok := impl.ComposeSubst(subst(c[0]), subst(c[1]))
		if !slices.Equal(got.Images, strings.Split(c[2], ",")) || !ok {
			t.Errorf("ComposeSubst(%q, %q) = %q, %v, want %q", c[0], c[1], got.Images, ok, c[2])
		}
	}
	for _, c := range [][2]string{
		{"ab,a", "a"}, {"a", "ab,a"}, {"ab,a", "a,b,c"}, {"a,b,c", "ab,a"}, {"a,b,c", "a,b,c,d"}, {"a,b,c,d", "a,b,c"}, {"a", "a,b,c,d"}, {"a,b,c,d", "a"},
		{"aaa", "aaa"}, {"aaaaa", "aa"}, {"aaaaaaaa", "aa"}, {"aaaaaaaa", "aaaaaaaa"}, {"aaab,a", "ab,aaa"}, {"a,aaab", "ab,aaa"}, {"b,aaaaaaaa", "aa,b"}, {"a,b,c,dd", "a,b,c,ddddd"}, {"a,b,dd,d", "a,b,c,ddddd"},
	} {
		if got, ok := impl.ComposeSubst(subst(c[0]), subst(c[1])); got.Images != nil || ok {
			t.Errorf("ComposeSubst(%q, %q) = %q, %v", c[0], c[1], got.Images, ok)
		}
	}
}

// allSubstPairs calls check with the pairs of substitutions with two images of
// up to 2 letters, and of others.
func allSubstPairs(check func(s, t impl.Subst)) {
	var all []impl.Subst
	short := stringsUpTo("ab", 2)[1:]
	for _, a := range short {
		for _, b := range short {
			all = append(all, subst(a+","+b))
		}
	}
	for _, text := range []string{
		"a", "aa", "aaa", "aaaa", "aaaaa", "aaaaaaaa", "aab,a", "aaab,bbb", "abbbb,b", "aaaabbbb,a", "a,bbbbaaaa", "abababab,babababa", "ab,ac,a", "b,c,a", "abc,ac,b",
		"a,b,cccccccc", "ab,ac,db,dc", "b,c,d,a", "d,c,b,a", "abcd,bcda,cdab,dabc", "a,ab,abc,abcd", "a,b,c,dddddddd",
	} {
		all = append(all, subst(text))
	}
	for _, s := range all {
		for _, t := range all {
			check(s, t)
		}
	}
}

func TestComposeSubstAllPairs(t *testing.T) {
	lengths := map[int]int{}
	allSubstPairs(func(first, second impl.Subst) {
		var want []string
		fits := len(first.Images) == len(second.Images)
		for _, image := range first.Images {
			if !fits {
				break
			}
			composed := applied(second.Images, image)
			lengths[len(composed)]++
			want = append(want, composed)
			fits = len(composed) <= 8
		}
		got, ok := impl.ComposeSubst(first, second)
		if ok != fits || fits && !slices.Equal(got.Images, want) || !fits && got.Images != nil {
			t.Errorf("ComposeSubst(%q, %q) = %q, %v, want %q, %v", first.Images, second.Images, got.Images, ok, want, fits)
		}
		if !ok {
			return
		}
		for _, w := range stringsUpTo(letters[:len(first.Images)], 4) {
			once, onceOk := impl.ApplySubst(got, w)
			half, halfOk := impl.ApplySubst(first, w)
			twice, twiceOk := impl.ApplySubst(second, half)
			if once != twice || !onceOk || !halfOk || !twiceOk {
				t.Errorf("%q and then %q of %q is %q, composed %q", first.Images, second.Images, w, twice, once)
			}
		}
	})
	if lengths[8] == 0 || lengths[9] == 0 {
		t.Errorf("%d composed images of 8 letters, %d of 9", lengths[8], lengths[9])
	}
}

func TestComposeSubstRefuses(t *testing.T) {
	for _, bad := range noSubsts() {
		for _, good := range []impl.Subst{subst("a"), subst("ab,a"), subst("b,a"), subst("a,b,c"), subst("a,b,c,d"), bad} {
			if got, ok := impl.ComposeSubst(bad, good); got.Images != nil || ok {
				t.Errorf("ComposeSubst(%q, %q) = %q, %v", bad.Images, good.Images, got.Images, ok)
			}
			if got, ok := impl.ComposeSubst(good, bad); got.Images != nil || ok {
				t.Errorf("ComposeSubst(%q, %q) = %q, %v", good.Images, bad.Images, got.Images, ok)
			}
		}
	}
}

func TestIsUniform(t *testing.T) {
	for text, want := range map[string]int{
		"a": 1, "aaaa": 4, "aaaaaaaa": 8, "ab,a": 0, "a,ab": 0, "ab,ba": 2, "ab,aa": 2, "a,b": 1, "b,a": 1, "a,a,a": 1, "ab,ac,a": 0, "a,ac,ab": 0, "ab,a,ab": 0,
		"abc,ac,b": 0, "ab,ac,db,dc": 2, "abcd,bcda,cdab,dabc": 4, "ab,ac,db,d": 0, "ab,cd,a,bb": 0, "abababab,babababa": 8, "dddd,dddd,dddd,dddd": 4, "aaaaaaaa,b": 0,
	} {
		if got := impl.IsUniform(subst(text)); got != want {
			t.Errorf("IsUniform(%q) = %d, want %d", text, got, want)
		}
	}
	for _, text := range someSubsts() {
		s := subst(text)
		want := len(s.Images[0])
		for _, image := range s.Images {
			if len(image) != len(s.Images[0]) {
				want = 0
			}
		}
		if got := impl.IsUniform(s); got != want {
			t.Errorf("IsUniform(%q) = %d, want %d", text, got, want)
		}
	}
	for _, s := range noSubsts() {
		if got := impl.IsUniform(s); got != -1 {
			t.Errorf("IsUniform(%q) = %d", s.Images, got)
		}
	}
}

func TestIsCode(t *testing.T) {
	for text, want := range map[string]bool{
		"a": true, "aaaaaaaa": true, "ab,ba": true, "ab,aa": true, "a,b": true, "b,a": true, "aab,b": true, "abc,ac,b": true, "ab,ac,db,dc": true, "ba,b,c": false,
		"ab,a": false, "a,ab": false, "b,ba": false, "ba,b": false, "a,a": false, "ab,ab": false, "aab,a": false, "ab,ac,a": false, "a,b,a": false, "b,a,a": false, "a,b,b": false,
		"ab,b": true, "b,ab": true, "a,ba": true, "aba,ba": true, "ab,cd,a,bb": false, "ab,cd,ba,c": false, "d,c,b,a": true, "a,b,c,a": false, "ab,cd,ab,cd": false,
		"d,cd,bcd,abcd": true, "a,ab,abc,abcd": false, "abababab,abababa": false,
	} {
		if got := impl.IsCode(subst(text)); got != want {
			t.Errorf("IsCode(%q) = %v", text, got)
		}
	}
	for _, text := range someSubsts() {
		s := subst(text)
		want := true
		for i, start := range s.Images {
			for k, image := range s.Images {
				want = want && (i == k || !strings.HasPrefix(image, start))
			}
		}
		if got := impl.IsCode(s); got != want {
			t.Errorf("IsCode(%q) = %v", text, got)
		}
	}
	for _, s := range noSubsts() {
		if impl.IsCode(s) {
			t.Errorf("IsCode(%q) = true", s.Images)
		}
	}
}

func TestTurnSubst(t *testing.T) {
	for text, want := range map[string]string{
		"ab,a": "ba,a", "ab,ba": "ba,ab", "a": "a", "abc,ac,b": "cba,ca,b", "ab,ac,db,dc": "ba,ca,bd,cd", "aab,a": "baa,a", "aaaaaaab,abbbbbbb": "baaaaaaa,bbbbbbba", "b,c,d,a": "b,c,d,a",
	} {
		if got, ok := impl.TurnSubst(subst(text)); !slices.Equal(got.Images, strings.Split(want, ",")) || !ok {
			t.Errorf("TurnSubst(%q) = %q, %v, want %q", text, got.Images, ok, want)
		}
	}
	for _, text := range someSubsts() {
		s := subst(text)
		turned, ok := impl.TurnSubst(s)
		back, backOk := impl.TurnSubst(turned)
		if !ok || !backOk || len(turned.Images) != len(s.Images) || !slices.Equal(back.Images, s.Images) {
			t.Errorf("TurnSubst(%q) = %q, %v, and back %q, %v", text, turned.Images, ok, back.Images, backOk)
			continue
		}
		for i, image := range s.Images {
			if turned.Images[i] != impl.TurnWord(image) {
				t.Errorf("TurnSubst(%q) = %q", text, turned.Images)
			}
		}
	}
	for _, s := range noSubsts() {
		if got, ok := impl.TurnSubst(s); got.Images != nil || ok {
			t.Errorf("TurnSubst(%q) = %q, %v", s.Images, got.Images, ok)
		}
	}
}

func TestFormatAndParseSubst(t *testing.T) {
	for _, text := range someSubsts() {
		if got := impl.FormatSubst(subst(text)); got != text {
			t.Errorf("FormatSubst(%q) = %q", text, got)
		}
		if got, ok := impl.ParseSubst(text); !slices.Equal(got.Images, strings.Split(text, ",")) || !ok {
			t.Errorf("ParseSubst(%q) = %q, %v", text, got.Images, ok)
		}
	}
	for _, s := range noSubsts() {
		if got := impl.FormatSubst(s); got != "" {
			t.Errorf("FormatSubst(%q) = %q", s.Images, got)
		}
		text := strings.Join(s.Images, ",")
		if got, ok := impl.ParseSubst(text); !isSubst(strings.Split(text, ",")) && (got.Images != nil || ok) {
			t.Errorf("ParseSubst(%q) = %q, %v", text, got.Images, ok)
		}
	}
}

// An image with a comma inside is not the same as two images.
func TestFormatSubstCommaInside(t *testing.T) {
	for _, images := range [][]string{{"ab,a"}, {"a,b"}, {"a", "a,b"}, {"ab,a", "a"}, {"a,a", "b,b"}} {
		s := impl.Subst{Images: images}
		if impl.SubstOk(s) || impl.FormatSubst(s) != "" {
			t.Errorf("FormatSubst(%q) = %q", images, impl.FormatSubst(s))
		}
	}
}

func TestParseSubstAllShortTexts(t *testing.T) {
	for _, text := range stringsUpTo("abc, ", 6) {
		images := strings.Split(text, ",")
		got, ok := impl.ParseSubst(text)
		if isSubst(images) {
			if !slices.Equal(got.Images, images) || !ok || impl.FormatSubst(got) != text {
				t.Errorf("ParseSubst(%q) = %q, %v", text, got.Images, ok)
			}
		} else if got.Images != nil || ok {
			t.Errorf("ParseSubst(%q) = %q, %v", text, got.Images, ok)
		}
	}
}

func TestParseSubstRefuses(t *testing.T) {
	texts := []string{
		"ab;a", "ab|a", "ab/a", "ab.a", "ab:a", "ab\ta", "ab\na", "ab,a\n", "ab,a\r\n", "\nab,a", "ab, a", "ab ,a", " ab,a", "ab,a ", "ab,,a", ",ab,a", "ab,a,", ",", ",,",
		"ab\u3001a", "ab\uff0ca", "AB,A", "\"ab\",\"a\"", "[ab,a]", "{ab,a}", "ab,a#", "a=ab,b=a", "ab,a\x00", "\ufeffab,a", "fibonacci", "thue", "a,b,c,d,", "a,b,c,d,a",
		strings.Repeat(",", 5000), strings.Repeat("a,", 5000), strings.Repeat("a", 5000),
	}
	for _, text := range texts {
		if got, ok := impl.ParseSubst(text); got.Images != nil || ok {
			t.Errorf("ParseSubst(%q) = %q, %v", text, got.Images, ok)
		}
	}
}

func TestNamedSubst(t *testing.T) {
	for name, text := range namedSubsts {
		got, ok := impl.NamedSubst(name)
		if !slices.Equal(got.Images, strings.Split(text, ",")) || !ok || impl.FormatSubst(got) != text {
			t.Errorf("NamedSubst(%q) = %q, %v, want %q", name, got.Images, ok, text)
		}
		others := []string{name[1:], name[:len(name)-1], name + " ", " " + name, name + "s", name + "\n", name + "\x00", name + name, strings.ToUpper(name), strings.ToUpper(name[:1]) + name[1:], text}
		for _, other := range append(others, outsiders...) {
			if got, ok := impl.NamedSubst(other); got.Images != nil || ok {
				t.Errorf("NamedSubst(%q) = %q, %v", other, got.Images, ok)
			}
		}
	}
	for _, other := range []string{"", "x", "a", "fib", "period", "morse", "thuemorse", "thue-morse", "golden", "chacon", "cantor", "rudinshapiro", "identity", "bronze", ",", "fibonacci,thue"} {
		if got, ok := impl.NamedSubst(other); got.Images != nil || ok {
			t.Errorf("NamedSubst(%q) = %q, %v", other, got.Images, ok)
		}
	}
}

// spacious returns a substitution with one more image than it shows behind its
// own ones.
func spacious(text string) impl.Subst {
	images := append(strings.Split(text, ","), "spare")
	return impl.Subst{Images: images[: len(images)-1 : len(images)]}
}

func TestSubstArgumentsStay(t *testing.T) {
	for _, text := range append(someSubsts(), "ab,c", "ab,,a", "a,b,c,d,a", "aaaaaaaaa,b", "") {
		s, second := spacious(text), spacious(text)
		impl.SubstOk(s)
		impl.ApplySubst(s, "aab")
		impl.IterateSubst(s, "a", 3)
		impl.ComposeSubst(s, second)
		impl.ComposeSubst(s, s)
		impl.IsUniform(s)
		impl.IsCode(s)
		impl.TurnSubst(s)
		impl.FormatSubst(s)
		want := append(strings.Split(text, ","), "spare")
		for _, x := range []impl.Subst{s, second} {
			if !slices.Equal(x.Images[:cap(x.Images)], want) {
				t.Fatalf("%q became %q", want, x.Images[:cap(x.Images)])
			}
		}
	}
}

func TestSubstResultsAreNew(t *testing.T) {
	s, same := spacious("aab,bb"), spacious("a,b")
	makers := []func() (impl.Subst, bool){
		func() (impl.Subst, bool) { return impl.ComposeSubst(s, same) },
		func() (impl.Subst, bool) { return impl.ComposeSubst(same, s) },
		func() (impl.Subst, bool) { return impl.TurnSubst(s) },
		func() (impl.Subst, bool) { return impl.TurnSubst(same) },
		func() (impl.Subst, bool) { return impl.ParseSubst("aab,bb") },
		func() (impl.Subst, bool) { return impl.NamedSubst("fibonacci") },
		func() (impl.Subst, bool) { return impl.NamedSubst("rudin") },
	}
	for i, f := range makers {
		first, _ := f()
		second, _ := f()
		want := slices.Clone(first.Images)
		for k := range first.Images[:cap(first.Images)] {
			first.Images[:cap(first.Images)][k] = "x"
		}
		third, ok := f()
		if !ok || !slices.Equal(second.Images, want) || !slices.Equal(third.Images, want) {
			t.Errorf("result %d changed from %q to %q and %q", i, want, second.Images, third.Images)
		}
		if !slices.Equal(s.Images[:3], []string{"aab", "bb", "spare"}) || !slices.Equal(same.Images[:3], []string{"a", "b", "spare"}) {
			t.Fatalf("result %d shares memory with its arguments", i)
		}
	}
}

// Turning, cutting in two and iterating say the same words.
func TestSubstsAgree(t *testing.T) {
	for _, text := range someSubsts() {
		s := subst(text)
		turned, _ := impl.TurnSubst(s)
		for _, w := range stringsUpTo(letters[:len(s.Images)], 4) {
			image, ok := impl.ApplySubst(s, w)
			back, backOk := impl.ApplySubst(turned, impl.TurnWord(w))
			once, onceOk := impl.IterateSubst(s, w, 1)
			none, noneOk := impl.IterateSubst(s, w, 0)
			if !ok || !backOk || !onceOk || !noneOk || impl.TurnWord(back) != image || once != image || none != w {
				t.Errorf("%q of %q is %q, turned %q, once %q, zero times %q", text, w, image, back, once, none)
			}
			for k := range len(w) + 1 {
				left, _ := impl.ApplySubst(s, w[:k])
				right, _ := impl.ApplySubst(s, w[k:])
				if left+right != image {
					t.Errorf("%q of %q is %q, in two parts %q and %q", text, w, image, left, right)
				}
			}
			if n := impl.IsUniform(s); n > 0 && len(image) != n*len(w) {
				t.Errorf("%q of %q is %q, with images of %d letters", text, w, image, n)
			}
		}
	}
}

// The images of different words differ if the substitution is a code.
func TestCodesKeepWordsApart(t *testing.T) {
	for _, text := range someSubsts() {
		s := subst(text)
		if !impl.IsCode(s) {
			continue
		}
		from := map[string]string{}
		for _, w := range stringsUpTo(letters[:len(s.Images)], 4) {
			image, _ := impl.ApplySubst(s, w)
			if other, ok := from[image]; ok {
				t.Errorf("%q of %q and of %q is %q", text, w, other, image)
			}
			from[image] = w
		}
	}
}
