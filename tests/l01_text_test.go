package tests

import (
	"math"
	"slices"
	"strings"
	"testing"

	"loop.example/g03209/impl"
)

// outsiders are bytes that are no valid text, letters and digits outside of
// ASCII, and the neighbors of the ranges that the chapter names.
var outsiders = []string{
	"\x00", "\x7f", "\x80", "\xff", "\xc3", "\xef\xbf\xbd", "\u00e9", "\u0664", "\uff11", "\U0001d7ce",
	"/", ":", "`", "{", "@", "A", "Z", " ", "\t", "\n", "_", "+", ".",
}

type numberText struct {
	n    int
	text string
}

func numberTexts() []numberText {
	return []numberText{
		{0, "0"}, {1, "1"}, {-1, "-1"}, {7, "7"}, {9, "9"}, {10, "10"}, {-10, "-10"},
		{99, "99"}, {100, "100"}, {-101, "-101"}, {1020304050, "1020304050"},
		{math.MaxInt32, "2147483647"}, {math.MinInt32, "-2147483648"}, {math.MaxInt32 + 1, "2147483648"},
		{1 << 53, "9007199254740992"}, {1000000000000000000, "1000000000000000000"},
		{math.MaxInt - 1, "9223372036854775806"}, {math.MaxInt, "9223372036854775807"},
		{math.MinInt + 1, "-9223372036854775807"}, {math.MinInt, "-9223372036854775808"},
	}
}

// decimal is FormatInt, written a second time, by digits.
func decimal(n int) string {
	if n < 0 {
		if n > -10 {
			return "-" + string(rune('0'-n))
		}
		return decimal(n/10) + string(rune('0'-n%10))
	}
	if n < 10 {
		return string(rune('0' + n))
	}
	return decimal(n/10) + string(rune('0'+n%10))
}

func TestFormatInt(t *testing.T) {
	for _, c := range numberTexts() {
		if got := impl.FormatInt(c.n); got != c.text {
			t.Errorf("FormatInt(%d) = %q, want %q", c.n, got, c.text)
		}
	}
	for n := -2000; n <= 2000; n++ {
		if got := impl.FormatInt(n); got != decimal(n) {
			t.Errorf("FormatInt(%d) = %q, want %q", n, got, decimal(n))
		}
	}
}

func TestParseInt(t *testing.T) {
	for _, c := range numberTexts() {
		if n, ok := impl.ParseInt(c.text); n != c.n || !ok {
			t.Errorf("ParseInt(%q) = %d, %v", c.text, n, ok)
		}
	}
}

func TestParseIntUndoesFormatInt(t *testing.T) {
	check := func(n int) {
		if m, ok := impl.ParseInt(impl.FormatInt(n)); m != n || !ok {
			t.Errorf("ParseInt of FormatInt(%d) = %d, %v", n, m, ok)
		}
	}
	for n := -2000; n <= 2000; n++ {
		check(n)
	}
	for e := range 63 {
		for d := -2; d <= 2; d++ {
			check(1<<e + d)
			check(-(1 << e) + d)
		}
	}
	for d := range 100 {
		check(math.MaxInt - d)
		check(math.MinInt + d)
	}
}

func TestParseIntRefuses(t *testing.T) {
	bad := []string{
		"", "-", "+", "--1", "-+1", "+-1", "+0", "+1", "-0", "-00", "00", "01", "007", "-01", "-007", "0000000000000000000000",
		"9223372036854775808", "-9223372036854775809", "18446744073709551615", "18446744073709551616", "18446744073709551617",
		"-18446744073709551616", "10000000000000000000", "99999999999999999999", "-99999999999999999999",
		"340282366920938463463374607431768211456", "09223372036854775807", "-09223372036854775808",
		" 1", "1 ", "1\n", "\t1", "1-", "1-2", "1_000", "0x10", "0b1", "0o7", "0x", "1e3", "1.0", ".5", "1,0", "a", "1a", "a1",
		strings.Repeat("9", 5000), strings.Repeat("0", 5000), "-" + strings.Repeat("1", 5000), strings.Repeat("-", 5000),
	}
	for _, x := range outsiders {
		bad = append(bad, x, x+"1", "1"+x, "1"+x+"1", "-"+x)
	}
	for _, s := range bad {
		if n, ok := impl.ParseInt(s); n != 0 || ok {
			t.Errorf("ParseInt(%q) = %d, %v", s, n, ok)
		}
	}
}

// Of all short strings, exactly the texts of the numbers are accepted.
func TestParseIntAllShortStrings(t *testing.T) {
	texts := map[string]int{}
	for n := -99999; n <= 99999; n++ {
		texts[decimal(n)] = n
	}
	for _, s := range stringsUpTo("0189-+ _", 5) {
		want, wantOk := texts[s]
		if n, ok := impl.ParseInt(s); n != want || ok != wantOk {
			t.Errorf("ParseInt(%q) = %d, %v, want %d, %v", s, n, ok, want, wantOk)
		}
	}
}

func TestIsDigits(t *testing.T) {
	for _, s := range []string{"0", "9", "00", "007", "0123456789", "18446744073709551616", strings.Repeat("5", 5000)} {
		if !impl.IsDigits(s) {
			t.Errorf("IsDigits(%q) = false", s)
		}
	}
	bad := []string{"", "a", "1a", "a1", "1b1", "-1", "+1", "1.5", "1 2", "0x1", strings.Repeat("5", 5000) + "x"}
	for _, x := range outsiders {
		bad = append(bad, x, "0"+x, x+"0", "0"+x+"0")
	}
	for _, s := range bad {
		if impl.IsDigits(s) {
			t.Errorf("IsDigits(%q) = true", s)
		}
	}
}

func TestIsDigitsAllBytes(t *testing.T) {
	for b := range 256 {
		x := string([]byte{byte(b)})
		want := b >= 48 && b <= 57
		for _, s := range []string{x, "1" + x, x + "1", "1" + x + "1"} {
			if impl.IsDigits(s) != want {
				t.Errorf("IsDigits(%q) = %v", s, !want)
			}
		}
	}
}

func TestIsName(t *testing.T) {
	for _, s := range []string{"a", "m", "z", "x1", "a0", "z9", "ab", "a1b2", "zzzzzzz", "abcdefgh", "a1234567", "z9999999"} {
		if !impl.IsName(s) {
			t.Errorf("IsName(%q) = false", s)
		}
	}
	bad := []string{"", "0", "9", "1x", "0abc", "A", "aB", "Ab", "abcdefghi", "a12345678", "zzzzzzzzz", "a b", " a", "a ", "a_b", "a-b", strings.Repeat("a", 5000)}
	for _, x := range outsiders {
		bad = append(bad, x, "a"+x, x+"a", "a"+x+"b")
	}
	for _, s := range bad {
		if impl.IsName(s) {
			t.Errorf("IsName(%q) = true", s)
		}
	}
}

func TestIsNameAllBytes(t *testing.T) {
	for b := range 256 {
		x := string([]byte{byte(b)})
		letter := b >= 97 && b <= 122
		inside := letter || b >= 48 && b <= 57
		for n := range 10 {
			rest := strings.Repeat("q", n)
			if got, want := impl.IsName(x+rest), letter && n <= 7; got != want {
				t.Errorf("IsName(%q) = %v", x+rest, got)
			}
			if got, want := impl.IsName("k"+rest+x), inside && n <= 6; got != want {
				t.Errorf("IsName(%q) = %v", "k"+rest+x, got)
			}
		}
	}
}

type splitting struct {
	s, by string
	want  []string
}

func TestSplitAny(t *testing.T) {
	for _, c := range []splitting{
		{"a,b c", ", ", []string{"a", "b", "c"}},
		{"abc", ",", []string{"abc"}},
		{"abc", "", []string{"abc"}},
		{"", "", []string{""}},
		{"", ",", []string{""}},
		{",", ",", []string{"", ""}},
		{",,", ",", []string{"", "", ""}},
		{",a,", ",", []string{"", "a", ""}},
		{"a,,b", ",", []string{"a", "", "b"}},
		{", a", ", ", []string{"", "", "a"}},
		{"a,b;c d", ";,", []string{"a", "b", "c d"}},
		{"a,b", ",,,", []string{"a", "b"}},
		{"aXbxc", "x", []string{"aXb", "c"}},
		{"a\nb\r\nc", "\n", []string{"a", "b\r", "c"}},
		{"a\x00b\x00", "\x00", []string{"a", "b", ""}},
		{"\x80a\xffb", "\xff", []string{"\x80a", "b"}},
		{"\x80a\xffb", "\xff\x80", []string{"", "a", "b"}},
		{"\xffa\xef\xbf\xbdb", "\xff", []string{"", "a\xef\xbf\xbdb"}},
		{"a\u00e9b", "\u00e8", []string{"a", "\xa9b"}},
		{"a\u00e9b", "\u00e9", []string{"a", "", "b"}},
		{"a\u00e9b", "\xa9", []string{"a\xc3", "b"}},
		{"a\xef\xbf\xbdb", "\x80", []string{"a\xef\xbf\xbdb"}},
	} {
		if got := impl.SplitAny(c.s, c.by); !slices.Equal(got, c.want) {
			t.Errorf("SplitAny(%q, %q) = %q, want %q", c.s, c.by, got, c.want)
		}
	}
}

func TestSplitAnyAllBytes(t *testing.T) {
	var all []byte
	for b := range 256 {
		all = append(all, byte(b))
	}
	for b := range 256 {
		want := []string{string(all[:b]), string(all[b+1:])}
		if got := impl.SplitAny(string(all), string(all[b:b+1])); !slices.Equal(got, want) {
			t.Errorf("SplitAny by %q = %q", all[b:b+1], got)
		}
	}
	if got := impl.SplitAny(string(all), string(all)); len(got) != 257 || impl.Join(got, "") != "" {
		t.Errorf("SplitAny of all bytes by all bytes = %q", got)
	}
}

// With n separators there are n + 1 elements without separators, which make
// the text again if it is joined by them.
func TestSplitAnyCounts(t *testing.T) {
	for _, by := range []string{"", ",", ";", ",;", "x"} {
		for _, s := range stringsUpTo("a,;\xc3", 5) {
			parts := impl.SplitAny(s, by)
			again := ""
			at := 0
			for i, p := range parts {
				if by != "" && strings.ContainsAny(p, by) {
					t.Errorf("SplitAny(%q, %q) = %q", s, by, parts)
				}
				again += p
				at += len(p)
				if i+1 < len(parts) && at < len(s) {
					again += s[at : at+1]
					at++
				}
			}
			n := 0
			for i := range len(by) {
				n += strings.Count(s, by[i:i+1])
			}
			if again != s || len(parts) != n+1 {
				t.Errorf("SplitAny(%q, %q) = %q", s, by, parts)
			}
		}
	}
}

func TestSplitLines(t *testing.T) {
	for _, c := range []splitting{
		{"", "", nil},
		{"\n", "", []string{""}},
		{"\n\n", "", []string{"", ""}},
		{"a", "", []string{"a"}},
		{"a\n", "", []string{"a"}},
		{"a\nb", "", []string{"a", "b"}},
		{"a\nb\n", "", []string{"a", "b"}},
		{"a\nb\n\n", "", []string{"a", "b", ""}},
		{"\na", "", []string{"", "a"}},
		{"\n\na\n", "", []string{"", "", "a"}},
		{"a\n\nb", "", []string{"a", "", "b"}},
		{"a\n ", "", []string{"a", " "}},
		{"a\r\nb\r", "", []string{"a\r", "b\r"}},
		{"\xff\n\x00\n\x85", "", []string{"\xff", "\x00", "\x85"}},
		{"a\u2028b\vc\fd", "", []string{"a\u2028b\vc\fd"}},
	} {
		if got := impl.SplitLines(c.s); !slices.Equal(got, c.want) {
			t.Errorf("SplitLines(%q) = %q, want %q", c.s, got, c.want)
		}
	}
}

// Lines, each followed by a newline, are split into the same lines, and the
// last newline does not matter if the last line is not empty.
func TestSplitLinesUndoesJoin(t *testing.T) {
	for _, s := range stringsUpTo("a\n\r\x80", 5) {
		lines := impl.SplitAny(s, "\n")
		if got := impl.SplitLines(s + "\n"); !slices.Equal(got, lines) {
			t.Errorf("SplitLines(%q) = %q, want %q", s+"\n", got, lines)
		}
		if lines[len(lines)-1] == "" {
			lines = lines[:len(lines)-1]
		}
		if got := impl.SplitLines(s); !slices.Equal(got, lines) {
			t.Errorf("SplitLines(%q) = %q, want %q", s, got, lines)
		}
	}
}

func TestJoin(t *testing.T) {
	for _, c := range []struct {
		l        []string
		by, want string
	}{
		{nil, ",", ""},
		{[]string{}, ",", ""},
		{[]string{""}, ",", ""},
		{[]string{"a"}, ",", "a"},
		{[]string{"", ""}, ",", ","},
		{[]string{"a", "b"}, ",", "a,b"},
		{[]string{"a", "", "b"}, ",", "a,,b"},
		{[]string{"", "a", ""}, ", ", ", a, "},
		{[]string{"a", "b", "c"}, "", "abc"},
		{[]string{"a,b", "c"}, ",", "a,b,c"},
		{[]string{"\xff", "\x80\x00"}, "\xc3", "\xff\xc3\x80\x00"},
		{[]string{"\xc3", "\xa9"}, "", "\u00e9"},
	} {
		if got := impl.Join(c.l, c.by); got != c.want {
			t.Errorf("Join(%q, %q) = %q, want %q", c.l, c.by, got, c.want)
		}
	}
}

func TestJoinUndoesSplitAny(t *testing.T) {
	for _, by := range []string{",", ";", "\xc3", "\n", "0"} {
		for _, s := range stringsUpTo("a,;\xc3", 5) {
			if got := impl.Join(impl.SplitAny(s, by), by); got != s {
				t.Errorf("Join of SplitAny(%q, %q) = %q", s, by, got)
			}
		}
	}
}

func TestPadZeros(t *testing.T) {
	for _, c := range []struct {
		s    string
		n    int
		want string
	}{
		{"7", 3, "007"},
		{"7", 2, "07"},
		{"7", 1, "7"},
		{"7", 0, "7"},
		{"7", -1, "7"},
		{"7", math.MinInt, "7"},
		{"7", 2001, "7"},
		{"7", math.MaxInt, "7"},
		{"", 0, ""},
		{"", -1, ""},
		{"", math.MinInt, ""},
		{"", 1, "0"},
		{"", 4, "0000"},
		{"", 2001, ""},
		{"1234", 3, "1234"},
		{"1234", 4, "1234"},
		{"1234", 5, "01234"},
		{"-5", 4, "00-5"},
		{"007", 5, "00007"},
		{"\xff", 2, "0\xff"},
		{"\u00e9", 2, "\u00e9"},
		{"\u00e9", 3, "0\u00e9"},
		{"\U0001d7ce", 4, "\U0001d7ce"},
		{"\x00", 3, "00\x00"},
	} {
		if got := impl.PadZeros(c.s, c.n); got != c.want {
			t.Errorf("PadZeros(%q, %d) = %q, want %q", c.s, c.n, got, c.want)
		}
	}
}

func TestPadZerosUpTo2000(t *testing.T) {
	long := strings.Repeat("x", 1999)
	for _, s := range []string{"", "7", "ab\xff", long, long + "x", long + "xy", long + long} {
		for n := -3; n <= 2005; n++ {
			want := s
			if n <= 2000 && n > len(s) {
				want = strings.Repeat("0", n-len(s)) + s
			}
			if got := impl.PadZeros(s, n); got != want {
				t.Fatalf("PadZeros of %d bytes to %d: %d bytes, want %d", len(s), n, len(got), len(want))
			}
		}
	}
}

func TestTextResultsAreNew(t *testing.T) {
	first := impl.SplitAny("a,b,c", ",")
	second := impl.SplitAny("a,b,c", ",")
	first[0] = "x"
	_ = append(first[:1], "y")
	if !slices.Equal(second, []string{"a", "b", "c"}) {
		t.Errorf("SplitAny: a later result is %q", second)
	}
	lines := impl.SplitLines("a\nb\n")
	again := impl.SplitLines("a\nb\n")
	lines[0] = "x"
	if _ = append(lines, "y"); !slices.Equal(again, []string{"a", "b"}) {
		t.Errorf("SplitLines: a later result is %q", again)
	}
}

func TestTextArgumentsStay(t *testing.T) {
	backing := []string{"a", "b", "spare", "room"}
	if got := impl.Join(backing[:2], "-"); got != "a-b" {
		t.Errorf("Join = %q", got)
	}
	if !slices.Equal(backing, []string{"a", "b", "spare", "room"}) {
		t.Errorf("Join changed its argument: %q", backing)
	}
}
