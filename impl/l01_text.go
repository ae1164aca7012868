package impl

import (
	"strconv"
	"strings"
)

const maxPadded = 2000

func FormatInt(n int) string { return strconv.Itoa(n) }

// ParseInt formats the number again because Atoi also takes texts that
// FormatInt never writes: a leading plus sign, leading zeros and -0.
func ParseInt(s string) (int, bool) {
	n, err := strconv.Atoi(s)
	if err != nil || FormatInt(n) != s {
		return 0, false
	}
	return n, true
}

func isDigit(r rune) bool { return '0' <= r && r <= '9' }

func isLower(r rune) bool { return 'a' <= r && r <= 'z' }

func IsDigits(s string) bool {
	for _, r := range s {
		if !isDigit(r) {
			return false
		}
	}
	return s != ""
}

func IsName(s string) bool {
	if len(s) < 1 || len(s) > 8 {
		return false
	}
	for i, r := range s {
		if !isLower(r) && (i == 0 || !isDigit(r)) {
			return false
		}
	}
	return true
}

// SplitAny goes byte by byte, not rune by rune: a separator can be a single
// byte of a longer rune, and a byte that is no valid text is one, too.
func SplitAny(s string, by string) []string {
	var parts []string
	start := 0
	for i := range len(s) {
		if strings.IndexByte(by, s[i]) >= 0 {
			parts = append(parts, s[start:i])
			start = i + 1
		}
	}
	return append(parts, s[start:])
}

func SplitLines(s string) []string {
	lines := SplitAny(s, "\n")
	last := len(lines) - 1
	if lines[last] == "" {
		return lines[:last]
	}
	return lines
}

func joinParts(by string, parts ...string) string { return strings.Join(parts, by) }

func Join(l []string, by string) string { return joinParts(by, l...) }

func PadZeros(s string, n int) string {
	if len(s) >= n || n > maxPadded {
		return s
	}
	return joinParts("", strings.Repeat("0", n-len(s)), s)
}
