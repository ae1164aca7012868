package tests

import (
	"fmt"
	"math"
	"math/big"
	"os"
	"os/exec"
	"regexp"
	"slices"
	"strings"
	"sync"
	"testing"

	"loop.example/g03209/impl"
)

const (
	mostDigits       = 60
	greatestNumbered = 1_000_000_000_000
	greatestShifted  = 1_000_000_000
	greatestSummed   = 1000
)

// numeralForm: a 1 and then digits 0, with digits 1 that follow digits 0.
var numeralForm = regexp.MustCompile(`\A(1(0+1)*0*)?\z`)

// writtenWeights returns the weights as the chapter names them, up to the
// greatest one that a numeral can have.
func writtenWeights() []int {
	return []int{
		1, 2, 3, 5, 8, 13, 21, 34, 55, 89, 144, 233, 377, 610, 987, 1597, 2584, 4181, 6765, 10946,
		17711, 28657, 46368, 75025, 121393, 196418, 317811, 514229, 832040, 1346269, 2178309, 3524578, 5702887, 9227465, 14930352,
		24157817, 39088169, 63245986, 102334155, 165580141, 267914296, 433494437, 701408733, 1134903170, 1836311903, 2971215073, 4807526976, 7778742049, 12586269025, 20365011074,
		32951280099, 53316291173, 86267571272, 139583862445, 225851433717, 365435296162, 591286729879, 956722026041, 1548008755920, 2504730781961,
	}
}

func plainNumeralOk(s string) bool { return len(s) <= mostDigits && numeralForm.MatchString(s) }

// plainNumber reads the digits from the first one on, without weights: it keeps
// the number that they count and what they would count with a 0 behind them. A
// numeral with two digits 0 behind it counts both together.
func plainNumber(digits string) int {
	number, shifted := 0, 0
	for i := range len(digits) {
		digit := int(digits[i] - '0')
		number, shifted = shifted+digit, number+shifted+2*digit
	}
	return number
}

// plainNumeral sets digits 1 from the first one on where the number is not
// passed by it.
func plainNumeral(n int) string {
	digits := []byte(strings.Repeat("0", mostDigits+1))
	for i := range digits {
		digits[i] = '1'
		if plainNumber(string(digits)) > n {
			digits[i] = '0'
		}
	}
	return strings.TrimLeft(string(digits), "0")
}

// goldenShift is the number of the numeral of n with a 0 behind it: 1 less than
// n + 1 times the greater root of t t = t + 1, rounded down.
func goldenShift(n int) int {
	m := big.NewInt(int64(n) + 1)
	root := new(big.Int).Mul(m, m)
	root.Mul(root, big.NewInt(5)).Sqrt(root)
	return int(root.Add(root, m).Int64())/2 - 1
}

// allNumerals returns the numerals of at most n digits, the shorter ones first
// and those of one length in order: the one with the index i is that of i.
func allNumerals(n int) []string {
	numerals := []string{"", "1"}
	level := numerals[1:]
	for range n - 1 {
		var next []string
		for _, s := range level {
			next = append(next, s+"0")
			if strings.HasSuffix(s, "0") {
				next = append(next, s+"1")
			}
		}
		numerals = append(numerals, next...)
		level = next
	}
	return numerals
}

// digitsWithSum returns, for each number up to most, the sets of different weights
// with this sum, each one as digits that need not be a numeral.
func digitsWithSum(most int) [][]string {
	sets := make([][]string, most+1)
	weights := writtenWeights()
	var choose func(i, sum int, digits string)
	choose = func(i, sum int, digits string) {
		if sum > most {
			return
		}
		if i < 0 {
			sets[sum] = append(sets[sum], digits)
			return
		}
		choose(i-1, sum, digits+"0")
		choose(i-1, sum+weights[i], digits+"1")
	}
	choose(slices.IndexFunc(weights, func(weight int) bool { return weight > most }), 0, "")
	return sets
}

// numbersInRange returns numbers from 0 to most: small ones, the weights and
// their sums, powers and mixed ones, each with its neighbors.
func numbersInRange(most int) []int {
	centers := []int{0, 20, 1000, most, most / 2, most / 3}
	weights := writtenWeights()
	for i, weight := range weights {
		centers = append(centers, weight, 2*weight, weight*weight)
		for k := range i {
			centers = append(centers, weight+weights[k], weight-weights[k])
		}
	}
	for power := 1; power <= most; power *= 10 {
		centers = append(centers, power, 2*power, 9*power)
	}
	for shift := range 41 {
		centers = append(centers, 1<<shift)
	}
	step := most/997 + 1
	for seed := range uint32(997) {
		centers = append(centers, int(seed)*step+mixedNumbers(seed, step, 1)[0])
	}
	var numbers []int
	for _, center := range centers {
		for n := center - 2; n <= center+2; n++ {
			if n >= 0 && n <= most {
				numbers = append(numbers, n)
			}
		}
	}
	slices.Sort(numbers)
	return slices.Compact(numbers)
}

// numbersOutside returns very small and very great numbers that are not from low
// to high, and the neighbors of both.
func numbersOutside(low, high int) []int {
	numbers := append(farNumbers(), low-1, low-2, low-1000, high+1, high+2, high+1000, 2*high, -high, -high-1, -1, -2, -60, 1<<32+high, 1<<62, -1<<62, math.MaxInt-high, math.MinInt+high)
	for _, n := range writtenWeights() {
		numbers = append(numbers, -n, high+n, math.MaxInt-n, math.MinInt+n)
	}
	return slices.DeleteFunc(numbers, func(n int) bool { return low <= n && n <= high })
}

// longNumerals returns numerals of each number of digits up to 60, with many and
// with few digits 1.
func longNumerals() []string {
	tens, zeros := strings.Repeat("10", 31), strings.Repeat("0", 60)
	var numerals []string
	for n := 1; n <= mostDigits; n++ {
		numerals = append(numerals, tens[:n], "1"+zeros[:n-1])
		for k := 1; k < n-1; k++ {
			numerals = append(numerals, "1"+zeros[:k]+tens[:n-k-1], tens[:k]+zeros[:n-k], "1"+zeros[:k]+"1"+zeros[:n-k-2])
		}
	}
	for seed := range uint32(300) {
		s := ""
		for _, run := range mixedNumbers(seed, 1+int(seed%6), 30) {
			s += "1" + zeros[:run]
		}
		for _, n := range []int{20, 41, 58, 59, 60} {
			numerals = append(numerals, s[:min(n, len(s))])
		}
	}
	return numerals
}

// noNumerals returns strings that are no numerals. Many of them would be but for
// one digit or byte.
func noNumerals() []string {
	tens, zeros := strings.Repeat("10", 40), strings.Repeat("0", 80)
	bad := []string{"0", "00", "01", "010", "0101", "00101", "11", "110", "011", "1011", "1101", "10110", "111", "1010110101", zeros[:59], zeros[:60], zeros[:61], zeros, "0" + tens[:59], "0" + tens[:60], "00" + tens[:58]}
	for n := 61; n <= 80; n++ {
		bad = append(bad, tens[:n], "1"+zeros[:n-1], "1"+zeros[:n-2]+"1", "0"+tens[:n-1])
	}
	for _, good := range []string{"1", "10", "1010", "10100", "100001", tens[:59], tens[:58], "1" + zeros[:58]} {
		for i := range len(good) {
			if good[i] == '1' {
				bad = append(bad, good[:i]+"1"+good[i:])
			}
		}
		for _, x := range append([]string{"2", "9", "a", "O", "l", "-", "11", "\xff\xfe", "\xe2\x82", "\xc0\xb1", "\uff10", "\u0661", "\u0130", "\u0131", "\u2130"}, outsiders...) {
			for i := range len(good) + 1 {
				bad = append(bad, good[:i]+x+good[i:])
			}
		}
	}
	return append(bad, strings.Repeat("10", 5000), strings.Repeat("0", 5000), strings.Repeat("1", 5000), strings.Repeat("\xff", 60), "1\n", "\n1", "1\n0", "1 0", "+1", "0b1", "1.", "1e1")
}

func checkWeight(t *testing.T, i, want int) {
	t.Helper()
	if got := impl.WeightOf(i); got != want {
		t.Errorf("WeightOf(%d) = %d, want %d", i, got, want)
	}
}

func checkNumeral(t *testing.T, n int, want string) {
	t.Helper()
	if got := impl.NumeralOf(n); got != want {
		t.Errorf("NumeralOf(%d) = %q, want %q", n, got, want)
	}
}

// checkNumber gives -1 for a string that is no numeral.
func checkNumber(t *testing.T, s string, want int) {
	t.Helper()
	if got, ok := impl.NumberOf(s), impl.NumeralOk(s); got != want || ok != (want >= 0) {
		t.Errorf("NumberOf(%q) = %d, NumeralOk %v, want %d", s, got, ok, want)
	}
}

func checkNextNumeral(t *testing.T, s, want string) {
	t.Helper()
	if got := impl.NextNumeral(s); got != want {
		t.Errorf("NextNumeral(%q) = %q, want %q", s, got, want)
	}
}

func checkShift(t *testing.T, n, want int) {
	t.Helper()
	if got := impl.ShiftNumeral(n); got != want {
		t.Errorf("ShiftNumeral(%d) = %d, want %d", n, got, want)
	}
}

func checkEnding(t *testing.T, n, want int) {
	t.Helper()
	if got := impl.EndingOf(n); got != want {
		t.Errorf("EndingOf(%d) = %d, want %d", n, got, want)
	}
}

func checkDigits(t *testing.T, n, want int) {
	t.Helper()
	if got := impl.DigitsOf(n); got != want {
		t.Errorf("DigitsOf(%d) = %d, want %d", n, got, want)
	}
}

func checkWays(t *testing.T, n, want int) {
	t.Helper()
	if got := impl.WaysToSum(n); got != want {
		t.Errorf("WaysToSum(%d) = %d, want %d", n, got, want)
	}
}

// zerosAtEnd is -1 for the numeral of 0, which has no digit.
func zerosAtEnd(numeral string) int {
	if numeral == "" {
		return -1
	}
	return len(numeral) - 1 - strings.LastIndex(numeral, "1")
}

// checkNumeralOf compares what can be said of a number with its numeral.
func checkNumeralOf(t *testing.T, n int, numeral string) {
	t.Helper()
	checkNumeral(t, n, numeral)
	checkNumber(t, numeral, n)
	checkEnding(t, n, zerosAtEnd(numeral))
	checkDigits(t, n, countBytes(numeral, '1'))
	if n <= greatestShifted {
		checkShift(t, n, plainNumber(numeral+"0"))
	}
}

func TestWeightOf(t *testing.T) {
	for i, want := range map[int]int{0: 1, 1: 2, 2: 3, 3: 5, 4: 8, 5: 13, 10: 144, 14: 987, 15: 1597, 30: 2178309, 43: 1134903170, 44: 1836311903, 45: 2971215073, 46: 4807526976, 57: 956722026041, 58: 1548008755920, 59: 2504730781961, 60: -1, 61: -1, -1: -1, -2: -1} {
		checkWeight(t, i, want)
	}
	weights := writtenWeights()
	if len(weights) != mostDigits {
		t.Fatalf("%d weights", len(weights))
	}
	for i, weight := range weights {
		checkWeight(t, i, weight)
		if i >= 2 {
			checkWeight(t, i, impl.WeightOf(i-1)+impl.WeightOf(i-2))
		}
	}
	for i := mostDigits - 1; i >= 0; i-- {
		checkWeight(t, i, weights[i])
	}
}

func TestWeightOfRefuses(t *testing.T) {
	for _, i := range numbersOutside(0, mostDigits-1) {
		checkWeight(t, i, -1)
	}
	for i := mostDigits; i <= 400; i++ {
		checkWeight(t, i, -1)
		checkWeight(t, mostDigits-1-i, -1)
	}
}

func TestNumeralOf(t *testing.T) {
	for n, want := range map[int]string{0: "", 1: "1", 2: "10", 3: "100", 4: "101", 5: "1000", 6: "1001", 7: "1010", 8: "10000", 11: "10100", 12: "10101", 13: "100000", 33: "1010101", 100: "1000010100", 1000: "100000000100000", -1: "", -2: "", 1_000_000_000_001: "", 1_000_000_000_002: "", 1_000_000: "10001010000000000010100000000", 999_999_999_999: "1000000100100101000000001000010001010000010100101000100010", 1_000_000_000_000: "1000000100100101000000001000010001010000010100101000100100"} {
		checkNumeral(t, n, want)
	}
	for i, weight := range writtenWeights() {
		if weight > greatestNumbered {
			checkNumeral(t, weight, "")
			continue
		}
		checkNumeral(t, weight, "1"+strings.Repeat("0", i))
		checkNumeral(t, weight-1, strings.Repeat("10", 30)[:i])
	}
}

// The greatest number with a NumeralOf has 58 digits; NumberOf goes on behind it.
func TestNumeralOfTheBound(t *testing.T) {
	want := plainNumeral(greatestNumbered)
	if len(want) != 58 || !plainNumeralOk(want) || plainNumber(want) != greatestNumbered {
		t.Fatalf("the numeral of 10 to the power of 12 would be %q", want)
	}
	checkNumeralOf(t, greatestNumbered, want)
	checkNumeralOf(t, greatestNumbered-1, plainNumeral(greatestNumbered-1))
	checkNextNumeral(t, plainNumeral(greatestNumbered-1), want)
	for n := greatestNumbered + 1; n < greatestNumbered+20; n++ {
		checkNumeral(t, n, "")
		checkEnding(t, n, -1)
		checkDigits(t, n, -1)
		checkNumber(t, plainNumeral(n), n)
	}
}

// All numbers with a numeral of up to 24 digits, as they follow each other.
func TestNumeralsInOrder(t *testing.T) {
	numerals := allNumerals(24)
	if len(numerals) != writtenWeights()[24] {
		t.Fatalf("%d numerals", len(numerals))
	}
	for n, numeral := range numerals {
		checkNumeralOf(t, n, numeral)
		if n > 0 {
			checkNextNumeral(t, numerals[n-1], numeral)
		}
	}
}

func TestNumeralsFarOut(t *testing.T) {
	for _, n := range numbersInRange(greatestNumbered) {
		numeral := plainNumeral(n)
		checkNumeralOf(t, n, numeral)
		checkNextNumeral(t, numeral, plainNumeral(n+1))
	}
}

func TestNumeralOfRefuses(t *testing.T) {
	for _, n := range numbersOutside(0, greatestNumbered) {
		checkNumeral(t, n, "")
	}
}

func TestNumberOf(t *testing.T) {
	tens, zeros := strings.Repeat("10", 31), strings.Repeat("0", 60)
	for s, want := range map[string]int{
		"": 0, "1": 1, "10": 2, "100": 3, "101": 4, "1000": 5, "1001": 6, "1010": 7, "10000": 8, "10100": 11, "10101": 12, "100101": 17, "1000010100": 100,
		"0": -1, "00": -1, "01": -1, "010": -1, "001": -1, "11": -1, "110": -1, "1100": -1, "1011": -1, "10110": -1, "10011": -1, "1001100": -1, "111": -1, "2": -1, "12": -1, "1 0": -1, "a": -1, "10a": -1, "/": -1, "1/": -1, "1\x00": -1, "\xff": -1, "1\xff0": -1, "1\xc3": -1, "\uff11": -1, "-1": -1, "+1": -1,
		tens[:59]: 2504730781960, tens[:60]: 4052739537880, "1" + zeros[:59]: 2504730781961, "1" + zeros[:58] + "1": 2504730781962, "1" + zeros[:58]: 1548008755920, tens[:61]: -1, "1" + zeros: -1, "1" + zeros[:59] + "1": -1, "0" + tens[:59]: -1, "0" + tens[:60]: -1, "11" + tens[2:60]: -1, tens[:59] + "1": -1,
		tens[:58] + "11": -1, tens[:30] + "11" + tens[32:60]: -1,
	} {
		checkNumber(t, s, want)
	}
}

func TestNumberOfAgrees(t *testing.T) {
	met := 0
	for _, s := range append(stringsUpTo("01", 15), longNumerals()...) {
		if !plainNumeralOk(s) {
			checkNumber(t, s, -1)
			checkNextNumeral(t, s, "")
			continue
		}
		met++
		number := plainNumber(s)
		checkNumber(t, s, number)
		if next := plainNumeral(number + 1); len(next) <= mostDigits {
			checkNextNumeral(t, s, next)
		} else {
			checkNextNumeral(t, s, "")
		}
		if number <= greatestNumbered {
			checkNumeralOf(t, number, s)
		}
	}
	if met < 5000 {
		t.Errorf("only %d numerals", met)
	}
}

func TestNumberOfRefuses(t *testing.T) {
	for _, s := range append(noNumerals(), stringsUpTo("012", 7)...) {
		if !plainNumeralOk(s) {
			checkNumber(t, s, -1)
			checkNextNumeral(t, s, "")
		}
	}
	for _, s := range noNumerals() {
		if plainNumeralOk(s) {
			t.Errorf("%q is a numeral", s)
		}
	}
	for x := range 256 {
		if sign := string([]byte{byte(x)}); sign != "0" && sign != "1" {
			for _, s := range []string{sign, "1" + sign, "10" + sign, sign + "1", sign + "10", "1" + sign + "0", "10" + sign + "10", strings.Repeat(sign, 60), strings.Repeat("10", 29) + sign} {
				checkNumber(t, s, -1)
				checkNextNumeral(t, s, "")
			}
		}
	}
}

func TestNextNumeral(t *testing.T) {
	tens, zeros := strings.Repeat("10", 31), strings.Repeat("0", 61)
	for s, want := range map[string]string{
		"": "1", "1": "10", "10": "100", "100": "101", "101": "1000", "1000": "1001", "1001": "1010", "1010": "10000", "10100": "10101", "10101": "100000", "10010": "10100", "100101": "101000", "1000101": "1001000", "1001010": "1010000", "10000": "10001", "100010": "100100", "10010101": "10100000", "100001010": "100010000",
		tens[:58]: "1" + zeros[:58], tens[:59]: "1" + zeros[:59], tens[:60]: "", "1" + zeros[:59]: "1" + zeros[:58] + "1", "1" + zeros[:58]: "1" + zeros[:57] + "1", tens[:58] + "00": tens[:58] + "01", tens[:57] + "001": tens[:57] + "010", tens[:56] + "0010": tens[:56] + "0100", tens[:57] + "000": tens[:57] + "001", "100" + tens[:57]: "101" + zeros[:57],
		tens[:61]: "", "1" + zeros[:60]: "", "1" + zeros[:59] + "1": "", "0": "", "00": "", "01": "", "11": "", "110": "", "1011": "", "1110": "", "2": "", "x": "", "1\xff": "", "10 ": "",
	} {
		checkNextNumeral(t, s, want)
	}
}

// From the last 2000 numerals of 60 digits, the way to the greatest one, which has
// no next one.
func TestNextNumeralAtTheBound(t *testing.T) {
	last := strings.Repeat("10", 30)
	number := plainNumber(last)
	if number != 4052739537880 || plainNumeral(number) != last || len(plainNumeral(number+1)) != mostDigits+1 {
		t.Fatalf("the greatest number would be %d", number)
	}
	s := plainNumeral(number - 2000)
	for n := number - 2000; n < number; n++ {
		checkNumber(t, s, n)
		next := plainNumeral(n + 1)
		checkNextNumeral(t, s, next)
		s = next
	}
	checkNextNumeral(t, last, "")
	s = strings.Repeat("10", 30)[:59]
	for n := writtenWeights()[59] - 1; n < writtenWeights()[59]+2000; n++ {
		checkNumber(t, s, n)
		next := plainNumeral(n + 1)
		checkNextNumeral(t, s, next)
		s = next
	}
}

func TestShiftNumeral(t *testing.T) {
	for n, want := range map[int]int{0: 0, 1: 2, 2: 3, 3: 5, 4: 7, 5: 8, 6: 10, 7: 11, 8: 13, 11: 18, 12: 20, 33: 54, 100: 162, 1_000_000_000: 1_618_033_989, 999_999_999: 1_618_033_987, -1: -1, -2: -1, 1_000_000_001: -1, 1_000_000_002: -1, greatestNumbered: -1} {
		checkShift(t, n, want)
	}
	weights := writtenWeights()
	for i, weight := range weights {
		if weight > greatestShifted {
			checkShift(t, weight, -1)
			continue
		}
		checkShift(t, weight, weights[i+1])
		checkShift(t, weight-1, weights[i+1]-1-(i+1)%2)
	}
}

func TestShiftNumeralAgrees(t *testing.T) {
	for _, n := range append(numbersInRange(greatestShifted), numbersFrom(0, 20_000, 1)...) {
		want := goldenShift(n)
		if plain := plainNumber(plainNumeral(n) + "0"); plain != want {
			t.Fatalf("the shift of %d would be %d or %d", n, plain, want)
		}
		checkShift(t, n, want)
	}
	for n := greatestShifted - 1000; n <= greatestShifted; n++ {
		checkShift(t, n, goldenShift(n))
	}
	for _, n := range numbersOutside(0, greatestShifted) {
		checkShift(t, n, -1)
	}
}

func TestEndingOf(t *testing.T) {
	for n, want := range map[int]int{1: 0, 2: 1, 3: 2, 4: 0, 5: 3, 6: 0, 7: 1, 8: 4, 9: 0, 10: 1, 11: 2, 12: 0, 13: 5, 100: 2, 1000: 5, 0: -1, -1: -1, -2: -1, greatestNumbered + 1: -1, greatestNumbered + 2: -1} {
		checkEnding(t, n, want)
	}
	for i, weight := range writtenWeights() {
		if weight > greatestNumbered {
			checkEnding(t, weight, -1)
			continue
		}
		checkEnding(t, weight, i)
	}
	for _, n := range numbersOutside(1, greatestNumbered) {
		checkEnding(t, n, -1)
	}
}

func TestDigitsOf(t *testing.T) {
	for n, want := range map[int]int{0: 0, 1: 1, 2: 1, 3: 1, 4: 2, 5: 1, 6: 2, 7: 2, 8: 1, 11: 2, 12: 3, 33: 4, 100: 3, 1000: 2, -1: -1, -2: -1, greatestNumbered + 1: -1, greatestNumbered + 2: -1} {
		checkDigits(t, n, want)
	}
	for i, weight := range writtenWeights() {
		if weight > greatestNumbered {
			checkDigits(t, weight, -1)
			continue
		}
		checkDigits(t, weight, 1)
		checkDigits(t, weight-1, (i+1)/2)
	}
	for _, n := range numbersOutside(0, greatestNumbered) {
		checkDigits(t, n, -1)
	}
}

func TestWaysToSum(t *testing.T) {
	for n, want := range map[int]int{0: 1, 1: 1, 2: 1, 3: 2, 4: 1, 5: 2, 6: 2, 7: 1, 8: 3, 9: 2, 10: 2, 11: 3, 12: 1, 13: 3, 16: 4, 24: 5, 37: 6, 50: 6, 58: 7, 63: 8, 100: 9, -1: -1, -2: -1, 1001: -1, 1002: -1} {
		checkWays(t, n, want)
	}
	for i, weight := range writtenWeights() {
		if weight > greatestSummed {
			checkWays(t, weight, -1)
			continue
		}
		checkWays(t, weight, i/2+1)
		checkWays(t, weight-1, 1)
	}
	for _, n := range numbersOutside(0, greatestSummed) {
		checkWays(t, n, -1)
	}
}

// Of all sets of different weights with a sum, one is the numeral, and none has
// fewer weights.
func TestWaysToSumAgrees(t *testing.T) {
	for n, sets := range digitsWithSum(greatestSummed) {
		checkWays(t, n, len(sets))
		numerals, fewest := 0, mostDigits
		for _, digits := range sets {
			numeral := strings.TrimLeft(digits, "0")
			if plainNumber(digits) != n {
				t.Fatalf("%q does not count %d", digits, n)
			}
			if plainNumeralOk(numeral) {
				numerals++
				checkNumeralOf(t, n, numeral)
			}
			fewest = min(fewest, countBytes(digits, '1'))
		}
		if numerals != 1 {
			t.Errorf("%d has %d numerals", n, numerals)
		}
		checkDigits(t, n, fewest)
	}
}

// NumberOf undoes NumeralOf, NextNumeral leads from each one to the next one, and
// ShiftNumeral puts one 0 behind.
func TestSumsAgree(t *testing.T) {
	for _, n := range append(numbersInRange(greatestNumbered), numbersFrom(0, 3000, 1)...) {
		numeral := impl.NumeralOf(n)
		if !impl.NumeralOk(numeral) || impl.NumberOf(numeral) != n {
			t.Errorf("NumeralOf(%d) = %q, NumberOf %d", n, numeral, impl.NumberOf(numeral))
		}
		next := impl.NextNumeral(numeral)
		if impl.NumberOf(next) != n+1 || n < greatestNumbered && next != impl.NumeralOf(n+1) {
			t.Errorf("NextNumeral(%q) = %q, NumberOf %d", numeral, next, impl.NumberOf(next))
		}
		if impl.DigitsOf(n) != strings.Count(numeral, "1") {
			t.Errorf("DigitsOf(%d) = %d, NumeralOf %q", n, impl.DigitsOf(n), numeral)
		}
		if k := impl.EndingOf(n); n > 0 && (k < 0 || !strings.HasSuffix(numeral, "1"+strings.Repeat("0", k))) {
			t.Errorf("EndingOf(%d) = %d, NumeralOf %q", n, k, numeral)
		}
		if n == 0 || n > greatestShifted {
			continue
		}
		shifted := impl.ShiftNumeral(n)
		if impl.NumeralOf(shifted) != numeral+"0" || impl.EndingOf(shifted) != impl.EndingOf(n)+1 || impl.DigitsOf(shifted) != impl.DigitsOf(n) {
			t.Errorf("ShiftNumeral(%d) = %d, NumeralOf %q", n, shifted, impl.NumeralOf(shifted))
		}
	}
}

// A numeral counts the weights of its digits.
func TestNumeralsCountWeights(t *testing.T) {
	for _, s := range longNumerals() {
		sum := 0
		for i := range len(s) {
			if s[len(s)-1-i] == '1' {
				sum += impl.WeightOf(i)
			}
		}
		checkNumber(t, s, sum)
	}
}

// The letter with the index n of the fixed point is b exactly if the last digit
// is 1.
func TestEndingsAreLetters(t *testing.T) {
	fibonacci, ok := impl.NamedSubst("fibonacci")
	start, started := impl.FixedPoint(fibonacci, "a", impl.MaxWord)
	if !ok || !started {
		t.Fatal("there is no fixed point")
	}
	check := func(n int, letter string) {
		if ending := impl.EndingOf(n); ending < 0 || (ending == 0) != (letter == "b") {
			t.Errorf("EndingOf(%d) = %d, the letter is %q", n, ending, letter)
		}
	}
	for n := 1; n < len(start); n++ {
		check(n, start[n:n+1])
	}
	for n := 400; n <= 10_000; n += 37 {
		letter, _ := impl.LetterAt(fibonacci, "a", n)
		check(n, letter)
	}
}

type sumCall struct {
	call func() any
	want any
}

// sumCalls returns calls of each function: ordinary ones and refused ones.
func sumCalls() []sumCall {
	return []sumCall{
		{func() any { return impl.WeightOf(59) }, 2504730781961}, {func() any { return impl.WeightOf(0) }, 1}, {func() any { return impl.WeightOf(60) }, -1},
		{func() any { return impl.NumeralOf(100) }, "1000010100"}, {func() any { return impl.NumeralOf(0) }, ""}, {func() any { return impl.NumeralOf(-1) }, ""},
		{func() any { return impl.NumberOf("1000010100") }, 100}, {func() any { return impl.NumberOf("") }, 0}, {func() any { return impl.NumberOf("11") }, -1},
		{func() any { return impl.NumeralOk("101") }, true}, {func() any { return impl.NumeralOk("011") }, false},
		{func() any { return impl.NextNumeral("10101") }, "100000"}, {func() any { return impl.NextNumeral("0") }, ""}, {func() any { return impl.NextNumeral(strings.Repeat("10", 30)) }, ""},
		{func() any { return impl.ShiftNumeral(greatestShifted) }, 1_618_033_989}, {func() any { return impl.ShiftNumeral(0) }, 0}, {func() any { return impl.ShiftNumeral(greatestShifted + 1) }, -1},
		{func() any { return impl.EndingOf(987) }, 14}, {func() any { return impl.EndingOf(0) }, -1},
		{func() any { return impl.DigitsOf(33) }, 4}, {func() any { return impl.DigitsOf(0) }, 0}, {func() any { return impl.DigitsOf(math.MinInt) }, -1},
		{func() any { return impl.WaysToSum(100) }, 9}, {func() any { return impl.WaysToSum(0) }, 1}, {func() any { return impl.WaysToSum(math.MaxInt) }, -1},
	}
}

// checkCallsFrom makes all calls, beginning with one of them and going on by a
// step, in a circle.
func checkCallsFrom(t *testing.T, first, step int) {
	t.Helper()
	calls := sumCalls()
	for k := range calls {
		i := (first + k*step) % len(calls)
		if got := calls[i].call(); got != calls[i].want {
			t.Errorf("the call %d, after %d others from %d on by %d, answers %v, want %v", i, k, first, step, got, calls[i].want)
		}
	}
}

func TestSumsInAnyOrder(t *testing.T) {
	for first := range sumCalls() {
		for step := 1; step < len(sumCalls()); step++ {
			checkCallsFrom(t, first, step)
		}
	}
	for range 200 {
		checkCallsFrom(t, 0, 1)
	}
}

// Calls at the same time do not disturb each other.
func TestSumsSideBySide(t *testing.T) {
	var all sync.WaitGroup
	for first := range 4 * len(sumCalls()) {
		all.Go(func() {
			for step := range 8 {
				checkCallsFrom(t, first, step)
			}
		})
	}
	all.Wait()
}

// firstCall names the call that a process of its own makes first.
const firstCall = "FIRST_SUM_CALL"

// Each call may be the first one of a process.
func TestEachSumCallFirst(t *testing.T) {
	if first := os.Getenv(firstCall); first != "" {
		n, ok := impl.ParseInt(first)
		if !ok {
			t.Fatalf("%s is %q", firstCall, first)
		}
		checkCallsFrom(t, n, 1)
		return
	}
	for first := range sumCalls() {
		process := exec.Command(os.Args[0], "-test.run=^TestEachSumCallFirst$")
		process.Env = append(os.Environ(), fmt.Sprint(firstCall, "=", first))
		if output, err := process.CombinedOutput(); err != nil {
			t.Errorf("with the call %d first: %v\n%s", first, err, output)
		}
	}
}
