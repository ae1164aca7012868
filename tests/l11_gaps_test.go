package tests

import (
	"math"
	"runtime"
	"slices"
	"sync"
	"testing"
	"time"

	"loop.example/g03209/impl"
)

const (
	greatestCircle = 1000
	mostMultiples  = 400
	longestReturn  = 1000
)

// offCircle returns numbers that are no point of any circle, no length of one
// and no number of multiples; some of them are if only their last bits are
// looked at.
func offCircle() []int {
	isLength := func(n int) bool { return n == greatestCircle }
	return append(slices.DeleteFunc(farNumbers(), isLength), -1, -2, -3, -7, -8, -400, -999, -1001, 1001, 1002, 1003, 1400, 2000, 1<<32+3, 1<<32+8, 1<<32+400, 1<<32+999, 1<<32+1000, -1<<32+8)
}

// stepsFor returns steps for a circle of length q: small and great ones, such
// that are coprime to q and such that are not, and one near the golden section.
func stepsFor(q int) []int {
	var steps []int
	for _, p := range []int{0, 1, 2, 3, 10, 89, q / 5, q / 3, q / 2, q*382/1000 + 1, q * 618 / 1000, q - q/3, q - 10, q - 2, q - 1} {
		if p >= 0 && p < q {
			steps = append(steps, p)
		}
	}
	return steps
}

// plainMultiples goes around the circle step by step.
func plainMultiples(p, q, n int) []int {
	var multiples []int
	at := 0
	for range n {
		multiples = append(multiples, at)
		if at += p; at >= q {
			at -= q
		}
	}
	return multiples
}

// marksOf marks the numbers of a list that are less than n.
func marksOf(list []int, n int) []bool {
	marks := make([]bool, n)
	for _, number := range list {
		marks[number] = true
	}
	return marks
}

func markedNumbers(marks []bool) []int {
	var numbers []int
	for number, is := range marks {
		if is {
			numbers = append(numbers, number)
		}
	}
	return numbers
}

func plainPoints(p, q, n int) []int { return markedNumbers(marksOf(plainMultiples(p, q, n), q)) }

// plainGaps goes on from each point until it meets one.
func plainGaps(p, q, n int) []int {
	marks := marksOf(plainMultiples(p, q, n), q)
	var gaps []int
	for _, point := range markedNumbers(marks) {
		gap := 1
		for !marks[(point+gap)%q] {
			gap++
		}
		gaps = append(gaps, gap)
	}
	return gaps
}

func plainLengths(p, q, n int) []int { return markedNumbers(marksOf(plainGaps(p, q, n), q+1)) }

func plainNearest(p, q, n int) (int, int) {
	least, greatest := -1, -1
	multiples := plainMultiples(p, q, n)
	for i := n - 1; i > 0; i-- {
		if least < 0 || multiples[i] <= multiples[least] {
			least = i
		}
		if greatest < 0 || multiples[i] >= multiples[greatest] {
			greatest = i
		}
	}
	return least, greatest
}

func plainReturn(p, q, low, high, from int) int {
	at := from
	for i := range longestReturn {
		if at += p; at >= q {
			at -= q
		}
		if at >= low && at <= high {
			return i + 1
		}
	}
	return -1
}

func plainTimes(p, q, low, high int) []int {
	var times []int
	for from := low; from <= high; from++ {
		times = append(times, plainReturn(p, q, low, high, from))
	}
	return markedNumbers(marksOf(times, longestReturn+1))
}

func plainCount(p, q, n, low, high int) int {
	number := 0
	for _, point := range plainMultiples(p, q, n) {
		if point >= low && point <= high {
			number++
		}
	}
	return number
}

func checkPoints(t *testing.T, p, q, n int, want []int) {
	t.Helper()
	if got := impl.PointsOf(p, q, n); !slices.Equal(got, want) {
		t.Errorf("PointsOf(%d, %d, %d) = %v, want %v", p, q, n, got, want)
	}
}

func checkGaps(t *testing.T, p, q, n int, want []int) {
	t.Helper()
	if got := impl.GapsOf(p, q, n); !slices.Equal(got, want) {
		t.Errorf("GapsOf(%d, %d, %d) = %v, want %v", p, q, n, got, want)
	}
}

func checkLengths(t *testing.T, p, q, n int, want []int) {
	t.Helper()
	if got := impl.GapLengths(p, q, n); !slices.Equal(got, want) {
		t.Errorf("GapLengths(%d, %d, %d) = %v, want %v", p, q, n, got, want)
	}
}

func checkNearest(t *testing.T, p, q, n, least, greatest int) {
	t.Helper()
	if i, k := impl.NearestTo(p, q, n); i != least || k != greatest {
		t.Errorf("NearestTo(%d, %d, %d) = %d, %d, want %d, %d", p, q, n, i, k, least, greatest)
	}
}

func checkReturn(t *testing.T, p, q, low, high, from, want int) {
	t.Helper()
	if got := impl.ReturnTime(p, q, low, high, from); got != want {
		t.Errorf("ReturnTime(%d, %d, %d, %d, %d) = %d, want %d", p, q, low, high, from, got, want)
	}
}

func checkTimes(t *testing.T, p, q, low, high int, want []int) {
	t.Helper()
	if got := impl.ReturnTimes(p, q, low, high); !slices.Equal(got, want) {
		t.Errorf("ReturnTimes(%d, %d, %d, %d) = %v, want %v", p, q, low, high, got, want)
	}
}

func checkCountIn(t *testing.T, p, q, n, low, high, want int) {
	t.Helper()
	if got := impl.CountIn(p, q, n, low, high); got != want {
		t.Errorf("CountIn(%d, %d, %d, %d, %d) = %d, want %d", p, q, n, low, high, got, want)
	}
}

// checkCircle compares the functions of p, q and n with the plain second
// versions.
func checkCircle(t *testing.T, p, q, n int) {
	t.Helper()
	least, greatest := plainNearest(p, q, n)
	checkPoints(t, p, q, n, plainPoints(p, q, n))
	checkGaps(t, p, q, n, plainGaps(p, q, n))
	checkLengths(t, p, q, n, plainLengths(p, q, n))
	checkNearest(t, p, q, n, least, greatest)
	for _, part := range [][2]int{{0, q - 1}, {0, q}, {-1, q / 2}, {q / 2, q - 1}, {p, p}, {1, p}, {p, q}, {q - p, q}, {q / 3, q - q/3}, {q - q/3, q / 3}} {
		checkCountIn(t, p, q, n, part[0], part[1], plainCount(p, q, n, part[0], part[1]))
	}
}

// refuseMultiples checks that p, q and n are bad arguments of each function
// that they are given to.
func refuseMultiples(t *testing.T, p, q, n int) {
	t.Helper()
	checkPoints(t, p, q, n, nil)
	checkGaps(t, p, q, n, nil)
	checkLengths(t, p, q, n, nil)
	checkNearest(t, p, q, n, -1, -1)
	for _, part := range [][2]int{{0, 0}, {0, q - 1}, {-1, -1}, {5, 3}, {math.MinInt, math.MaxInt}, {math.MaxInt, math.MinInt}} {
		checkCountIn(t, p, q, n, part[0], part[1], -1)
	}
}

func TestPointsOf(t *testing.T) {
	for _, c := range []struct {
		p, q, n int
		want    []int
	}{
		{3, 8, 4, []int{0, 1, 3, 6}}, {3, 8, 1, []int{0}}, {3, 8, 2, []int{0, 3}}, {3, 8, 3, []int{0, 3, 6}}, {3, 8, 7, []int{0, 1, 2, 3, 4, 6, 7}}, {3, 8, 8, []int{0, 1, 2, 3, 4, 5, 6, 7}}, {3, 8, 9, []int{0, 1, 2, 3, 4, 5, 6, 7}}, {3, 8, 400, []int{0, 1, 2, 3, 4, 5, 6, 7}}, {2, 5, 3, []int{0, 2, 4}}, {1, 2, 1, []int{0}}, {1, 2, 2, []int{0, 1}}, {5, 13, 5, []int{0, 2, 5, 7, 10}},
		{0, 1, 1, []int{0}}, {0, 1, 2, []int{0}}, {0, 1, 400, []int{0}}, {0, 5, 3, []int{0}}, {0, 1000, 400, []int{0}}, {1, 1000, 1, []int{0}}, {999, 1000, 1, []int{0}},
		{2, 4, 1, []int{0}}, {2, 4, 2, []int{0, 2}}, {2, 4, 3, []int{0, 2}}, {2, 4, 400, []int{0, 2}}, {4, 6, 2, []int{0, 4}}, {4, 6, 3, []int{0, 2, 4}}, {6, 9, 400, []int{0, 3, 6}}, {500, 1000, 400, []int{0, 500}}, {750, 1000, 3, []int{0, 500, 750}}, {750, 1000, 400, []int{0, 250, 500, 750}},
		{1, 1000, 3, []int{0, 1, 2}}, {999, 1000, 3, []int{0, 998, 999}}, {998, 1000, 3, []int{0, 996, 998}}, {1, 1000, 400, numbersFrom(0, 399, 1)}, {999, 1000, 400, append([]int{0}, numbersFrom(601, 999, 1)...)}, {2, 1000, 400, numbersFrom(0, 798, 2)}, {4, 1000, 400, numbersFrom(0, 996, 4)}, {8, 1000, 400, numbersFrom(0, 992, 8)}, {7, 400, 400, numbersFrom(0, 399, 1)}, {1, 400, 399, numbersFrom(0, 398, 1)}, {1, 401, 400, numbersFrom(0, 399, 1)}, {400, 401, 400, append([]int{0}, numbersFrom(2, 400, 1)...)}, {3, 399, 400, numbersFrom(0, 396, 3)},
	} {
		checkPoints(t, c.p, c.q, c.n, c.want)
	}
}

func TestGapsOf(t *testing.T) {
	ones := slices.Repeat([]int{1}, 400)
	for _, c := range []struct {
		p, q, n int
		want    []int
	}{
		{3, 8, 4, []int{1, 2, 3, 2}}, {3, 8, 2, []int{3, 5}}, {5, 8, 2, []int{5, 3}}, {3, 8, 3, []int{3, 3, 2}}, {3, 8, 7, []int{1, 1, 1, 1, 2, 1, 1}}, {3, 8, 8, ones[:8]}, {3, 8, 400, ones[:8]}, {2, 5, 3, []int{2, 2, 1}}, {5, 13, 5, []int{2, 3, 2, 3, 3}}, {1, 2, 2, []int{1, 1}},
		{0, 1, 1, []int{1}}, {0, 1, 400, []int{1}}, {0, 5, 3, []int{5}}, {3, 8, 1, []int{8}}, {0, 1000, 1, []int{1000}}, {0, 1000, 400, []int{1000}}, {999, 1000, 1, []int{1000}}, {1, 2, 1, []int{2}},
		{2, 4, 2, []int{2, 2}}, {2, 4, 1, []int{4}}, {2, 4, 400, []int{2, 2}}, {4, 6, 2, []int{4, 2}}, {2, 6, 2, []int{2, 4}}, {4, 6, 3, []int{2, 2, 2}}, {6, 9, 400, []int{3, 3, 3}}, {500, 1000, 2, []int{500, 500}}, {750, 1000, 3, []int{500, 250, 250}},
		{1, 1000, 3, []int{1, 1, 998}}, {999, 1000, 3, []int{998, 1, 1}}, {1, 1000, 400, append(slices.Clone(ones[:399]), 601)}, {999, 1000, 400, append([]int{601}, ones[:399]...)}, {7, 400, 400, ones}, {1, 401, 400, append(slices.Clone(ones[:399]), 2)}, {400, 401, 400, append([]int{2}, ones[:399]...)}, {8, 1000, 400, slices.Repeat([]int{8}, 125)},
	} {
		checkGaps(t, c.p, c.q, c.n, c.want)
	}
}

func TestGapLengths(t *testing.T) {
	for _, c := range []struct {
		p, q, n int
		want    []int
	}{
		{0, 1, 1, []int{1}}, {0, 1, 400, []int{1}}, {0, 5, 3, []int{5}}, {3, 8, 1, []int{8}}, {0, 1000, 400, []int{1000}}, {1, 2, 2, []int{1}}, {1, 5, 5, []int{1}}, {3, 8, 8, []int{1}}, {3, 8, 400, []int{1}}, {6, 9, 400, []int{3}}, {500, 1000, 2, []int{500}}, {7, 400, 400, []int{1}}, {4, 1000, 400, []int{4}},
		{3, 8, 2, []int{3, 5}}, {5, 8, 2, []int{3, 5}}, {3, 8, 3, []int{2, 3}}, {2, 5, 3, []int{1, 2}}, {4, 6, 2, []int{2, 4}}, {5, 13, 5, []int{2, 3}}, {3, 10, 3, []int{3, 4}}, {3, 10, 4, []int{1, 3}}, {1, 1000, 3, []int{1, 998}}, {1, 1000, 400, []int{1, 601}}, {999, 1000, 400, []int{1, 601}}, {1, 401, 400, []int{1, 2}}, {750, 1000, 3, []int{250, 500}}, {2, 1000, 400, []int{2, 202}}, {1, 1000, 2, []int{1, 999}}, {999, 1000, 2, []int{1, 999}},
		{3, 8, 4, []int{1, 2, 3}}, {3, 10, 5, []int{1, 2, 3}}, {5, 13, 4, []int{2, 3, 5}}, {6, 16, 4, []int{2, 4, 6}}, {7, 1000, 144, []int{1, 6, 7}}, {300, 1000, 5, []int{100, 200, 300}}, {10, 399, 41, []int{1, 9, 10}}, {382, 1000, 4, []int{146, 236, 382}}, {618, 1000, 6, []int{90, 146, 236}},
	} {
		checkLengths(t, c.p, c.q, c.n, c.want)
	}
}

func TestNearestTo(t *testing.T) {
	for _, c := range []struct{ p, q, n, least, greatest int }{
		{3, 8, 1, -1, -1}, {0, 1, 1, -1, -1}, {0, 8, 1, -1, -1}, {7, 8, 1, -1, -1}, {0, 1000, 1, -1, -1}, {999, 1000, 1, -1, -1},
		{3, 8, 2, 1, 1}, {0, 8, 2, 1, 1}, {0, 1, 2, 1, 1}, {0, 1000, 2, 1, 1}, {999, 1000, 2, 1, 1}, {4, 8, 2, 1, 1},
		{0, 1, 3, 1, 1}, {0, 1, 400, 1, 1}, {0, 8, 5, 1, 1}, {0, 1000, 400, 1, 1},
		{3, 8, 3, 1, 2}, {3, 8, 4, 3, 2}, {3, 8, 5, 3, 2}, {3, 8, 6, 3, 5}, {3, 8, 8, 3, 5}, {3, 8, 9, 8, 5}, {3, 8, 10, 8, 5}, {3, 8, 400, 8, 5}, {5, 8, 3, 2, 1}, {5, 8, 9, 8, 3}, {5, 7, 7, 3, 4}, {5, 7, 8, 7, 4}, {5, 7, 15, 7, 4}, {2, 5, 8, 5, 2}, {2, 5, 5, 3, 2},
		{2, 4, 3, 2, 1}, {2, 4, 400, 2, 1}, {4, 6, 3, 2, 1}, {4, 6, 10, 3, 1}, {6, 9, 3, 2, 1}, {3, 9, 400, 3, 2}, {500, 1000, 400, 2, 1}, {250, 1000, 400, 4, 3}, {750, 1000, 400, 4, 1}, {1, 2, 400, 2, 1},
		{1, 1000, 400, 1, 399}, {999, 1000, 400, 399, 1}, {1, 400, 400, 1, 399}, {399, 400, 400, 399, 1}, {1, 399, 400, 399, 398}, {398, 399, 400, 399, 1}, {7, 1000, 144, 143, 142}, {7, 1000, 143, 1, 142}, {501, 1000, 400, 2, 399},
	} {
		checkNearest(t, c.p, c.q, c.n, c.least, c.greatest)
	}
}

func TestReturnTime(t *testing.T) {
	for _, c := range []struct{ p, q, low, high, from, want int }{
		{3, 8, 0, 1, 0, 3}, {3, 8, 0, 1, 1, 5}, {3, 8, 0, 1, 2, 2}, {3, 8, 0, 1, 5, 1}, {3, 8, 0, 1, 6, 1}, {3, 8, 0, 1, 7, 3}, {3, 8, 7, 7, 0, 5}, {3, 8, 7, 7, 7, 8}, {3, 8, 7, 7, 4, 1}, {3, 8, 0, 0, 0, 8}, {3, 8, 0, 0, 7, 3}, {3, 8, 4, 7, 4, 1}, {3, 8, 6, 7, 7, 5}, {3, 8, 6, 7, 6, 3}, {3, 8, 2, 5, 3, 3},
		{3, 8, 0, 7, 0, 1}, {3, 8, 0, 7, 7, 1}, {0, 8, 0, 7, 3, 1}, {0, 8, 3, 3, 3, 1}, {0, 8, 3, 4, 4, 1}, {0, 1, 0, 0, 0, 1}, {0, 1000, 999, 999, 999, 1}, {0, 1000, 0, 0, 0, 1}, {1, 1000, 0, 0, 999, 1}, {999, 1000, 0, 0, 1, 1}, {999, 1000, 999, 999, 0, 1}, {1, 1000, 999, 999, 998, 1}, {1, 2, 1, 1, 0, 1}, {1, 2, 1, 1, 1, 2},
		{1, 1000, 0, 0, 0, 1000}, {1, 1000, 999, 999, 999, 1000}, {999, 1000, 5, 5, 5, 1000}, {7, 1000, 3, 3, 3, 1000}, {501, 1000, 500, 500, 500, 1000}, {1, 1000, 0, 0, 1, 999}, {1, 1000, 999, 999, 0, 999}, {999, 1000, 998, 998, 997, 999}, {1, 999, 998, 998, 998, 999}, {1, 1000, 0, 1, 1, 999}, {1, 1000, 998, 999, 0, 998},
		{2, 8, 0, 0, 0, 4}, {6, 8, 2, 2, 2, 4}, {4, 8, 4, 4, 0, 1}, {6, 9, 3, 4, 0, 2}, {500, 1000, 0, 0, 0, 2}, {500, 1000, 0, 499, 999, 1}, {998, 1000, 1, 1, 1, 500}, {998, 1000, 0, 2, 1, 500},
		{0, 8, 3, 4, 0, -1}, {0, 8, 3, 4, 2, -1}, {0, 8, 3, 4, 5, -1}, {0, 1000, 1, 999, 0, -1}, {2, 8, 1, 1, 0, -1}, {2, 8, 7, 7, 6, -1}, {4, 8, 2, 3, 0, -1}, {500, 1000, 1, 499, 0, -1}, {500, 1000, 501, 999, 500, -1}, {6, 9, 1, 2, 0, -1}, {6, 9, 1, 2, 6, -1},
		{3, 8, 1, 0, 0, -1}, {3, 8, 7, 0, 0, -1}, {3, 8, 7, 6, 6, -1}, {3, 8, 2, 1, 1, -1}, {1, 1000, 999, 0, 5, -1}, {0, 8, 4, 3, 4, -1}, {0, 8, 4, 3, 3, -1}, {1, 2, 1, 0, 0, -1},
	} {
		checkReturn(t, c.p, c.q, c.low, c.high, c.from, c.want)
	}
}

func TestReturnTimes(t *testing.T) {
	for _, c := range []struct {
		p, q, low, high int
		want            []int
	}{
		{3, 8, 0, 0, []int{8}}, {3, 8, 7, 7, []int{8}}, {3, 8, 0, 7, []int{1}}, {0, 8, 2, 5, []int{1}}, {0, 8, 7, 7, []int{1}}, {0, 1, 0, 0, []int{1}}, {1, 2, 0, 0, []int{2}}, {1, 2, 1, 1, []int{2}}, {1, 2, 0, 1, []int{1}}, {2, 8, 0, 1, []int{4}}, {2, 8, 5, 5, []int{4}}, {4, 8, 0, 3, []int{2}}, {1, 1000, 0, 0, []int{1000}}, {1, 1000, 999, 999, []int{1000}}, {7, 1000, 500, 500, []int{1000}}, {1, 1000, 0, 999, []int{1}}, {999, 1000, 0, 999, []int{1}}, {0, 1000, 0, 999, []int{1}}, {500, 1000, 0, 499, []int{2}}, {500, 1000, 999, 999, []int{2}},
		{3, 8, 0, 1, []int{3, 5}}, {3, 8, 6, 7, []int{3, 5}}, {3, 8, 0, 2, []int{2, 3}}, {1, 8, 2, 4, []int{1, 6}}, {1, 8, 0, 6, []int{1, 2}}, {1, 8, 1, 7, []int{1, 2}}, {2, 8, 0, 3, []int{1, 3}}, {500, 1000, 0, 500, []int{1, 2}}, {500, 1000, 499, 999, []int{1, 2}}, {1, 1000, 0, 1, []int{1, 999}}, {1, 1000, 998, 999, []int{1, 999}}, {999, 1000, 0, 498, []int{1, 502}},
		{3, 8, 0, 3, []int{1, 2, 3}}, {3, 8, 4, 7, []int{1, 2, 3}}, {2, 8, 0, 2, []int{1, 3, 4}}, {2, 8, 5, 7, []int{1, 3, 4}}, {5, 13, 3, 8, []int{1, 2, 3}}, {382, 1000, 0, 399, []int{1, 2, 3}}, {382, 1000, 600, 999, []int{1, 2, 3}}, {2, 1000, 0, 2, []int{1, 499, 500}},
		{3, 8, 1, 0, nil}, {3, 8, 7, 0, nil}, {3, 8, 7, 6, nil}, {0, 8, 4, 3, nil}, {1, 2, 1, 0, nil}, {1, 1000, 999, 0, nil}, {1, 1000, 999, 998, nil}, {1, 1000, 1, 0, nil},
	} {
		checkTimes(t, c.p, c.q, c.low, c.high, c.want)
	}
}

func TestCountIn(t *testing.T) {
	for _, c := range []struct{ p, q, n, low, high, want int }{
		{3, 8, 4, 0, 3, 3}, {3, 8, 4, 0, 0, 1}, {3, 8, 4, 6, 6, 1}, {3, 8, 4, 2, 2, 0}, {3, 8, 4, 4, 5, 0}, {3, 8, 4, 1, 6, 3}, {3, 8, 4, 0, 7, 4}, {3, 8, 4, 3, 6, 2}, {3, 8, 4, 2, 5, 1}, {3, 8, 1, 0, 0, 1}, {3, 8, 1, 1, 7, 0}, {3, 8, 400, 0, 0, 50}, {3, 8, 400, 2, 6, 250}, {1, 1000, 400, 399, 399, 1}, {1, 1000, 400, 400, 999, 0}, {1, 1000, 400, 100, 199, 100}, {999, 1000, 400, 601, 999, 399}, {999, 1000, 400, 1, 601, 1}, {999, 1000, 399, 1, 601, 0},
		{3, 8, 4, -1, 8, 4}, {3, 8, 4, -1, 7, 4}, {3, 8, 4, 0, 8, 4}, {3, 8, 4, -5, 0, 1}, {3, 8, 4, -5, 5, 3}, {3, 8, 4, 6, 100, 1}, {3, 8, 4, 7, 100, 0}, {3, 8, 4, 8, 100, 0}, {3, 8, 4, 8, 8, 0}, {3, 8, 4, 8, 9, 0}, {3, 8, 4, 8, 16, 0}, {3, 8, 4, -9, -1, 0}, {3, 8, 4, -8, -8, 0}, {3, 8, 4, -1, -1, 0}, {3, 8, 4, 1000, 1001, 0}, {0, 1, 400, -1, 1, 400}, {0, 1, 400, 1, 2, 0},
		{3, 8, 4, math.MinInt, math.MaxInt, 4}, {3, 8, 4, math.MinInt, 0, 1}, {3, 8, 4, math.MinInt, -1, 0}, {3, 8, 4, math.MinInt, 3, 3}, {3, 8, 4, 3, math.MaxInt, 2}, {3, 8, 4, 7, math.MaxInt, 0}, {3, 8, 4, math.MinInt, math.MinInt, 0}, {3, 8, 4, math.MaxInt, math.MaxInt, 0}, {999, 1000, 400, math.MinInt, math.MaxInt, 400}, {3, 8, 4, 1<<32 + 1, 1<<32 + 3, 0}, {3, 8, 4, 1, 1<<32 + 1, 3}, {3, 8, 4, -1 << 32, 1 << 32, 4},
		{3, 8, 4, 3, 0, 0}, {3, 8, 4, 1, 0, 0}, {3, 8, 4, 6, 3, 0}, {3, 8, 4, 7, 0, 0}, {3, 8, 4, 8, -1, 0}, {3, 8, 4, 9, 7, 0}, {3, 8, 4, 0, -1, 0}, {3, 8, 4, math.MaxInt, math.MinInt, 0}, {3, 8, 4, math.MaxInt, 0, 0}, {3, 8, 4, 0, math.MinInt, 0},
		{0, 5, 3, 0, 0, 3}, {0, 5, 3, 1, 4, 0}, {0, 5, 400, 0, 4, 400}, {0, 1, 1, 0, 0, 1}, {0, 1, 400, 0, 0, 400}, {0, 1000, 400, 0, 999, 400}, {0, 1000, 400, 1, 999, 0}, {6, 9, 400, 0, 0, 134}, {6, 9, 400, 3, 3, 133}, {6, 9, 400, 6, 8, 133}, {6, 9, 400, 0, 5, 267}, {6, 9, 400, 1, 2, 0}, {500, 1000, 400, 0, 499, 200}, {500, 1000, 399, 0, 499, 200}, {500, 1000, 399, 500, 500, 199}, {2, 4, 5, 0, 1, 3}, {2, 4, 5, 2, 3, 2},
	} {
		checkCountIn(t, c.p, c.q, c.n, c.low, c.high, c.want)
	}
}

func TestCirclesAgree(t *testing.T) {
	for q := 1; q <= 28; q++ {
		for p := range q {
			for n := 1; n <= q+3; n++ {
				checkCircle(t, p, q, n)
			}
			checkCircle(t, p, q, mostMultiples)
		}
	}
	for _, q := range []int{97, 100, 233, 360, 399, 400, 401, 402, 610, 997, 998, 999, 1000} {
		for _, p := range stepsFor(q) {
			for _, n := range []int{1, 2, 3, 7, 89, 90, 200, 398, 399, 400} {
				checkCircle(t, p, q, n)
			}
		}
	}
}

// Every length of a circle, every step on the greatest one, and every number of
// multiples are taken.
func TestEachCircleAgrees(t *testing.T) {
	for q := 1; q <= greatestCircle; q++ {
		checkCircle(t, q*382/1000, q, 60)
		checkCircle(t, q-1, q, 5)
		checkCircle(t, q-1, greatestCircle, mostMultiples)
	}
	for n := 1; n <= mostMultiples; n++ {
		checkCircle(t, 618, greatestCircle, n)
		checkCircle(t, 377, 610, n)
		checkCircle(t, 1, 350, n)
	}
}

func TestCountInAgrees(t *testing.T) {
	for q := 1; q <= 9; q++ {
		for p := range q {
			for low := -2; low <= q+2; low++ {
				for high := -2; high <= q+2; high++ {
					for _, n := range []int{1, 2, q, q + 1, 2*q + 1} {
						checkCountIn(t, p, q, n, low, high, plainCount(p, q, n, low, high))
					}
				}
			}
		}
	}
}

func TestReturnTimeAgrees(t *testing.T) {
	for q := 1; q <= 14; q++ {
		for p := range q {
			for low := range q {
				for high := range q {
					for from := range q {
						checkReturn(t, p, q, low, high, from, plainReturn(p, q, low, high, from))
					}
				}
			}
		}
	}
	for _, q := range []int{97, 360, 610, 997, 998, 999, 1000} {
		for _, p := range stepsFor(q) {
			for _, part := range [][2]int{{0, 0}, {0, 1}, {0, q - 1}, {q - 1, q - 1}, {q - 2, q - 1}, {q / 3, q / 2}, {1, q / 7}, {q / 2, q / 2}, {q / 2, q/2 - 1}, {q - 1, 0}} {
				for _, from := range []int{0, 1, q / 7, q / 3, q / 2, q - 2, q - 1} {
					checkReturn(t, p, q, part[0], part[1], from, plainReturn(p, q, part[0], part[1], from))
				}
			}
		}
	}
}

func TestReturnTimesAgree(t *testing.T) {
	for q := 1; q <= 24; q++ {
		for p := range q {
			for low := range q {
				for high := range q {
					checkTimes(t, p, q, low, high, plainTimes(p, q, low, high))
				}
			}
		}
	}
	for _, q := range []int{97, 360, 610, 997, 998, 999, 1000} {
		for _, p := range stepsFor(q) {
			for _, part := range [][2]int{{0, 0}, {0, 1}, {0, 5}, {0, q / 3}, {0, q - 2}, {0, q - 1}, {1, q - 1}, {q / 3, q / 2}, {q / 2, q/2 + 20}, {q / 2, q / 2}, {q / 2, q/2 - 1}, {q - q/10, q - 1}, {q - 2, q - 1}, {q - 1, q - 1}, {q - 1, 0}} {
				checkTimes(t, p, q, part[0], part[1], plainTimes(p, q, part[0], part[1]))
			}
		}
	}
}

// Each argument is refused by itself, the others being as small, as great or as
// ordinary as they may be.
func TestMultiplesRefuse(t *testing.T) {
	for _, good := range [][3]int{{3, 8, 4}, {7, 8, 2}, {0, 1, 1}, {0, 1, 2}, {0, 1, 400}, {1, 2, 3}, {0, 999, 400}, {0, 1000, 1}, {0, 1000, 400}, {999, 1000, 2}, {999, 1000, 400}, {500, 1000, 3}, {7, 400, 399}} {
		p, q, n := good[0], good[1], good[2]
		checkCircle(t, p, q, n)
		for _, bad := range append(offCircle(), q, q+1, q+p, 2*q, 2*q+1, -p-1, -q) {
			refuseMultiples(t, bad, q, n)
		}
		for _, bad := range append(offCircle(), 0, -q, p, p-1, p/2, -p) {
			if bad <= p || bad > greatestCircle {
				refuseMultiples(t, p, bad, n)
			}
		}
		for _, bad := range append(offCircle(), 0, -n, 401, 402, 500, 800, 999, 1000) {
			refuseMultiples(t, p, q, bad)
		}
	}
	for _, c := range [][3]int{{0, 0, 1}, {0, 0, 0}, {0, 0, 400}, {-1, 0, 4}, {-1, -1, -1}, {-3, -2, 4}, {-2, -3, 4}, {8, 8, 4}, {1, 1, 1}, {1000, 1000, 4}, {1000, 1001, 4}, {1001, 1002, 401}, {math.MinInt, math.MinInt, math.MinInt}, {math.MinInt, -1, 4}, {math.MaxInt, math.MaxInt, math.MaxInt}, {math.MaxInt - 1, math.MaxInt, 3}, {0, math.MaxInt, 1}, {0, math.MinInt, 1}, {math.MinInt, math.MaxInt, 400}, {math.MaxInt, math.MinInt, 400}} {
		refuseMultiples(t, c[0], c[1], c[2])
	}
}

// refuseReturn checks that ReturnTime and ReturnTimes, which has no from, refuse
// the arguments.
func refuseReturn(t *testing.T, p, q, low, high, from int) {
	t.Helper()
	checkReturn(t, p, q, low, high, from, -1)
	checkTimes(t, p, q, low, high, nil)
}

func TestReturnTimeRefuses(t *testing.T) {
	for _, good := range [][5]int{{3, 8, 0, 7, 0}, {3, 8, 0, 7, 7}, {3, 8, 2, 4, 3}, {0, 8, 0, 7, 5}, {7, 8, 0, 7, 4}, {0, 1, 0, 0, 0}, {1, 2, 0, 1, 1}, {0, 1000, 0, 999, 0}, {999, 1000, 0, 999, 999}, {1, 1000, 0, 998, 0}, {500, 1000, 400, 999, 999}, {0, 999, 0, 998, 3}} {
		p, q, low, high, from := good[0], good[1], good[2], good[3], good[4]
		checkReturn(t, p, q, low, high, from, plainReturn(p, q, low, high, from))
		checkTimes(t, p, q, low, high, plainTimes(p, q, low, high))
		for _, bad := range append(offCircle(), q, q+1, 2*q, q+p, q+from, -q) {
			refuseReturn(t, bad, q, low, high, from)
			refuseReturn(t, p, q, bad, high, from)
			refuseReturn(t, p, q, low, bad, from)
			checkReturn(t, p, q, low, high, bad, -1)
		}
		for _, bad := range append(offCircle(), 0, -q, p, high, -high) {
			if bad <= p || bad <= high || bad > greatestCircle {
				refuseReturn(t, p, bad, low, high, from)
			}
		}
		for bad := range from + 1 {
			checkReturn(t, 0, bad, 0, 0, from, -1)
		}
	}
	for _, c := range [][5]int{{0, 0, 0, 0, 0}, {0, 1001, 0, 0, 0}, {0, 1001, 0, 1000, 0}, {1, 1001, 1000, 1000, 1000}, {-1, -1, -1, -1, -1}, {-3, -2, -3, -3, -3}, {-1, 8, -1, -1, -1}, {8, 8, 8, 8, 8}, {3, 8, -1, 8, 0}, {3, 8, math.MinInt, math.MaxInt, 0}, {0, 0, math.MinInt, math.MaxInt, 0}, {3, 8, math.MaxInt, math.MinInt, 0}, {3, 8, math.MinInt, math.MinInt, 0}, {0, math.MaxInt, 0, math.MaxInt - 1, 0}, {math.MaxInt - 1, math.MaxInt, 0, 5, math.MaxInt - 1}, {math.MinInt, math.MinInt, math.MinInt, math.MinInt, math.MinInt}, {math.MaxInt, math.MaxInt, math.MaxInt, math.MaxInt, math.MaxInt}} {
		refuseReturn(t, c[0], c[1], c[2], c[3], c[4])
	}
}

func sumOf(numbers []int) int {
	sum := 0
	for _, n := range numbers {
		sum += n
	}
	return sum
}

// There are at most three different distances; of three, the greatest one is
// the sum of the others. All three numbers of them must be met.
func TestThreeGaps(t *testing.T) {
	met := map[int]int{}
	check := func(p, q, n int) {
		points, gaps, lengths := impl.PointsOf(p, q, n), impl.GapsOf(p, q, n), impl.GapLengths(p, q, n)
		k := len(lengths)
		met[k]++
		if k < 1 || k > 3 || k == 3 && lengths[2] != lengths[0]+lengths[1] || len(gaps) != len(points) || sumOf(gaps) != q {
			t.Errorf("%d, %d, %d: the points %v, the distances %v, different ones %v", p, q, n, points, gaps, lengths)
		}
		for i, gap := range gaps {
			if !slices.Contains(lengths, gap) || !slices.Contains(points, (points[i]+gap)%q) {
				t.Errorf("%d, %d, %d: the point %d, the distance %d", p, q, n, points[i], gap)
			}
		}
	}
	for q := 1; q <= 30; q++ {
		for p := range q {
			for n := 1; n <= q+1; n++ {
				check(p, q, n)
			}
		}
	}
	for _, q := range []int{360, 610, 997, 1000} {
		for _, p := range stepsFor(q) {
			for _, n := range []int{2, 5, 12, 33, 144, 233, 399, 400} {
				check(p, q, n)
			}
		}
	}
	if met[1] == 0 || met[2] == 0 || met[3] == 0 {
		t.Errorf("numbers of different distances: %v", met)
	}
}

// The distances beside the point 0 say how near the points of NearestTo are, as
// long as no point is met twice.
func TestNearestToAgreesWithGaps(t *testing.T) {
	for _, q := range []int{2, 3, 7, 8, 12, 30, 97, 360, 610, 997, 1000} {
		for _, p := range stepsFor(q) {
			for _, n := range []int{2, 3, 5, 11, 34, 144, 400} {
				gaps := impl.GapsOf(p, q, n)
				if len(gaps) < n {
					continue
				}
				i, k := impl.NearestTo(p, q, n)
				if i < 1 || i >= n || k < 1 || k >= n || i*p%q != gaps[0] || k*p%q != q-gaps[n-1] {
					t.Errorf("NearestTo(%d, %d, %d) = %d, %d, GapsOf %v", p, q, n, i, k, gaps)
				}
			}
		}
	}
}

// There are at most three different times; of three, the greatest one is the sum
// of the others. If p and q are coprime, all points are met between the returns
// to all points from low to high, each once.
func TestThreeReturnTimes(t *testing.T) {
	met := map[int]int{}
	check := func(p, q, low, high int) {
		times, sum := impl.ReturnTimes(p, q, low, high), 0
		for from := low; from <= high; from++ {
			time := impl.ReturnTime(p, q, low, high, from)
			sum += time
			if !slices.Contains(times, time) {
				t.Errorf("ReturnTimes(%d, %d, %d, %d) = %v, the time from %d is %d", p, q, low, high, times, from, time)
			}
		}
		k := len(times)
		met[k]++
		if k < 1 || k > 3 || k == 3 && times[2] != times[0]+times[1] || sum > q || areCoprime(p, q) && sum != q {
			t.Errorf("ReturnTimes(%d, %d, %d, %d) = %v, the sum of all is %d", p, q, low, high, times, sum)
		}
	}
	for q := 1; q <= 20; q++ {
		for p := range q {
			for low := range q {
				for high := low; high < q; high++ {
					check(p, q, low, high)
				}
			}
		}
	}
	for _, q := range []int{360, 610, 997, 1000} {
		for _, p := range stepsFor(q) {
			for _, part := range [][2]int{{0, 0}, {0, 2}, {0, q / 4}, {q / 3, q / 2}, {q / 2, q/2 + 9}, {q - 30, q - 1}, {0, q - 1}, {0, q - 2}} {
				check(p, q, part[0], part[1])
			}
		}
	}
	if met[1] == 0 || met[2] == 0 || met[3] == 0 {
		t.Errorf("numbers of different times: %v", met)
	}
}

// The points that CountIn finds are those of PointsOf, all of them together are
// n, and the letters b of the word that follows p / q stand where the next step
// passes 0.
func TestCountInAgreesWithPointsAndWords(t *testing.T) {
	for _, q := range []int{1, 2, 5, 8, 12, 30, 89, 97, 100} {
		for _, p := range stepsFor(q) {
			for _, n := range []int{1, 2, 7, 34, 100, 399, 400} {
				points, sum := impl.PointsOf(p, q, n), 0
				for point := range q {
					number := impl.CountIn(p, q, n, point, point)
					sum += number
					if (number > 0) != slices.Contains(points, point) {
						t.Errorf("CountIn(%d, %d, %d, %d, %d) = %d, PointsOf %v", p, q, n, point, point, number, points)
					}
				}
				if sum != n {
					t.Errorf("CountIn(%d, %d, %d, ..) sums up to %d", p, q, n, sum)
				}
				w, ok := impl.MechanicalWord(p, q, 0, n)
				if !ok {
					t.Fatalf("MechanicalWord(%d, %d, 0, %d) failed", p, q, n)
				}
				checkCountIn(t, p, q, n, q-p, q-1, impl.CountLetter(w, "b"))
				checkCountIn(t, p, q, n, 0, q-p-1, impl.CountLetter(w, "a"))
			}
		}
	}
}

func TestGapResultsAreNew(t *testing.T) {
	for _, c := range [][3]int{{3, 8, 4}, {0, 1, 1}, {0, 5, 3}, {2, 4, 400}, {1, 5, 400}, {618, 1000, 400}, {999, 1000, 400}} {
		p, q, n := c[0], c[1], c[2]
		for name, list := range map[string]func() []int{
			"PointsOf":    func() []int { return impl.PointsOf(p, q, n) },
			"GapsOf":      func() []int { return impl.GapsOf(p, q, n) },
			"GapLengths":  func() []int { return impl.GapLengths(p, q, n) },
			"ReturnTimes": func() []int { return impl.ReturnTimes(p, q, 0, q/3) },
		} {
			first, second := list(), list()
			want := slices.Clone(first)
			overwrite(first)
			if third := list(); !slices.Equal(second, want) || !slices.Equal(third, want) {
				t.Errorf("%s for %d, %d, %d became %v and %v", name, p, q, n, second, third)
			}
		}
	}
}

func TestGapFunctionsRepeat(t *testing.T) {
	for range 100 {
		checkCircle(t, 3, 8, 4)
		checkCircle(t, 618, 1000, 400)
		refuseMultiples(t, 8, 8, 4)
		checkReturn(t, 3, 8, 0, 1, 0, 3)
		checkReturn(t, 0, 8, 3, 4, 0, -1)
		checkTimes(t, 3, 8, 0, 3, []int{1, 2, 3})
		checkTimes(t, 3, 8, 3, 0, nil)
	}
}

// Calls at the same time do not disturb each other.
func TestGapFunctionsSideBySide(t *testing.T) {
	var all sync.WaitGroup
	for k := range 16 {
		all.Go(func() {
			for n := 1; n <= mostMultiples; n += 7 {
				checkCircle(t, 7*k+1, 500+31*k, n)
				checkTimes(t, 7*k+1, 500+31*k, k, k+n, plainTimes(7*k+1, 500+31*k, k, k+n))
			}
		})
	}
	all.Wait()
}

// What sends the points ends with the call, whatever the call returns.
func TestGapFunctionsLeaveNothingRunning(t *testing.T) {
	before := runtime.NumGoroutine()
	for n := -1; n <= mostMultiples+1; n++ {
		for _, p := range []int{-1, 0, 3, 7, 8} {
			impl.PointsOf(p, 8, n)
			impl.GapsOf(p, 8, n)
			impl.GapLengths(p, 8, n)
			impl.NearestTo(p, 8, n)
			impl.CountIn(p, 8, n, 2, 5)
			impl.ReturnTime(p, 8, 0, 1, n)
			impl.ReturnTimes(p, 8, 0, n)
		}
	}
	for range 1000 {
		if runtime.NumGoroutine() <= before {
			return
		}
		time.Sleep(time.Millisecond)
	}
	t.Errorf("%d goroutines became %d", before, runtime.NumGoroutine())
}
