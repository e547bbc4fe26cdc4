package tests

import (
	"fmt"
	"math"
	"slices"
	"strings"
	"testing"

	"loop.example/g01167/impl"
)

// gapsOf returns the gaps of all seats to all seats.
func gapsOf(r impl.Row) [][]int {
	var gaps [][]int
	for p := range r.Seats {
		gaps = append(gaps, stepsFrom(r, p))
	}
	return gaps
}

// isApart tells whether a list is a spaced choice, seat by seat and pair by pair, by the gaps of all seats.
func isApart(r impl.Row, gaps [][]int, seats []int, d int) bool {
	for i, p := range seats {
		if p < 0 || p >= r.Seats || slices.Contains(r.Taken, p) || i > 0 && p <= seats[i-1] {
			return false
		}
		for _, q := range slices.Concat(seats[:i], r.Taken) {
			if gaps[p][q] < d {
				return false
			}
		}
	}
	return true
}

// distances returns all d that make a difference for a Row, and greater ones.
func distances(r impl.Row) []int {
	var list []int
	for d := 1; d <= r.Seats+1; d++ {
		list = append(list, d)
	}
	return append(list, 2*r.Seats, 1<<32, 1<<62, math.MaxInt-1, math.MaxInt)
}

// someWorths returns worths of so many seats: all equal ones, and others by short rules, with many choices that are worth as much.
func someWorths(seats int) [][]int {
	lists := make([][]int, 9)
	for p := range seats {
		for i, worth := range []int{0, 1, impl.MaxWorth, p, seats - 1 - p, p % 3, (p*p + 3*p) % 5, p * 37 % (impl.MaxWorth + 1), (p + 1) / 2 % 2 * 2} {
			lists[i] = append(lists[i], worth)
		}
	}
	return lists
}

func sumOf(list []int) int {
	sum := 0
	for _, n := range list {
		sum += n
	}
	return sum
}

// best is the best one of the choices that it was told of.
type best struct {
	worths []int
	worth  int
	seats  []int
}

func (b *best) tell(seats []int) {
	worth := 0
	for _, p := range seats {
		worth += b.worths[p]
	}
	fewer := len(seats) < len(b.seats) || len(seats) == len(b.seats) && slices.Compare(seats, b.seats) < 0
	if worth > b.worth || worth == b.worth && fewer {
		b.worth, b.seats = worth, slices.Clone(seats)
	}
}

// checkChoices holds all functions of spaced choices against the choices that a function gives, those of as many seats in lexicographic order: it checks promise 9.
func checkChoices(t *testing.T, r impl.Row, d int, all func(each func([]int))) {
	t.Helper()
	counts := make([]int, impl.MaxSeats+1)
	firsts := make([][]int, impl.MaxSeats+1)
	var bests []*best
	for _, worths := range someWorths(r.Seats) {
		bests = append(bests, &best{worths: worths})
	}
	all(func(seats []int) {
		k := len(seats)
		if counts[k]++; counts[k] == 1 {
			firsts[k] = slices.Clone(seats)
		}
		for _, b := range bests {
			b.tell(seats)
		}
	})
	most := 0
	for k, want := range counts {
		if want > 0 {
			most = k
		}
		if count, ok := impl.CountSpaced(r, k, d); count != want || !ok {
			t.Errorf("CountSpaced(%q, %d, %d) = %d, %v, not %d", shown(r), k, d, count, ok, want)
		}
		first, ok := impl.FirstSpaced(r, k, d)
		if want == 0 {
			failed(t, "FirstSpaced", shown(r), k, d)(first, ok)
		} else if !slices.Equal(first, firsts[k]) || !ok {
			t.Errorf("FirstSpaced(%q, %d, %d) = %v, %v, not %v", shown(r), k, d, first, ok, firsts[k])
		}
	}
	if n, ok := impl.MostSpaced(r, d); n != most || !ok {
		t.Errorf("MostSpaced(%q, %d) = %d, %v, not %d", shown(r), d, n, ok, most)
	}
	for _, b := range bests {
		worth, seats, ok := impl.BestWorth(r, b.worths, d)
		if worth != b.worth || !slices.Equal(seats, b.seats) || !ok {
			t.Errorf("BestWorth(%q, %v, %d) = %d, %v, %v, not %d, %v", shown(r), b.worths, d, worth, seats, ok, b.worth, b.seats)
		}
	}
}

// tryChoices tries all choices of free seats of a Row one by one.
func tryChoices(t *testing.T, r impl.Row) {
	gaps, free := gapsOf(r), theSeats(r, false)
	for _, d := range distances(r) {
		checkChoices(t, r, d, func(each func([]int)) {
			for k := range len(free) + 1 {
				choices(free, k, nil, func(seats []int) {
					want := isApart(r, gaps, seats, d)
					if is, ok := impl.IsSpaced(r, seats, d); is != want || !ok {
						t.Errorf("IsSpaced(%q, %v, %d) = %v, %v", shown(r), seats, d, is, ok)
					}
					if want {
						each(seats)
					}
				})
			}
		})
	}
}

// TestAllChoices tries all choices for all Rows of few seats.
func TestAllChoices(t *testing.T) {
	for seats := 2; seats <= 7; seats++ {
		for _, r := range allRows(seats) {
			tryChoices(t, r)
		}
	}
	for _, signs := range []string{dots(8), dots(9), dots(10), "...x......", "x.........", ".........x", "....xx....", "..x....x..", ".x" + crosses(8), crosses(10), "....x......"} {
		tryChoices(t, row("line "+signs))
		tryChoices(t, row("ring "+signs))
	}
}

// spacedFrom gives all spaced choices with a beginning, in lexicographic order, each one behind its beginning.
func spacedFrom(r impl.Row, gaps [][]int, began []int, d int, each func([]int)) {
	each(began)
	least := 0
	if len(began) > 0 {
		least = began[len(began)-1] + 1
	}
	for p := least; p < r.Seats; p++ {
		if longer := append(began[:len(began):len(began)], p); isApart(r, gaps, longer, d) {
			spacedFrom(r, gaps, longer, d, each)
		}
	}
}

// TestChoicesOfLongRows goes over all spaced choices of Rows of many seats, where these are not too many.
func TestChoicesOfLongRows(t *testing.T) {
	for _, r := range longRows() {
		gaps := gapsOf(r)
		for _, d := range distances(r) {
			if d < 3 && len(theSeats(r, false)) > 16 {
				continue
			}
			checkChoices(t, r, d, func(each func([]int)) { spacedFrom(r, gaps, nil, d, each) })
		}
	}
}

// choose returns the number of choices of k of n.
func choose(n int, k int) int {
	if k < 0 || n < k {
		return 0
	}
	ways := 1
	for i := range k {
		ways = ways * (n - i) / (i + 1)
	}
	return ways
}

// spacedInRuns returns the numbers of spaced choices of a Row with a taken seat, or of a line, run by run: a run has d-1 seats less at each end beside a taken seat, and k of n seats in a row are chosen as if d-1 seats were missing between any two of them.
func spacedInRuns(t *testing.T, r impl.Row, d int) []int {
	runs, ok := impl.RunsOf(r)
	if !ok || r.Ring && len(r.Taken) == 0 {
		t.Fatalf("%q has no runs", shown(r))
	}
	counts := []int{1}
	for _, run := range runs {
		seats := run[1]
		if r.Ring || run[0] > 0 {
			seats -= d - 1
		}
		if r.Ring || run[0]+run[1] < r.Seats {
			seats -= d - 1
		}
		more := make([]int, len(counts)+run[1])
		for k, count := range counts {
			more[k] += count
			for n := 1; n <= seats; n++ {
				more[k+n] += count * choose(seats-(n-1)*(d-1), n)
			}
		}
		counts = more
	}
	return append(counts, make([]int, impl.MaxSeats)...)
}

// TestCountsOfLongRows holds the counts for Rows of many seats against those that are found run by run, and rings without taken seats against a formula.
func TestCountsOfLongRows(t *testing.T) {
	for _, r := range append(longRows(), manyRows()...) {
		for d := 1; d <= r.Seats+1; d++ {
			var counts []int
			if r.Ring && len(r.Taken) == 0 {
				counts = append([]int{1, r.Seats}, make([]int, impl.MaxSeats)...)
				for k := 2; k*d <= r.Seats; k++ {
					// Of all choices turned by all numbers, each one was met for each of its seats at 0.
					counts[k] = r.Seats * choose(r.Seats-k*(d-1)-1, k-1) / k
				}
			} else {
				counts = spacedInRuns(t, r, d)
			}
			most := 0
			for k := range impl.MaxSeats + 1 {
				if count, ok := impl.CountSpaced(r, k, d); count != counts[k] || !ok {
					t.Errorf("CountSpaced(%q, %d, %d) = %d, %v, not %d", shown(r), k, d, count, ok, counts[k])
				}
				if counts[k] > 0 {
					most = k
				}
				if first, ok := impl.FirstSpaced(r, k, d); ok != (counts[k] > 0) || ok && len(first) != k {
					t.Errorf("FirstSpaced(%q, %d, %d) = %v, %v, of %d", shown(r), k, d, first, ok, counts[k])
				}
			}
			if n, ok := impl.MostSpaced(r, d); n != most || !ok {
				t.Errorf("MostSpaced(%q, %d) = %d, %v, not %d", shown(r), d, n, ok, most)
			}
		}
	}
}

func TestCountSpaced(t *testing.T) {
	for _, c := range []struct {
		row        string
		k, d, want int
		first      string
	}{
		{"line ......", 0, 1, 1, ""}, {"line ......", 1, 1, 6, "0"}, {"line ......", 2, 1, 15, "0 1"}, {"line ......", 6, 1, 1, "0 1 2 3 4 5"}, {"line ......", 7, 1, 0, ""}, {"line ......", 24, 1, 0, ""}, {"line ......", 2, 2, 10, "0 2"}, {"line ......", 3, 2, 4, "0 2 4"}, {"line ......", 4, 2, 0, ""}, {"line ......", 2, 3, 6, "0 3"}, {"line ......", 2, 4, 3, "0 4"}, {"line ......", 2, 5, 1, "0 5"}, {"line ......", 2, 6, 0, ""},
		{"line ......", 1, 6, 6, "0"}, {"line ......", 1, 7, 6, "0"}, {"line ......", 1, math.MaxInt, 6, "0"}, {"line ......", 2, math.MaxInt, 0, ""}, {"line ......", 0, math.MaxInt, 1, ""}, {"ring ......", 2, 2, 9, "0 2"}, {"ring ......", 3, 2, 2, "0 2 4"}, {"ring ......", 2, 3, 3, "0 3"}, {"ring ......", 2, 4, 0, ""}, {"ring ......", 3, 3, 0, ""}, {"ring ......", 1, 6, 6, "0"}, {"ring ......", 1, math.MaxInt, 6, "0"}, {"ring ......", 6, 1, 1, "0 1 2 3 4 5"},
		{"line x.....", 1, 1, 5, "1"}, {"line x.....", 1, 2, 4, "2"}, {"line x.....", 2, 2, 3, "2 4"}, {"line x.....", 1, 5, 1, "5"}, {"line x.....", 1, 6, 0, ""}, {"line x.....", 0, 6, 1, ""}, {"line .....x", 1, 5, 1, "0"}, {"line .....x", 2, 2, 3, "0 2"}, {"ring x.....", 1, 2, 3, "2"}, {"ring x.....", 2, 2, 1, "2 4"}, {"ring x.....", 1, 3, 1, "3"}, {"ring x.....", 1, 4, 0, ""}, {"ring x.....", 1, math.MaxInt, 0, ""},
		{"line ..x...", 2, 1, 10, "0 1"}, {"line ..x...", 2, 2, 2, "0 4"}, {"line ..x...", 1, 3, 1, "5"}, {"line ..x...", 1, 4, 0, ""}, {"ring ...x..", 2, 2, 1, "1 5"}, {"ring ...x..", 1, 2, 3, "0"}, {"ring ...x..", 1, 3, 1, "0"}, {"ring ....x...", 3, 2, 1, "0 2 6"}, {"ring ....x...", 2, 3, 0, ""}, {"ring ....x...", 1, 3, 3, "0"},
		{"line xx", 0, 1, 1, ""}, {"line xx", 1, 1, 0, ""}, {"ring xxx", 0, math.MaxInt, 1, ""}, {"ring xxx", 1, 1, 0, ""}, {"line x.", 1, 1, 1, "1"}, {"line x.", 1, 2, 0, ""}, {"line x.", 2, 1, 0, ""}, {"line .x", 1, 1, 1, "0"}, {"line ..", 2, 1, 1, "0 1"}, {"line ..", 2, 2, 0, ""}, {"line ..", 1, 2, 2, "0"}, {"ring ...", 2, 1, 3, "0 1"}, {"ring ...", 3, 1, 1, "0 1 2"}, {"ring ...", 2, 2, 0, ""}, {"ring ...", 1, 2, 3, "0"}, {"ring ...", 4, 1, 0, ""}, {"ring ....", 2, 2, 2, "0 2"}, {"ring ....", 2, 3, 0, ""}, {"ring .x.", 2, 1, 1, "0 2"},
		{"line " + dots(24), 12, 1, 2704156, "0 1 2 3 4 5 6 7 8 9 10 11"}, {"line " + dots(24), 24, 1, 1, "0 1 2 3 4 5 6 7 8 9 10 11 12 13 14 15 16 17 18 19 20 21 22 23"}, {"line " + dots(24), 12, 2, 13, "0 2 4 6 8 10 12 14 16 18 20 22"}, {"line " + dots(24), 13, 2, 0, ""}, {"line " + dots(24), 8, 3, 45, "0 3 6 9 12 15 18 21"}, {"line " + dots(24), 6, 3, 3003, "0 3 6 9 12 15"}, {"line " + dots(24), 3, 11, 4, "0 11 22"}, {"line " + dots(24), 2, 23, 1, "0 23"}, {"line " + dots(24), 2, 24, 0, ""}, {"line " + dots(24), 1, 24, 24, "0"},
		{"ring " + dots(24), 12, 2, 2, "0 2 4 6 8 10 12 14 16 18 20 22"}, {"ring " + dots(24), 6, 2, 24752, "0 2 4 6 8 10"}, {"ring " + dots(24), 6, 3, 1848, "0 3 6 9 12 15"}, {"ring " + dots(24), 8, 3, 3, "0 3 6 9 12 15 18 21"}, {"ring " + dots(24), 2, 12, 12, "0 12"}, {"ring " + dots(24), 2, 13, 0, ""}, {"ring " + dots(24), 12, 1, 2704156, "0 1 2 3 4 5 6 7 8 9 10 11"}, {"ring " + dots(12) + "x" + dots(11), 3, 10, 0, ""}, {"ring " + dots(12) + "x" + dots(11), 2, 8, 1, "4 20"}, {"ring " + dots(12) + "x" + dots(11), 3, 6, 1, "0 6 18"}, {"line " + crosses(24), 0, 1, 1, ""}, {"ring " + crosses(23) + ".", 1, 1, 1, "23"},
	} {
		r := row(c.row)
		if count, ok := impl.CountSpaced(r, c.k, c.d); count != c.want || !ok {
			t.Errorf("CountSpaced(%q, %d, %d) = %d, %v", c.row, c.k, c.d, count, ok)
		}
		first, ok := impl.FirstSpaced(r, c.k, c.d)
		if c.want == 0 {
			failed(t, "FirstSpaced", c.row, c.k, c.d)(first, ok)
		} else if !slices.Equal(first, numbers(c.first)) || !ok {
			t.Errorf("FirstSpaced(%q, %d, %d) = %v, %v", c.row, c.k, c.d, first, ok)
		}
	}
}

func TestMostSpaced(t *testing.T) {
	for _, c := range []struct {
		row     string
		d, want int
	}{
		{"line ......", 1, 6}, {"line ......", 2, 3}, {"line ......", 3, 2}, {"line ......", 5, 2}, {"line ......", 6, 1}, {"line ......", math.MaxInt, 1}, {"ring ......", 2, 3}, {"ring ......", 3, 2}, {"ring ......", 4, 1}, {"ring ......", math.MaxInt, 1}, {"ring .......", 2, 3}, {"ring .......", 3, 2}, {"line .......", 2, 4}, {"line .......", 3, 3}, {"line x.....", 1, 5}, {"line x.....", 2, 2}, {"line x.....", 3, 1}, {"line x.....", 6, 0}, {"ring x.....", 2, 2}, {"ring x.....", 4, 0}, {"ring ...x..", 2, 2}, {"ring ....x...", 2, 3}, {"line x.x", 1, 1}, {"line x.x", 2, 0}, {"line xx", 1, 0}, {"ring xxx", math.MaxInt, 0}, {"line ..", 2, 1}, {"line ..", 1, 2}, {"ring ...", 1, 3}, {"ring ...", 2, 1},
		{"line " + dots(24), 1, 24}, {"line " + dots(24), 2, 12}, {"line " + dots(24), 3, 8}, {"line " + dots(24), 12, 2}, {"line " + dots(24), 23, 2}, {"line " + dots(24), 24, 1}, {"ring " + dots(24), 12, 2}, {"ring " + dots(24), 13, 1}, {"ring " + dots(24), 5, 4}, {"line " + dots(24), 5, 5}, {"line " + strings.Repeat("x...", 6), 2, 6}, {"ring " + strings.Repeat("x...", 6), 2, 6}, {"line " + strings.Repeat("x...", 6), 3, 1}, {"ring " + strings.Repeat("x...", 6), 3, 0},
	} {
		if most, ok := impl.MostSpaced(row(c.row), c.d); most != c.want || !ok {
			t.Errorf("MostSpaced(%q, %d) = %d, %v", c.row, c.d, most, ok)
		}
	}
}

func TestIsSpaced(t *testing.T) {
	for _, c := range []struct {
		row   string
		d     int
		seats string
		want  bool
	}{
		{"line ......", 1, "", true}, {"line ......", math.MaxInt, "", true}, {"line ......", 1, "0 1 2 3 4 5", true}, {"line ......", 2, "0 2 4", true}, {"line ......", 2, "0 2 3", false}, {"line ......", 2, "0 1 3", false}, {"line ......", 5, "0 5", true}, {"ring ......", 5, "0 5", false}, {"ring ......", 1, "0 5", true}, {"ring ......", 2, "0 5", false}, {"ring ......", 3, "0 3", true}, {"ring ......", 3, "1 4", true}, {"ring ......", 3, "1 5", false}, {"ring ......", 2, "1 5", true}, {"ring ......", 2, "0 2 4", true}, {"ring ......", 2, "1 3 5", true}, {"ring ......", 2, "0 3 5", false}, {"line ......", 2, "0 3 5", true}, {"line ......", math.MaxInt, "4", true}, {"ring ......", math.MaxInt, "4", true}, {"line ......", math.MaxInt, "0 5", false}, {"line ......", 6, "0 5", false},
		{"line ......", 1, "2 1", false}, {"line ......", 1, "1 1", false}, {"line ......", 1, "0 1 2 2", false}, {"line ......", 1, "0 4 2", false}, {"line ......", 2, "4 0", false}, {"line ......", 1, "-1", false}, {"line ......", 1, "6", false}, {"line ......", 1, "0 6", false}, {"line ......", 1, "-1 0", false}, {"ring ......", 1, "0 6", false}, {"ring ......", 1, "-2 1", false}, {"line ......", 1, "0 1 2 3 4 5 6", false}, {"line ......", 1, "0 1 2 3 4 5 5", false}, {"line ......", 1, "0 9223372036854775807", false}, {"line ......", 1, "-9223372036854775808 0", false}, {"ring ......", 3, "-9223372036854775808", false}, {"line ......", 1, "4294967296", false},
		{"line ..x...", 1, "2", false}, {"line ..x...", 1, "0 2", false}, {"line ..x...", 1, "0 1 3 4 5", true}, {"line ..x...", 1, "0 1 2 3 4 5", false}, {"line ..x...", 2, "0 4", true}, {"line ..x...", 2, "1 4", false}, {"line ..x...", 2, "0 3", false}, {"line ..x...", 3, "5", true}, {"line ..x...", 3, "0", false}, {"line ..x...", 4, "5", false}, {"line ..x...", 4, "", true}, {"ring x.....", 2, "5", false}, {"line x.....", 2, "5", true}, {"ring .....x", 2, "0", false}, {"line .....x", 2, "0", true}, {"ring x.....", 3, "3", true}, {"ring x.....", 3, "2", false}, {"ring x.....", 3, "4", false}, {"line xx", 1, "", true}, {"line xx", 1, "0", false}, {"ring xxx", 1, "", true}, {"line x.", 1, "1", true}, {"line x.", 2, "1", false},
	} {
		if is, ok := impl.IsSpaced(row(c.row), numbers(c.seats), c.d); is != c.want || !ok {
			t.Errorf("IsSpaced(%q, %q, %d) = %v, %v", c.row, c.seats, c.d, is, ok)
		}
	}
	many := make([]int, 100000)
	for _, list := range [][]int{many, ascending(100000), ascending(25)} {
		if is, ok := impl.IsSpaced(row("line "+dots(24)), list, 1); is || !ok {
			t.Errorf("IsSpaced of %d numbers: %v, %v", len(list), is, ok)
		}
	}
}

// TestIsSpacedOfAnyNumbers tries all short lists of numbers, also of such that are no seats, and not in order.
func TestIsSpacedOfAnyNumbers(t *testing.T) {
	for seats := 2; seats <= 5; seats++ {
		for _, r := range allRows(seats) {
			gaps := gapsOf(r)
			for length := range 4 {
				listsOf(length, -1, seats, func(list []int) {
					for d := 1; d <= 3; d++ {
						if is, ok := impl.IsSpaced(r, list, d); is != isApart(r, gaps, list, d) || !ok {
							t.Errorf("IsSpaced(%q, %v, %d) = %v, %v", shown(r), list, d, is, ok)
						}
					}
				})
			}
		}
	}
}

func TestGreatestSpread(t *testing.T) {
	for _, c := range []struct{ row, want string }{
		// The greatest d for k = 1 and so on.
		{"line ......", "6 5 2 1 1 1"}, {"ring ......", "6 3 2 1 1 1"}, {"line ..", "2 1"}, {"ring ...", "3 1 1"}, {"ring ....", "4 2 1 1"}, {"line ...", "3 2 1"}, {"line x.....", "5 2 1 1 1"}, {"line .....x", "5 2 1 1 1"}, {"ring x.....", "3 2 1 1 1"}, {"line ..x...", "3 2 1 1 1"}, {"ring ..x...", "3 2 1 1 1"}, {"line x....x", "2 1 1 1"}, {"line .x", "1"}, {"line x.", "1"}, {"ring .xx", "1"}, {"line x.x", "1"}, {"line xx", ""}, {"ring xxx", ""}, {"line .x.", "1 1"}, {"line .x.......", "7 3 2 1 1 1 1 1"}, {"line " + crosses(24), ""}, {"ring " + crosses(24), ""}, {"line ." + crosses(23), "1"},
		{"line " + dots(24), "24 23 11 7 5 4 3 3 2 2 2 2 1 1 1 1 1 1 1 1 1 1 1 1"}, {"ring " + dots(24), "24 12 8 6 4 4 3 3 2 2 2 2 1 1 1 1 1 1 1 1 1 1 1 1"}, {"ring x" + dots(23), "12 8 6 4 4 3 3 2 2 2 2 1 1 1 1 1 1 1 1 1 1 1 1"}, {"line x" + dots(23), "23 11 7 5 4 3 3 2 2 2 2 1 1 1 1 1 1 1 1 1 1 1 1"}, {"ring " + strings.Repeat("x.", 12), "1 1 1 1 1 1 1 1 1 1 1 1"},
	} {
		r, want := row(c.row), numbers(c.want)
		for k := range len(want) {
			if d, ok := impl.GreatestSpread(r, k+1); d != want[k] || !ok {
				t.Errorf("GreatestSpread(%q, %d) = %d, %v", c.row, k+1, d, ok)
			}
		}
		for _, k := range []int{0, -1, len(want) + 1, len(want) + 2, r.Seats + 1, impl.MaxSeats + 1, 1 << 32, math.MinInt, math.MinInt + 1, math.MaxInt, math.MaxInt - 1} {
			failed(t, "GreatestSpread", c.row, k)(impl.GreatestSpread(r, k))
		}
	}
}

// TestNoWiderChoice checks promise 9 for spreads: with d there is a choice of k seats, and with no greater d that a Row can tell apart.
func TestNoWiderChoice(t *testing.T) {
	for _, r := range append(manyRows(), longRows()...) {
		gaps, free := gapsOf(r), theSeats(r, false)
		for k := 1; k <= len(free); k++ {
			d, ok := impl.GreatestSpread(r, k)
			if !ok || d < 1 || d > r.Seats {
				t.Fatalf("GreatestSpread(%q, %d) = %d, %v", shown(r), k, d, ok)
			}
			first, ok := impl.FirstSpaced(r, k, d)
			if !ok || !isApart(r, gaps, first, d) || len(first) != k {
				t.Errorf("GreatestSpread(%q, %d) = %d, but FirstSpaced = %v, %v", shown(r), k, d, first, ok)
			}
			if count, ok := impl.CountSpaced(r, k, d+1); d < r.Seats && (count != 0 || !ok) {
				t.Errorf("GreatestSpread(%q, %d) = %d, but there are %d choices with 1 more", shown(r), k, d, count)
			}
			if d == r.Seats && (k > 1 || len(r.Taken) > 0) {
				t.Errorf("GreatestSpread(%q, %d) = %d", shown(r), k, d)
			}
			// Of few choices, each one is tried.
			if len(free) > 8 && k > 2 {
				continue
			}
			widest := 0
			choices(free, k, nil, func(seats []int) {
				least := r.Seats
				for i, p := range seats {
					for _, q := range slices.Concat(seats[:i], r.Taken) {
						least = min(least, gaps[p][q])
					}
				}
				widest = max(widest, least)
			})
			if widest != d {
				t.Errorf("GreatestSpread(%q, %d) = %d, not %d", shown(r), k, d, widest)
			}
		}
	}
}

// TestSpreadAndNewcomers checks the guarantee for GreatestSpread: it is at most 2 times the farness of the last one of as many newcomers.
func TestSpreadAndNewcomers(t *testing.T) {
	for _, r := range append(manyRows(), longRows()...) {
		order, ok := impl.PoliteOrder(r)
		if !ok {
			t.Fatalf("no newcomers in %q", shown(r))
		}
		for k := 1; k <= len(order); k++ {
			far := farnessOf(with(r, order[:k-1]...))[order[k-1]]
			if d, ok := impl.GreatestSpread(r, k); d > 2*far || d < far || !ok {
				t.Errorf("GreatestSpread(%q, %d) = %d, %v, but the last newcomer has the farness %d", shown(r), k, d, ok, far)
			}
		}
	}
}

func TestBestWorth(t *testing.T) {
	for _, c := range []struct {
		row    string
		worths string
		d      int
		worth  int
		seats  string
	}{
		{"line ......", "5 1 1 5 0 9", 3, 14, "0 5"}, {"line ......", "5 1 1 5 0 9", 1, 21, "0 1 2 3 5"}, {"line ......", "5 1 1 5 0 9", 2, 19, "0 3 5"}, {"ring ......", "5 1 1 5 0 9", 2, 15, "1 3 5"}, {"ring ......", "5 1 1 5 0 9", 3, 10, "0 3"}, {"ring ......", "5 1 1 5 0 9", 4, 9, "5"}, {"line ......", "5 1 1 5 0 9", 6, 9, "5"}, {"line ......", "5 1 1 5 0 9", math.MaxInt, 9, "5"}, {"line x.....", "5 1 1 5 0 9", 1, 16, "1 2 3 5"}, {"line x.....", "99 1 1 5 0 9", 6, 0, ""}, {"line x.....", "99 1 1 5 0 9", 5, 9, "5"}, {"ring x.....", "99 1 1 5 0 9", 2, 5, "3"}, {"line ...x..", "5 1 1 5 0 9", 2, 14, "0 5"},
		{"line ...", "1 2 1", 2, 2, "1"}, {"line ...", "1 1 1", 2, 2, "0 2"}, {"line ...", "1 3 1", 2, 3, "1"}, {"line ...", "2 3 2", 2, 4, "0 2"}, {"line ...", "1 0 1", 3, 1, "0"}, {"line ...", "0 0 0", 1, 0, ""}, {"line ...", "0 0 1", 1, 1, "2"}, {"line ...", "0 7 0", 1, 7, "1"}, {"line ...", "99 99 99", 1, 297, "0 1 2"}, {"line ...", "99 99 99", 3, 99, "0"}, {"ring ...", "1 2 3", 2, 3, "2"}, {"ring ...", "3 3 3", 2, 3, "0"}, {"ring ...", "2 3 3", 2, 3, "1"}, {"line ..", "4 4", 2, 4, "0"}, {"line ..", "4 5", 2, 5, "1"}, {"line ..", "4 5", 1, 9, "0 1"}, {"line xx", "9 9", 1, 0, ""}, {"ring xxx", "99 99 99", 1, 0, ""}, {"line .x", "9 99", 1, 9, "0"}, {"line .x", "9 99", 2, 0, ""},
		{"line ....", "1 1 1 1", 2, 2, "0 2"}, {"line ....", "1 2 2 1", 2, 3, "0 2"}, {"line ....", "1 2 1 2", 2, 4, "1 3"}, {"line ....", "2 3 0 0", 2, 3, "1"}, {"line ....", "0 1 0 1", 1, 2, "1 3"}, {"line ....", "3 1 1 3", 3, 6, "0 3"}, {"line ....", "1 6 5 1", 3, 6, "1"}, {"line .....", "2 0 4 0 2", 4, 4, "2"}, {"line .....", "2 1 4 1 2", 3, 4, "2"}, {"line .....", "2 1 3 1 2", 4, 4, "0 4"}, {"line .....", "1 2 4 1 3", 2, 8, "0 2 4"}, {"ring .....", "1 2 4 1 3", 2, 7, "2 4"}, {"ring .....", "5 1 1 1 5", 2, 6, "0 2"}, {"ring ...x..", "5 4 0 0 0 4", 2, 8, "1 5"}, {"ring ...x..", "8 4 0 0 0 4", 2, 8, "0"}, {"ring ...x..", "9 4 0 0 0 4", 2, 9, "0"},
		{"line " + dots(24), "99 99 99 99 99 99 99 99 99 99 99 99 99 99 99 99 99 99 99 99 99 99 99 99", 1, 2376, "0 1 2 3 4 5 6 7 8 9 10 11 12 13 14 15 16 17 18 19 20 21 22 23"}, {"ring " + dots(24), "99 99 99 99 99 99 99 99 99 99 99 99 99 99 99 99 99 99 99 99 99 99 99 99", 2, 1188, "0 2 4 6 8 10 12 14 16 18 20 22"}, {"ring " + dots(24), "1 2 1 2 1 2 1 2 1 2 1 2 1 2 1 2 1 2 1 2 1 2 1 2", 2, 24, "1 3 5 7 9 11 13 15 17 19 21 23"}, {"line " + dots(24), "1 2 1 2 1 2 1 2 1 2 1 2 1 2 1 2 1 2 1 2 1 2 1 2", 24, 2, "1"}, {"line " + dots(24), "50 0 0 0 0 0 0 0 0 0 0 99 0 0 0 0 0 0 0 0 0 0 49 50", 13, 100, "0 23"}, {"line " + dots(24), "50 0 0 0 0 0 0 0 0 0 0 99 0 0 0 0 0 0 0 0 0 0 48 49", 12, 148, "11 23"}, {"ring " + dots(24), "50 0 0 0 0 0 0 0 0 0 0 99 0 0 0 0 0 0 0 0 0 0 49 50", 12, 149, "11 23"},
	} {
		worth, seats, ok := impl.BestWorth(row(c.row), numbers(c.worths), c.d)
		if worth != c.worth || !slices.Equal(seats, numbers(c.seats)) || !ok {
			t.Errorf("BestWorth(%q, %q, %d) = %d, %v, %v", c.row, c.worths, c.d, worth, seats, ok)
		}
	}
}

// TestAllWorths tries all short lists of small worths, of which many choices are worth as much.
func TestAllWorths(t *testing.T) {
	for seats := 2; seats <= 5; seats++ {
		for _, r := range allRows(seats) {
			gaps, free := gapsOf(r), theSeats(r, false)
			for d := 1; d <= 4; d++ {
				var spaced [][]int
				for k := range len(free) + 1 {
					choices(free, k, nil, func(list []int) {
						if isApart(r, gaps, list, d) {
							spaced = append(spaced, slices.Clone(list))
						}
					})
				}
				listsOf(seats, 0, 2, func(worths []int) {
					b := best{worths: worths}
					for _, list := range spaced {
						b.tell(list)
					}
					worth, list, ok := impl.BestWorth(r, worths, d)
					if worth != b.worth || !slices.Equal(list, b.seats) || !ok {
						t.Errorf("BestWorth(%q, %v, %d) = %d, %v, %v, not %d, %v", shown(r), worths, d, worth, list, ok, b.worth, b.seats)
					}
				})
			}
		}
	}
}

func TestBadWorths(t *testing.T) {
	for _, r := range append(longRows(), row("line .."), row("ring ..."), row("line xx"), row("ring xxx"), row("line x....."), row("ring .....x")) {
		for _, d := range []int{1, 2, r.Seats, math.MaxInt} {
			for _, many := range []int{0, 1, r.Seats - 1, r.Seats + 1, 2 * r.Seats, 100000} {
				if many != r.Seats {
					failed(t, "BestWorth", shown(r), many, d)(impl.BestWorth(r, make([]int, many), d))
					failed(t, "BestWorth", shown(r), many, d)(impl.BestWorth(r, slices.Repeat([]int{impl.MaxWorth}, many), d))
				}
			}
			// A worth must do for all seats, for those as well that are taken or too near.
			for p := range r.Seats {
				for _, worth := range []int{-1, impl.MaxWorth + 1, -impl.MaxWorth, 1 << 32, math.MinInt, math.MaxInt} {
					worths := ascending(r.Seats)
					worths[p] = worth
					failed(t, "BestWorth", shown(r), worths, d)(impl.BestWorth(r, worths, d))
				}
			}
			failed(t, "BestWorth", shown(r), d)(impl.BestWorth(r, slices.Repeat([]int{impl.MaxWorth + 1}, r.Seats), d))
		}
	}
}

// reaches returns all reaches that make a difference for a Row, and greater ones.
func reaches(r impl.Row) []int { return append([]int{0}, distances(r)...) }

// guards tells whether a list is one of guards of a Row, by the gaps of all seats.
func guards(gaps [][]int, seats []int, h int) bool {
	for i, p := range seats {
		if p < 0 || p >= len(gaps) || i > 0 && p <= seats[i-1] {
			return false
		}
	}
	for _, steps := range gaps {
		if !slices.ContainsFunc(seats, func(p int) bool { return steps[p] <= h }) {
			return false
		}
	}
	return true
}

func TestFewestGuards(t *testing.T) {
	for _, c := range []struct {
		row   string
		h     int
		seats string
	}{
		{"line ......", 0, "0 1 2 3 4 5"}, {"line ......", 1, "1 4"}, {"line ......", 2, "0 3"}, {"line ......", 3, "2"}, {"line ......", 4, "1"}, {"line ......", 5, "0"}, {"line ......", 6, "0"}, {"line ......", math.MaxInt, "0"}, {"ring ......", 0, "0 1 2 3 4 5"}, {"ring ......", 1, "0 3"}, {"ring ......", 2, "0 1"}, {"ring ......", 3, "0"}, {"ring ......", math.MaxInt, "0"}, {"line .......", 1, "0 2 5"}, {"line ........", 1, "0 3 6"}, {"line .......", 2, "0 4"}, {"line .......", 3, "3"}, {"ring .......", 1, "0 1 4"}, {"ring .......", 2, "0 2"}, {"ring .......", 3, "0"}, {"ring ........", 1, "0 2 5"},
		{"line ..", 0, "0 1"}, {"line ..", 1, "0"}, {"line ..", math.MaxInt, "0"}, {"ring ...", 0, "0 1 2"}, {"ring ...", 1, "0"}, {"line ...", 1, "1"}, {"line ...", 2, "0"}, {"line xx", 0, "0 1"}, {"line xxx", 1, "1"}, {"ring xxx", 0, "0 1 2"}, {"line x.x.xx", 1, "1 4"}, {"ring .xx.x.", 2, "0 1"}, {"line xxxxxx", 3, "2"},
		{"line " + dots(24), 0, "0 1 2 3 4 5 6 7 8 9 10 11 12 13 14 15 16 17 18 19 20 21 22 23"}, {"line " + dots(24), 1, "1 4 7 10 13 16 19 22"}, {"ring " + dots(24), 1, "0 3 6 9 12 15 18 21"}, {"line " + dots(24), 2, "1 6 11 16 21"}, {"ring " + dots(24), 2, "0 4 9 14 19"}, {"line " + dots(24), 11, "0 12"}, {"ring " + dots(24), 11, "0 1"}, {"line " + dots(24), 12, "11"}, {"ring " + dots(24), 12, "0"}, {"line " + dots(24), 22, "1"}, {"line " + dots(24), 23, "0"}, {"line " + dots(24), 24, "0"}, {"line " + dots(24), math.MaxInt, "0"}, {"ring " + crosses(24), math.MaxInt, "0"}, {"line " + dots(24), 1 << 62, "0"}, {"line " + dots(24), 1<<62 - 1, "0"}, {"ring " + dots(24), 1<<63 - 2, "0"}, {"line " + dots(24), 1 << 32, "0"},
	} {
		want := numbers(c.seats)
		few, seats, ok := impl.FewestGuards(row(c.row), c.h)
		if few != len(want) || !slices.Equal(seats, want) || !ok {
			t.Errorf("FewestGuards(%q, %d) = %d, %v, %v", c.row, c.h, few, seats, ok)
		}
		if is, ok := impl.IsGuarded(row(c.row), want, c.h); !is || !ok {
			t.Errorf("IsGuarded(%q, %v, %d) = %v, %v", c.row, want, c.h, is, ok)
		}
	}
}

// TestNoFewerGuards checks promise 9: it tries all lists of seats by their numbers and in lexicographic order, and finds the guards before all others.
func TestNoFewerGuards(t *testing.T) {
	try := func(r impl.Row, h int) {
		gaps := gapsOf(r)
		var first []int
		tried := 0
		for k := 0; k <= r.Seats && first == nil; k++ {
			choices(ascending(r.Seats), k, nil, func(seats []int) {
				if first != nil {
					return
				}
				tried++
				want := guards(gaps, seats, h)
				// Of many lists, only some are told.
				if r.Seats <= 7 || want || tried%101 == 0 {
					if is, ok := impl.IsGuarded(r, seats, h); is != want || !ok {
						t.Errorf("IsGuarded(%q, %v, %d) = %v, %v", shown(r), seats, h, is, ok)
					}
				}
				if want {
					first = slices.Clone(seats)
				}
			})
		}
		few, seats, ok := impl.FewestGuards(r, h)
		if few != len(first) || !slices.Equal(seats, first) || !ok {
			t.Errorf("FewestGuards(%q, %d) = %d, %v, %v, not %v", shown(r), h, few, seats, ok, first)
		}
		if h < r.Seats && few != (r.Seats+2*h)/(2*h+1) {
			t.Errorf("FewestGuards(%q, %d) = %d", shown(r), h, few)
		}
	}
	for seats := 2; seats <= 5; seats++ {
		for _, r := range allRows(seats) {
			for _, h := range reaches(r) {
				try(r, h)
			}
		}
	}
	for seats := 6; seats <= impl.MaxSeats; seats++ {
		for _, ring := range []bool{false, true} {
			for _, taken := range [][]int{nil, {0}, {seats - 2, seats - 1}, ascending(seats)} {
				r := impl.Row{Seats: seats, Ring: ring, Taken: taken}
				for _, h := range reaches(r) {
					// With small reaches, long Rows have too many lists.
					if seats <= 11 || len(taken) == 1 && 5*h >= seats {
						try(r, h)
					}
				}
			}
		}
	}
}

// TestIsGuardedOfAnyNumbers tries all short lists of numbers, also of such that are no seats, and not in order.
func TestIsGuardedOfAnyNumbers(t *testing.T) {
	for _, text := range []string{"line ..", "line x..", "ring ..x", "line xxxx", "ring ....", "ring .x..x", "line .x.x.", "line ......", "ring ......"} {
		r := row(text)
		gaps := gapsOf(r)
		for length := range 5 {
			listsOf(length, -1, r.Seats, func(list []int) {
				for _, h := range []int{0, 1, 2, r.Seats, math.MaxInt} {
					if is, ok := impl.IsGuarded(r, list, h); is != guards(gaps, list, h) || !ok {
						t.Errorf("IsGuarded(%q, %v, %d) = %v, %v", text, list, h, is, ok)
					}
				}
			})
		}
		for _, list := range [][]int{nil, ascending(r.Seats + 1), append(ascending(r.Seats), r.Seats-1), make([]int, 100000), ascending(100000), {math.MinInt}, {math.MaxInt}, {math.MinInt, 0}, {0, math.MaxInt}, {1 << 32}} {
			for _, h := range []int{0, 1, r.Seats, math.MaxInt} {
				if is, ok := impl.IsGuarded(r, list, h); is || !ok {
					t.Errorf("IsGuarded(%q, %v, %d) = %v, %v", text, briefly{list}, h, is, ok)
				}
			}
		}
		if is, ok := impl.IsGuarded(r, ascending(r.Seats), 0); !is || !ok {
			t.Errorf("IsGuarded(%q), all seats: %v, %v", text, is, ok)
		}
	}
}

// TestChoicesAndGuards checks the guarantee: a spaced choice with d = 2h+1 has no more seats than there are guards with the reach h.
func TestChoicesAndGuards(t *testing.T) {
	for _, r := range append(manyRows(), longRows()...) {
		for h := range r.Seats + 2 {
			few, _, ok := impl.FewestGuards(r, h)
			most, sure := impl.MostSpaced(r, 2*h+1)
			if !ok || !sure || most > few {
				t.Errorf("%q: %d guards with the reach %d, but a choice of %d", shown(r), few, h, most)
			}
			if !r.Ring && len(r.Taken) == 0 && most != few {
				t.Errorf("%q: %d guards with the reach %d, and a choice of %d", shown(r), few, h, most)
			}
		}
	}
}

// checkNoSpacing expects that the functions of spaced choices fail that have a d.
func checkNoSpacing(t *testing.T, r impl.Row, d int) {
	t.Helper()
	for _, list := range [][]int{nil, {0}, {1}, {0, 2}, ascending(3), make([]int, max(0, min(r.Seats, 100)))} {
		failed(t, briefly{r}, list, d, "IsSpaced")(impl.IsSpaced(r, list, d))
		failed(t, briefly{r}, list, d, "BestWorth")(impl.BestWorth(r, list, d))
	}
	for k := -1; k <= 3; k++ {
		failed(t, briefly{r}, k, d, "CountSpaced")(impl.CountSpaced(r, k, d))
		failed(t, briefly{r}, k, d, "FirstSpaced")(impl.FirstSpaced(r, k, d))
	}
	failed(t, briefly{r}, d, "MostSpaced")(impl.MostSpaced(r, d))
}

// TestBadSpacings calls all functions of choices and guards with Rows, distances, reaches and numbers of seats that are not valid.
func TestBadSpacings(t *testing.T) {
	for _, r := range badRows() {
		for _, d := range []int{0, 1, 2, 5, math.MinInt, math.MaxInt} {
			checkNoSpacing(t, r, d)
			failed(t, briefly{r}, d, "FewestGuards")(impl.FewestGuards(r, d))
			failed(t, briefly{r}, d, "IsGuarded")(impl.IsGuarded(r, []int{0, 1, 2}, d))
			failed(t, briefly{r}, d, "IsGuarded")(impl.IsGuarded(r, nil, d))
			failed(t, briefly{r}, d, "GreatestSpread")(impl.GreatestSpread(r, d))
		}
	}
	for _, r := range append(longRows(), row("line .."), row("ring ..."), row("line xx"), row("ring xxx"), row("line x.."), row("ring .x..")) {
		for _, d := range []int{0, -1, -2, -r.Seats, -1 << 32, math.MinInt, math.MinInt + 1} {
			checkNoSpacing(t, r, d)
			failed(t, shown(r), d, "BestWorth")(impl.BestWorth(r, make([]int, r.Seats), d))
		}
		for _, h := range []int{-1, -2, -r.Seats, -1 << 32, math.MinInt, math.MinInt + 1} {
			failed(t, shown(r), h, "FewestGuards")(impl.FewestGuards(r, h))
			failed(t, shown(r), h, "IsGuarded")(impl.IsGuarded(r, ascending(r.Seats), h))
			failed(t, shown(r), h, "IsGuarded")(impl.IsGuarded(r, nil, h))
		}
		for _, d := range []int{1, 2, r.Seats, math.MaxInt} {
			for _, k := range []int{-1, -2, impl.MaxSeats + 1, impl.MaxSeats + 2, 1 << 32, math.MinInt, math.MaxInt} {
				failed(t, shown(r), k, d, "CountSpaced")(impl.CountSpaced(r, k, d))
				failed(t, shown(r), k, d, "FirstSpaced")(impl.FirstSpaced(r, k, d))
			}
			if count, ok := impl.CountSpaced(r, 0, d); count != 1 || !ok {
				t.Errorf("CountSpaced(%q, 0, %d) = %d, %v", shown(r), d, count, ok)
			}
			if first, ok := impl.FirstSpaced(r, 0, d); len(first) != 0 || !ok {
				t.Errorf("FirstSpaced(%q, 0, %d) = %v, %v", shown(r), d, first, ok)
			}
			count, ok := impl.CountSpaced(r, impl.MaxSeats, d)
			if full := len(theSeats(r, false)) == impl.MaxSeats && d == 1; count != 0 && !full || count != 1 && full || !ok {
				t.Errorf("CountSpaced(%q, %d, %d) = %d, %v", shown(r), impl.MaxSeats, d, count, ok)
			}
		}
	}
}

// isSeated tells whether a list is a placing of groups: all seats of a group must be free and nobody else's, and between it and each taken seat, and each other group, there must be d free ones that nobody gets.
func isSeated(r impl.Row, groups []int, d int, places []int) bool {
	if len(places) != len(groups) {
		return false
	}
	const nobody = -1
	who := slices.Repeat([]int{nobody}, r.Seats)
	type block struct{ first, last int }
	var blocks []block
	for i, first := range places {
		for n := range groups[i] {
			p := first + n
			if first < 0 || p < 0 || p >= r.Seats || who[p] != nobody || slices.Contains(r.Taken, p) {
				return false
			}
			who[p] = i
		}
		blocks = append(blocks, block{first, first + groups[i] - 1})
	}
	for _, p := range r.Taken {
		who[p] = len(groups)
		blocks = append(blocks, block{p, p})
	}
	for i := range groups {
		for j, other := range blocks {
			between := 0
			for p := min(blocks[i].last, other.last) + 1; p < max(blocks[i].first, other.first); p++ {
				if who[p] == nobody {
					between++
				}
			}
			if i != j && between < d {
				return false
			}
		}
	}
	return true
}

// placingsFrom gives all placings with a beginning, in lexicographic order, group by group, each kept apart from taken seats and from those before.
func placingsFrom(r impl.Row, groups []int, d int, began []int, each func([]int)) {
	i := len(began)
	if i == len(groups) {
		each(began)
		return
	}
	for p := 0; p+groups[i] <= r.Seats; p++ {
		near := func(first int, last int) bool { return first-(p+groups[i]) < d && p-last-1 < d }
		if slices.ContainsFunc(r.Taken, func(q int) bool { return near(q, q) }) {
			continue
		}
		apart := true
		for j, q := range began {
			apart = apart && !near(q, q+groups[j]-1)
		}
		if apart {
			placingsFrom(r, groups, d, append(began[:i:i], p), each)
		}
	}
}

// withGroups returns the Row in which the seats of all groups are taken, too.
func withGroups(r impl.Row, groups []int, places []int) impl.Row {
	var seats []int
	for i, p := range places {
		for n := range groups[i] {
			seats = append(seats, p+n)
		}
	}
	return with(r, seats...)
}

// checkPlacing holds a list against what it is told to be.
func checkPlacing(t *testing.T, r impl.Row, groups []int, d int, places []int, want bool) {
	t.Helper()
	if is, ok := impl.IsPlacing(r, groups, d, places); is != want || !ok {
		t.Errorf("IsPlacing(%q, %v, %d, %v) = %v, %v", shown(r), groups, d, briefly{places}, is, ok)
	}
	after, ok := impl.PlaceRow(r, groups, d, places)
	if !want {
		failed(t, "PlaceRow", shown(r), groups, d, briefly{places})(after, ok)
	} else if !sameRow(after, withGroups(r, groups, places)) || !ok {
		t.Errorf("PlaceRow(%q, %v, %d, %v) = %q, %v", shown(r), groups, d, places, shown(after), ok)
	}
}

// checkPlacings holds the number of placings and the first one against what they are told to be.
func checkPlacings(t *testing.T, r impl.Row, groups []int, d int, count int, first []int) {
	t.Helper()
	if n, ok := impl.CountPlacings(r, groups, d); n != count || !ok {
		t.Errorf("CountPlacings(%q, %v, %d) = %d, %v, not %d", shown(r), groups, d, n, ok, count)
	}
	places, ok := impl.FirstPlacing(r, groups, d)
	if count == 0 {
		failed(t, "FirstPlacing", shown(r), groups, d)(places, ok)
	} else if !slices.Equal(places, first) || !ok {
		t.Errorf("FirstPlacing(%q, %v, %d) = %v, %v, not %v", shown(r), groups, d, places, ok, first)
	}
}

func TestPlacings(t *testing.T) {
	for _, c := range []struct {
		row, groups string
		d, want     int
		first       string
		after       string
	}{
		{"line ......", "2 1", 0, 20, "0 2", "line xxx..."}, {"line ......", "2 1", 1, 12, "0 3", "line xx.x.."}, {"line ......", "2 1", 2, 6, "0 4", "line xx..x."}, {"line ......", "2 1", 3, 2, "0 5", "line xx...x"}, {"line ......", "2 1", 4, 0, "", ""}, {"line ......", "2 1", math.MaxInt, 0, "", ""}, {"line ......", "1 2", 3, 2, "0 4", "line x...xx"}, {"line ......", "1", 0, 6, "0", "line x....."}, {"line ......", "1", 6, 6, "0", "line x....."}, {"line ......", "1", math.MaxInt, 6, "0", "line x....."}, {"line ......", "6", 0, 1, "0", "line xxxxxx"}, {"line ......", "6", math.MaxInt, 1, "0", "line xxxxxx"}, {"line ......", "5", 3, 2, "0", "line xxxxx."}, {"line ......", "7", 0, 0, "", ""}, {"line ......", "9223372036854775807", 0, 0, "", ""}, {"line ......", "9223372036854775807 9223372036854775807", math.MaxInt, 0, "", ""}, {"line ......", "1 9223372036854775807", 0, 0, "", ""}, {"line ......", "9223372036854775807 1", 0, 0, "", ""}, {"line ......", "4294967297", 0, 0, "", ""},
		{"line ......", "1 1", 0, 30, "0 1", "line xx...."}, {"line ......", "1 1", 4, 2, "0 5", "line x....x"}, {"line ......", "1 1", 5, 0, "", ""}, {"line ......", "1 1", math.MaxInt, 0, "", ""}, {"line ......", "3 3", 0, 2, "0 3", "line xxxxxx"}, {"line ......", "3 3", 1, 0, "", ""}, {"line ......", "3 4", 0, 0, "", ""}, {"line ......", "5 1", 0, 2, "0 5", "line xxxxxx"}, {"line ......", "1 1 1", 0, 120, "0 1 2", "line xxx..."}, {"line ......", "1 1 1", 1, 24, "0 2 4", "line x.x.x."}, {"line ......", "1 1 1", 2, 0, "", ""}, {"line ......", "2 2 2", 0, 6, "0 2 4", "line xxxxxx"}, {"line ......", "1 1 1 1 1", 0, 720, "0 1 2 3 4", "line xxxxx."}, {"line ......", "2 1 1 1 1", 0, 120, "0 2 3 4 5", "line xxxxxx"}, {"line ......", "2 2 1 1 1", 0, 0, "", ""},
		{"line ..x...", "2", 0, 3, "0", "line xxx..."}, {"line ..x...", "2", 1, 1, "4", "line ..x.xx"}, {"line ..x...", "2", 2, 0, "", ""}, {"line ..x...", "1", 1, 3, "0", "line x.x..."}, {"line ..x...", "1", 2, 1, "5", "line ..x..x"}, {"line ..x...", "1", 3, 0, "", ""}, {"line ..x...", "2 2", 0, 4, "0 3", "line xxxxx."}, {"line ..x...", "2 3", 0, 1, "0 3", "line xxxxxx"}, {"line ..x...", "3 2", 0, 1, "3 0", "line xxxxxx"}, {"line ..x...", "1 2", 1, 1, "0 4", "line x.x.xx"}, {"line ..x...", "2 1", 1, 1, "4 0", "line x.x.xx"}, {"line .x..", "2 1", 0, 1, "2 0", "line xxxx"}, {"line ...x...", "1 3", 0, 6, "0 4", "line x..xxxx"}, {"line ...x...", "1 3 2", 0, 4, "0 4 1", "line xxxxxxx"}, {"line ...x...", "2 3 1", 0, 4, "0 4 2", "line xxxxxxx"}, {"line ...x...", "1 2 3", 0, 4, "0 1 4", "line xxxxxxx"}, {"line ..x..x..", "1 1", 1, 2, "0 7", "line x.x..x.x"}, {"line ..x...x..", "1 1 1", 1, 6, "0 4 8", "line x.x.x.x.x"},
		{"line x.....", "1", 1, 4, "2", "line x.x..."}, {"line x.....", "1", 4, 1, "5", "line x....x"}, {"line x.....", "1", 5, 0, "", ""}, {"line .....x", "1", 4, 1, "0", "line x....x"}, {"line .....x", "1", 5, 0, "", ""}, {"line x.....", "5", 0, 1, "1", "line xxxxxx"}, {"line x....x", "4", 0, 1, "1", "line xxxxxx"}, {"line x....x", "2", 1, 1, "2", "line x.xx.x"}, {"line xx", "1", 0, 0, "", ""}, {"line xx", "1 1 1 1 1", 0, 0, "", ""}, {"line .x", "1", 0, 1, "0", "line xx"}, {"line .x", "1", 1, 0, "", ""}, {"line x.", "1", 0, 1, "1", "line xx"}, {"line ..", "1 1", 0, 2, "0 1", "line xx"}, {"line ..", "1 1", 1, 0, "", ""}, {"line ..", "2", 0, 1, "0", "line xx"}, {"line x.x", "1", 0, 1, "1", "line xxx"}, {"line x.x", "2", 0, 0, "", ""},
		{"line " + dots(24), "1 1 1 1 1", 0, 5100480, "0 1 2 3 4", "line xxxxx" + dots(19)}, {"line " + dots(24), "1 1 1 1 1", 4, 6720, "0 5 10 15 20", "line x....x....x....x....x..."}, {"line " + dots(24), "1 1 1 1 1", 5, 0, "", ""}, {"line " + dots(24), "4 4 4 4 4", 1, 120, "0 5 10 15 20", "line xxxx.xxxx.xxxx.xxxx.xxxx"}, {"line " + dots(24), "4 4 4 4 4", 2, 0, "", ""}, {"line " + dots(24), "20 1 1 1 1", 0, 120, "0 20 21 22 23", "line " + crosses(24)}, {"line " + dots(24), "1 20 1 1 1", 0, 120, "0 1 21 22 23", "line " + crosses(24)}, {"line " + dots(24), "21 1 1 1 1", 0, 0, "", ""}, {"line " + dots(24), "5 4 3 2 1", 2, 720, "0 7 13 18 22", "line xxxxx..xxxx..xxx..xx..x."}, {"line " + dots(24), "24", 9, 1, "0", "line " + crosses(24)}, {"line " + dots(24), "25", 0, 0, "", ""}, {"line " + dots(24), "12 12", 0, 2, "0 12", "line " + crosses(24)},
		{"line .." + "x" + "....." + "x" + "..." + "x" + dots(11), "11 3 5 2", 0, 1, "13 9 3 0", "line " + crosses(24)}, {"line " + strings.Repeat(".x", 12), "1 1 1 1 1", 0, 95040, "0 2 4 6 8", "line " + crosses(10) + strings.Repeat(".x", 7)}, {"line " + crosses(24), "1", 0, 0, "", ""},
	} {
		r, groups := row(c.row), numbers(c.groups)
		checkPlacings(t, r, groups, c.d, c.want, numbers(c.first))
		if c.want == 0 {
			continue
		}
		checkPlacing(t, r, groups, c.d, numbers(c.first), true)
		if after, ok := impl.PlaceRow(r, groups, c.d, numbers(c.first)); shown(after) != c.after || !ok {
			t.Errorf("PlaceRow(%q, %q, %d, %q) = %q, %v", c.row, c.groups, c.d, c.first, shown(after), ok)
		}
	}
}

func TestIsPlacing(t *testing.T) {
	for _, c := range []struct {
		row, groups string
		d           int
		places      string
		want        bool
	}{
		{"line ......", "2 1", 1, "0 3", true}, {"line ......", "2 1", 1, "0 2", false}, {"line ......", "2 1", 0, "0 2", true}, {"line ......", "2 1", 0, "0 1", false}, {"line ......", "2 1", 0, "0 0", false}, {"line ......", "2 1", 1, "2 0", true}, {"line ......", "2 1", 2, "3 0", true}, {"line ......", "2 1", 3, "3 0", false}, {"line ......", "2 1", 3, "4 0", true}, {"line ......", "2 1", 0, "5 0", false}, {"line ......", "2 1", 0, "4 5", false}, {"line ......", "2 1", 0, "4 3", true}, {"line ......", "2 1", 0, "0", false}, {"line ......", "2 1", 0, "", false}, {"line ......", "2 1", 0, "0 3 5", false}, {"line ......", "2 1", 0, "0 -1", false}, {"line ......", "2 1", 0, "-1 2", false}, {"line ......", "2 1", 0, "0 6", false}, {"line ......", "2 1", 0, "6 0", false}, {"line ......", "2 1", 0, "0 9223372036854775807", false}, {"line ......", "2 1", 0, "9223372036854775807 0", false}, {"line ......", "2 1", 0, "9223372036854775806 0", false}, {"line ......", "2 1", 0, "-9223372036854775808 0", false}, {"line ......", "2 1", 0, "4294967296 2", false},
		{"line ......", "1", math.MaxInt, "5", true}, {"line ......", "1", math.MaxInt, "0", true}, {"line ......", "1", 0, "6", false}, {"line ......", "6", math.MaxInt, "0", true}, {"line ......", "6", 0, "1", false}, {"line ......", "7", 0, "0", false}, {"line ......", "9223372036854775807", 0, "0", false}, {"line ......", "9223372036854775807", 0, "5", false}, {"line ......", "9223372036854775807", math.MaxInt, "1", false}, {"line ......", "9223372036854775807", 0, "9223372036854775807", false}, {"line ......", "9223372036854775806", math.MaxInt, "3", false}, {"line ......", "1 1", math.MaxInt, "0 5", false}, {"line ......", "1 1", 4, "5 0", true}, {"line ......", "1 1", 5, "5 0", false},
		{"line ..x...", "2", 0, "0", true}, {"line ..x...", "2", 0, "1", false}, {"line ..x...", "2", 0, "2", false}, {"line ..x...", "2", 0, "3", true}, {"line ..x...", "2", 1, "3", false}, {"line ..x...", "2", 1, "4", true}, {"line ..x...", "2", 1, "0", false}, {"line ..x...", "2", math.MaxInt, "4", false}, {"line ..x...", "5", 0, "0", false}, {"line ..x...", "3", 0, "1", false}, {"line ..x...", "1 1", 1, "0 4", true}, {"line ..x...", "1 1", 1, "1 4", false}, {"line ..x...", "1 1", 1, "0 3", false}, {"line ..x...", "3 2", 0, "3 0", true}, {"line ..x...", "2 3", 0, "3 0", false}, {"line xx", "1", 0, "0", false}, {"line xx", "1", 0, "", false}, {"line .x", "1", 0, "0", true}, {"line .x", "1", 1, "0", false},
		{"line " + dots(24), "1 1 1 1 1", 0, "4 3 2 1 0", true}, {"line " + dots(24), "1 1 1 1 1", 0, "4 3 2 1 4", false}, {"line " + dots(24), "1 1 1 1 1", 4, "23 17 12 7 2", true}, {"line " + dots(24), "1 1 1 1 1", 5, "23 17 12 7 2", false}, {"line " + dots(24), "4 4 4 4 4", 1, "20 0 15 5 10", true}, {"line " + dots(24), "4 4 4 4 4", 1, "20 1 15 5 10", false}, {"line " + dots(24), "24", 0, "0", true}, {"line " + dots(24), "23", 0, "1", true}, {"line " + dots(24), "23", 0, "2", false},
	} {
		checkPlacing(t, row(c.row), numbers(c.groups), c.d, numbers(c.places), c.want)
	}
	for _, places := range [][]int{make([]int, 100000), ascending(100000), ascending(6), nil} {
		checkPlacing(t, row("line "+dots(24)), []int{1, 1, 1, 1, 1}, 0, places, false)
	}
}

// TestAllPlacings tries all lists of places for all lines of few seats: it checks promise 9.
func TestAllPlacings(t *testing.T) {
	try := func(r impl.Row, groups []int, d int, least int, most int) {
		count := 0
		var first []int
		listsOf(len(groups), least, most, func(places []int) {
			want := isSeated(r, groups, d, places)
			checkPlacing(t, r, groups, d, places, want)
			if !want {
				return
			}
			if count++; count == 1 {
				first = slices.Clone(places)
			}
		})
		checkPlacings(t, r, groups, d, count, first)
	}
	for seats := 2; seats <= 6; seats++ {
		for _, r := range allRows(seats) {
			if r.Ring {
				continue
			}
			for d := range 4 {
				listsOf(1, 1, seats+1, func(groups []int) { try(r, groups, d, -1, seats) })
				listsOf(2, 1, min(seats, 4), func(groups []int) { try(r, groups, d, -1, seats) })
				if seats <= 5 || len(r.Taken) <= 1 {
					listsOf(3, 1, 2, func(groups []int) { try(r, groups, d, 0, seats-1) })
				}
			}
			for _, d := range []int{seats - 1, seats, seats + 1, math.MaxInt} {
				listsOf(1, 1, seats, func(groups []int) { try(r, groups, d, -1, seats) })
				listsOf(2, 1, 2, func(groups []int) { try(r, groups, d, 0, seats-1) })
			}
		}
	}
	for _, c := range []struct{ row, groups string }{{"line ......", "1 1 1 1"}, {"line .......", "1 2 1 1"}, {"line ...x...", "2 1 1 2"}, {"line ......", "1 1 2 1 1"}, {"line .....", "1 1 1 1 1"}, {"line ...x..", "1 1 1 1 1"}, {"line .......", "2 1 1 2"}, {"line x......", "1 1 2 1 1"}} {
		for d := range 3 {
			r := row(c.row)
			try(r, numbers(c.groups), d, 0, r.Seats-1)
		}
	}
}

// TestPlacingsOfLongLines goes over all placings on lines of many seats, where these are not too many, and holds all that differ from one of them in a single place against what they are.
func TestPlacingsOfLongLines(t *testing.T) {
	for _, r := range append(longRows(), row("line ..........x"), row("line x.........."), row("line .....x....."), row("line ...........")) {
		if r.Ring {
			continue
		}
		for _, text := range []string{"1", "3 2", "2 3", "1 4 2", "3 3 3", "5 1 6", "2 3 4 2", "1 3 2 3 3", "4 2 4 2 4", "6 3 1 2 5"} {
			groups := numbers(text)
			for _, d := range []int{0, 1, 2, 3, 5, 8} {
				if len(groups) > 3 && d == 0 && r.Seats > 16 && len(r.Taken) < 5 {
					continue
				}
				count := 0
				var first []int
				placingsFrom(r, groups, d, nil, func(places []int) {
					if count++; count == 1 {
						first = places
					}
				})
				checkPlacings(t, r, groups, d, count, first)
				for i := range first {
					for p := -1; p <= r.Seats; p++ {
						other := slices.Clone(first)
						other[i] = p
						checkPlacing(t, r, groups, d, other, isSeated(r, groups, d, other))
					}
				}
			}
		}
	}
}

// TestPlacingsOfFreeLines holds the number of placings on lines without taken seats against the choices of so many places when groups and distances are taken away.
func TestPlacingsOfFreeLines(t *testing.T) {
	for seats := 2; seats <= impl.MaxSeats; seats++ {
		r := impl.Row{Seats: seats}
		for many := 1; many <= impl.MaxGroups; many++ {
			for _, groups := range [][]int{slices.Repeat([]int{1}, many), slices.Repeat([]int{2}, many), []int{3, 1, 4, 2, 5}[:many], []int{1, 2, 3, 4, 5}[:many]} {
				for d := range seats + 1 {
					want := allOrders(many) * choose(seats-sumOf(groups)-(many-1)*d+many, many)
					var first []int
					next := 0
					for _, size := range groups {
						first = append(first, next)
						next += size + d
					}
					checkPlacings(t, r, groups, d, want, first)
				}
			}
		}
	}
}

// TestBadPlacings calls all functions of placings with Rows, rings, groups and distances that are not valid.
func TestBadPlacings(t *testing.T) {
	check := func(r impl.Row, groups []int, d int) {
		t.Helper()
		for _, places := range [][]int{nil, {0}, {0, 1}, {0, 3}, ascending(len(groups))} {
			failed(t, briefly{r}, briefly{groups}, d, briefly{places}, "IsPlacing")(impl.IsPlacing(r, groups, d, places))
			failed(t, briefly{r}, briefly{groups}, d, briefly{places}, "PlaceRow")(impl.PlaceRow(r, groups, d, places))
		}
		failed(t, briefly{r}, briefly{groups}, d, "FirstPlacing")(impl.FirstPlacing(r, groups, d))
		failed(t, briefly{r}, briefly{groups}, d, "CountPlacings")(impl.CountPlacings(r, groups, d))
	}
	for _, r := range append(badRows(), row("ring ..."), row("ring ......"), row("ring x.."), row("ring "+dots(24)), row("ring "+crosses(24))) {
		for _, groups := range [][]int{nil, {1}, {1, 1}, {2, 1}, {1, 1, 1, 1, 1}, {100}, {0}} {
			for _, d := range []int{0, 1, -1, math.MaxInt} {
				check(r, groups, d)
			}
		}
	}
	for _, r := range []impl.Row{row("line .."), row("line xx"), row("line ......"), row("line ..x..."), row("line " + dots(24))} {
		for _, d := range []int{-1, -2, -24, -1 << 32, math.MinInt, math.MinInt + 1} {
			check(r, []int{1}, d)
			check(r, []int{2, 1}, d)
			check(r, []int{1, 1, 1, 1, 1}, d)
			check(r, []int{100}, d)
		}
		for _, d := range []int{0, 1, 5, math.MaxInt} {
			for _, many := range []int{0, impl.MaxGroups + 1, impl.MaxGroups + 2, 63, 64, 65, 100000} {
				check(r, slices.Repeat([]int{1}, many), d)
			}
			for many := 1; many <= impl.MaxGroups; many++ {
				for i := range many {
					for _, size := range []int{0, -1, -24, -1 << 32, math.MinInt, math.MinInt + 1} {
						groups := slices.Repeat([]int{1}, many)
						groups[i] = size
						check(r, groups, d)
					}
				}
			}
		}
	}
}

// spacingCalls returns the results of all functions of chapter 9.
func spacingCalls(r impl.Row, seats []int, worths []int, groups []int, k int, d int) []string {
	return []string{
		told(impl.IsSpaced(r, seats, d)), told(impl.CountSpaced(r, k, d)), told(impl.FirstSpaced(r, k, d)), told(impl.MostSpaced(r, d)), told(impl.GreatestSpread(r, k)), told(impl.BestWorth(r, worths, d)),
		told(impl.FewestGuards(r, d)), told(impl.IsGuarded(r, seats, d)), told(impl.IsPlacing(r, groups, d, seats)), told(impl.FirstPlacing(r, groups, d)), told(impl.CountPlacings(r, groups, d)), told(impl.PlaceRow(r, groups, d, seats)),
	}
}

// TestSpacingsAreNotModified calls all functions with lists that are the middle of longer slices, that within a Row, too, twice, with the same results.
func TestSpacingsAreNotModified(t *testing.T) {
	for _, c := range []struct{ row, seats, worths, groups string }{
		{"line ......", "0 3", "5 1 1 5 0 9", "2 1"}, {"ring ......", "0 3", "5 1 1 5 0 9", "2 1"}, {"line ..x...", "0 4", "0 0 3 0 1 0", "1 2"}, {"ring ..x...", "5 4", "0 0 3 0 1 0", "1 2"}, {"line ..x...", "3 0", "1 1 1 1 1 1", "3 2"}, {"line x.x....x...", "1 3 9", "4 3 2 1 0 1 2 3 4 5 6 7", "1 2 1"}, {"line xx", "1 0", "7 7", "1"}, {"ring xxx", "2 1 0", "0 0 0", "2"}, {"line ....", "3 2 1 0", "0 99 98 0", "1 1 1 1"}, {"ring ....", "", "", ""}, {"line ..", "4 -1", "100 -1", "0 1"}, {"line ....x...............x..", "20 0 7 10 14", "0 1 2 3 0 1 2 3 0 1 2 3 0 1 2 3 0 1 2 3 0 1 2 3", "1 2 1 3 2"},
	} {
		like := row(c.row)
		taken, one := inside(like.Taken)
		seats, two := inside(numbers(c.seats))
		worths, three := inside(numbers(c.worths))
		groups, four := inside(numbers(c.groups))
		kept := told(one, two, three, four)
		r := impl.Row{Seats: like.Seats, Ring: like.Ring, Taken: taken}
		for k := -1; k <= 5; k++ {
			for d := -1; d <= like.Seats+1; d++ {
				first := spacingCalls(r, seats, worths, groups, k, d)
				if again := spacingCalls(like, numbers(c.seats), numbers(c.worths), numbers(c.groups), k, d); !slices.Equal(first, again) {
					t.Errorf("other results the second time: %v and %v", first, again)
				}
				if told(one, two, three, four) != kept {
					t.Fatalf("a call with %v changed its arguments: %v %v %v %v", c, one, two, three, four)
				}
			}
		}
	}
}

// TestSpacingsShareNoMemory changes what the functions gave out, and expects that nothing else changes: neither the arguments, nor another result, nor what they give out later.
func TestSpacingsShareNoMemory(t *testing.T) {
	for _, r := range append(longRows(), row("line .."), row("ring ..."), row("line .x"), row("line xx"), row("ring .x...")) {
		seats, worths, groups := []int{0}, ascending(r.Seats), []int{1}
		all := func() string { return told(spacingCalls(r, seats, worths, groups, 1, 1)) }
		kept, calls := told(r, seats, worths, groups), all()
		var lists [][]int
		for range 2 {
			for d := range 4 {
				for k := range 3 {
					first, _ := impl.FirstSpaced(r, k, d)
					lists = append(lists, first)
				}
				_, chosen, _ := impl.BestWorth(r, worths, d)
				_, none, _ := impl.BestWorth(r, make([]int, r.Seats), d)
				_, guards, _ := impl.FewestGuards(r, d)
				places, _ := impl.FirstPlacing(r, groups, d)
				after, _ := impl.PlaceRow(r, groups, d, seats)
				lists = append(lists, chosen, none, guards, places, after.Taken)
			}
		}
		checkOwnMemory(t, fmt.Sprintf("%q", shown(r)), lists, func(i int) int { return -i - 1 })
		if told(r, seats, worths, groups) != kept || all() != calls {
			t.Errorf("%q: a result shares memory with an argument, or with a later one", shown(r))
		}
	}
}
