package tests

import (
	"fmt"
	"math"
	"slices"
	"strings"
	"testing"

	"loop.example/g01167/impl"
)

// farnessOf returns the farness of each seat, found by steps from neighbor to neighbor.
func farnessOf(r impl.Row) []int {
	far := slices.Repeat([]int{r.Seats}, r.Seats)
	for _, q := range r.Taken {
		for p, steps := range stepsFrom(r, q) {
			far[p] = min(far[p], steps)
		}
	}
	return far
}

// politeOf returns the polite seats, and their farness.
func politeOf(r impl.Row) ([]int, int) {
	far := farnessOf(r)
	most := slices.Max(far)
	var list []int
	for p, d := range far {
		if d == most && !slices.Contains(r.Taken, p) {
			list = append(list, p)
		}
	}
	return list, most
}

// with returns the Row in which some free seats are taken, too.
func with(r impl.Row, seats ...int) impl.Row {
	all := slices.Concat(r.Taken, seats)
	slices.Sort(all)
	return impl.Row{Seats: r.Seats, Ring: r.Ring, Taken: all}
}

// ordered returns the seats that newcomers take as long as their farness is at least so much, and the farness of each.
func ordered(r impl.Row, least int) (seats []int, far []int) {
	for {
		polite, d := politeOf(r)
		if len(polite) == 0 || d < least {
			return seats, far
		}
		seats = append(seats, polite[0])
		far = append(far, d)
		r = with(r, polite[0])
	}
}

// leastGapOf returns the least gap of two taken seats; there must be two.
func leastGapOf(r impl.Row) int {
	least := r.Seats
	for i, p := range r.Taken {
		steps := stepsFrom(r, p)
		for _, q := range r.Taken[:i] {
			least = min(least, steps[q])
		}
	}
	return least
}

// dots and crosses are seats of a text.
func dots(n int) string { return strings.Repeat(".", n) }

func crosses(n int) string { return strings.Repeat("x", n) }

func TestFarnessOf(t *testing.T) {
	for _, c := range []struct {
		text string
		want []int
	}{
		{"line x......", []int{0, 1, 2, 3, 4, 5, 6}}, {"line ..", []int{2, 2}}, {"line xx", []int{0, 0}}, {"line .x", []int{1, 0}}, {"line x.", []int{0, 1}}, {"line ...x", []int{3, 2, 1, 0}},
		{"line x...x", []int{0, 1, 2, 1, 0}}, {"line x..x", []int{0, 1, 1, 0}}, {"line ..x.....", []int{2, 1, 0, 1, 2, 3, 4, 5}}, {"line .....", []int{5, 5, 5, 5, 5}}, {"line xxx.", []int{0, 0, 0, 1}},
		{"ring ...", []int{3, 3, 3}}, {"ring xxx", []int{0, 0, 0}}, {"ring x..", []int{0, 1, 1}}, {"ring .xx", []int{1, 0, 0}}, {"ring x....", []int{0, 1, 2, 2, 1}}, {"ring ...x..", []int{3, 2, 1, 0, 1, 2}},
		{"ring x..x...", []int{0, 1, 1, 0, 1, 2, 1}}, {"ring .......", []int{7, 7, 7, 7, 7, 7, 7}}, {"line " + dots(24), slices.Repeat([]int{24}, 24)}, {"ring " + dots(24), slices.Repeat([]int{24}, 24)},
		{"ring " + crosses(24), make([]int, 24)}, {"line " + dots(23) + "x", []int{23, 22, 21, 20, 19, 18, 17, 16, 15, 14, 13, 12, 11, 10, 9, 8, 7, 6, 5, 4, 3, 2, 1, 0}},
		{"ring x" + dots(23), []int{0, 1, 2, 3, 4, 5, 6, 7, 8, 9, 10, 11, 12, 11, 10, 9, 8, 7, 6, 5, 4, 3, 2, 1}},
	} {
		if far, ok := impl.FarnessOf(row(c.text)); !slices.Equal(far, c.want) || !ok {
			t.Errorf("FarnessOf(%q) = %v, %v", c.text, far, ok)
		}
	}
	for _, r := range manyRows() {
		if far, ok := impl.FarnessOf(r); !slices.Equal(far, farnessOf(r)) || !ok {
			t.Errorf("FarnessOf(%q) = %v, %v", shown(r), far, ok)
		}
	}
}

func TestPoliteSeats(t *testing.T) {
	for _, c := range []struct {
		text string
		want []int
	}{
		{"line x......", []int{6}}, {"line ..", []int{0, 1}}, {"line xx", nil}, {"line x.", []int{1}}, {"line .x", []int{0}}, {"line ...", []int{0, 1, 2}}, {"line x..x", []int{1, 2}}, {"line x...x", []int{2}},
		{"line ..x..", []int{0, 4}}, {"line x....x...x", []int{2, 3, 7}}, {"line x.x.x.x", []int{1, 3, 5}}, {"line ..x...x", []int{0, 4}}, {"line .x.", []int{0, 2}}, {"line xx.x", []int{2}},
		{"ring ...", []int{0, 1, 2}}, {"ring xxx", nil}, {"ring x..", []int{1, 2}}, {"ring xx.", []int{2}}, {"ring x....", []int{2, 3}}, {"ring x.....", []int{3}}, {"ring x...x...", []int{2, 6}}, {"ring .x....x", []int{3, 4}},
		{"ring " + crosses(24), nil}, {"line " + crosses(24), nil}, {"line " + crosses(23) + ".", []int{23}}, {"ring x" + dots(23), []int{12}}, {"line x" + dots(23), []int{23}},
	} {
		r := row(c.text)
		if list, ok := impl.PoliteSeats(r); !slices.Equal(list, c.want) || !ok {
			t.Errorf("PoliteSeats(%q) = %v, %v", c.text, list, ok)
		}
		if len(c.want) == 0 {
			failed(t, "NextPolite", c.text)(impl.NextPolite(r))
		} else if next, ok := impl.NextPolite(r); next != c.want[0] || !ok {
			t.Errorf("NextPolite(%q) = %d, %v", c.text, next, ok)
		}
	}
	for _, r := range manyRows() {
		want, _ := politeOf(r)
		if list, ok := impl.PoliteSeats(r); !slices.Equal(list, want) || !ok {
			t.Errorf("PoliteSeats(%q) = %v, %v", shown(r), list, ok)
		}
		next, ok := impl.NextPolite(r)
		if len(want) == 0 {
			failed(t, "NextPolite", shown(r))(next, ok)
		} else if next != want[0] || !ok {
			t.Errorf("NextPolite(%q) = %d, %v", shown(r), next, ok)
		}
	}
}

func TestPoliteOrder(t *testing.T) {
	for _, c := range []struct {
		text string
		want []int
	}{
		{"line x......", []int{6, 3, 1, 2, 4, 5}}, {"line ..", []int{0, 1}}, {"line ...", []int{0, 2, 1}}, {"line xx", nil}, {"line .x", []int{0}}, {"line ....", []int{0, 3, 1, 2}}, {"line ..x..", []int{0, 4, 1, 3}},
		{"ring ...", []int{0, 1, 2}}, {"ring xxx", nil}, {"ring .xx", []int{0}}, {"ring ....", []int{0, 2, 1, 3}}, {"ring .....", []int{0, 2, 1, 3, 4}}, {"ring x...x...", []int{2, 6, 1, 3, 5, 7}}, {"line x....x...x", []int{2, 7, 1, 3, 4, 6, 8}},
	} {
		if order, ok := impl.PoliteOrder(row(c.text)); !slices.Equal(order, c.want) || !ok {
			t.Errorf("PoliteOrder(%q) = %v, %v", c.text, order, ok)
		}
	}
	for _, r := range manyRows() {
		want, _ := ordered(r, 0)
		if order, ok := impl.PoliteOrder(r); !slices.Equal(order, want) || !ok {
			t.Errorf("PoliteOrder(%q) = %v, %v", shown(r), order, ok)
		}
	}
}

// TestFarnessFalls checks promise 3 for orders: each free seat once, the farness of each one at most that of the one before it.
func TestFarnessFalls(t *testing.T) {
	for _, r := range manyRows() {
		order, _ := impl.PoliteOrder(r)
		before, behind := r.Seats, r
		for i, p := range order {
			far, ok := impl.FarnessOf(behind)
			if !ok || far[p] < 1 || far[p] > before {
				t.Errorf("PoliteOrder(%q) = %v: the farness of seat %d is %v, and before %d", shown(r), order, i, far, before)
			}
			before, behind = far[p], with(behind, p)
		}
		slices.Sort(order)
		if !slices.Equal(order, theSeats(r, false)) {
			t.Errorf("PoliteOrder(%q) has other seats than the free ones: %v", shown(r), order)
		}
	}
}

func TestSettleRow(t *testing.T) {
	for _, c := range []struct {
		text, want string
		many       int
	}{
		{"line x......", "line x..x..x", 2}, {"line ..", "line x.", 1}, {"line ...", "line x.x", 2}, {"line .x", "line .x", 0}, {"line xx", "line xx", 0}, {"line .x.", "line .x.", 0}, {"line ..x", "line x.x", 1}, {"line ..x..", "line x.x.x", 2},
		{"line x..x", "line x..x", 0}, {"line x...x", "line x.x.x", 1}, {"line ....", "line x..x", 2}, {"ring ...", "ring x..", 1}, {"ring xxx", "ring xxx", 0}, {"ring x..", "ring x..", 0}, {"ring ....", "ring x.x.", 2}, {"ring x....", "ring x.x..", 1},
		{"ring .x....x", "ring .x.x..x", 1}, {"line xxx..", "line xxx.x", 1}, {"line " + crosses(24), "line " + crosses(24), 0}, {"ring " + crosses(23) + ".", "ring " + crosses(23) + ".", 0},
		{"ring " + dots(24), "ring " + strings.Repeat("x..", 8), 8}, {"line " + dots(24), "line x.x" + strings.Repeat("..x", 7), 9},
	} {
		if settled, many, ok := impl.SettleRow(row(c.text)); !sameRow(settled, row(c.want)) || many != c.many || !ok {
			t.Errorf("SettleRow(%q) = %q, %d, %v", c.text, shown(settled), many, ok)
		}
	}
	for _, r := range manyRows() {
		seats, _ := ordered(r, 2)
		if settled, many, ok := impl.SettleRow(r); !sameRow(settled, with(r, seats...)) || many != len(seats) || !ok {
			t.Errorf("SettleRow(%q) = %v, %d, %v", shown(r), settled, many, ok)
		}
	}
}

// TestNobodySettledIsLonely checks promise 3 for settled Rows: no seat is lonely, and each seat taken before is taken.
func TestNobodySettledIsLonely(t *testing.T) {
	for _, r := range manyRows() {
		settled, many, ok := impl.SettleRow(r)
		lonely, fine := impl.LonelySeats(settled)
		if !ok || !fine || len(lonely) != 0 || len(settled.Taken) != len(r.Taken)+many {
			t.Errorf("SettleRow(%q) = %v, %d, %v, with the lonely seats %v", shown(r), settled, many, ok, lonely)
		}
		for _, p := range r.Taken {
			if !slices.Contains(settled.Taken, p) {
				t.Errorf("SettleRow(%q) leaves the seat %d: %v", shown(r), p, settled)
			}
		}
	}
}

func TestAfterPolite(t *testing.T) {
	for _, c := range []struct {
		text string
		k    int
		want string
	}{
		{"line x......", 0, "line x......"}, {"line x......", 1, "line x.....x"}, {"line x......", 2, "line x..x..x"}, {"line x......", 3, "line xx.x..x"}, {"line x......", 6, "line xxxxxxx"}, {"line ..", 0, "line .."}, {"line ..", 1, "line x."}, {"line ..", 2, "line xx"},
		{"line xx", 0, "line xx"}, {"line .x", 1, "line xx"}, {"ring ...", 0, "ring ..."}, {"ring ...", 2, "ring xx."}, {"ring ...", 3, "ring xxx"}, {"ring xxx", 0, "ring xxx"}, {"ring x.x", 1, "ring xxx"}, {"ring x....", 1, "ring x.x.."},
		{"line " + dots(24), 24, "line " + crosses(24)}, {"ring " + dots(24), 24, "ring " + crosses(24)}, {"ring " + dots(24), 2, "ring x" + dots(11) + "x" + dots(11)}, {"line " + dots(24), 2, "line x" + dots(22) + "x"}, {"line " + dots(24), 0, "line " + dots(24)},
	} {
		if after, ok := impl.AfterPolite(row(c.text), c.k); !sameRow(after, row(c.want)) || !ok {
			t.Errorf("AfterPolite(%q, %d) = %v, %v", c.text, c.k, after, ok)
		}
	}
	for _, r := range manyRows() {
		order, _ := ordered(r, 0)
		for k := -2; k <= impl.MaxSeats+2; k++ {
			after, ok := impl.AfterPolite(r, k)
			if k < 0 || k > len(order) {
				failed(t, "AfterPolite", shown(r), k)(after, ok)
			} else if !sameRow(after, with(r, order[:k]...)) || !ok {
				t.Errorf("AfterPolite(%q, %d) = %v, %v", shown(r), k, after, ok)
			}
		}
		for _, k := range []int{math.MinInt, math.MaxInt, math.MinInt + 1, math.MaxInt - 1} {
			failed(t, "AfterPolite", shown(r), k)(impl.AfterPolite(r, k))
		}
	}
}

// runSettlers settles a walled run one by one: the walls are taken seats beyond its ends, and all seats of a run without walls and newcomers are equally far.
func runSettlers(n int, walls int) int {
	taken := []int{}
	if walls > 0 {
		taken = append(taken, -1)
	}
	if walls > 1 {
		taken = append(taken, n)
	}
	for many := 0; ; many++ {
		best, most := 0, 1
		for p := range n {
			far := n + 2
			for _, q := range taken {
				far = min(far, max(p-q, q-p))
			}
			if far > most {
				best, most = p, far
			}
		}
		if most < 2 {
			return many
		}
		taken = append(taken, best)
	}
}

func TestSettleRun(t *testing.T) {
	for _, c := range [][3]int{
		{7, 2, 3}, {6, 1, 2}, {1, 0, 1}, {0, 0, 0}, {0, 1, 0}, {0, 2, 0}, {1, 1, 0}, {1, 2, 0}, {2, 0, 1}, {2, 1, 1}, {2, 2, 0}, {3, 0, 2}, {3, 1, 1}, {3, 2, 1}, {4, 2, 1}, {5, 2, 1}, {6, 2, 2}, {8, 2, 3},
		{24, 0, 9}, {24, 1, 8}, {24, 2, 8}, {23, 2, 7}, {23, 1, 8},
	} {
		if many, ok := impl.SettleRun(c[0], c[1]); many != c[2] || !ok {
			t.Errorf("SettleRun(%d, %d) = %d, %v", c[0], c[1], many, ok)
		}
	}
	for n := range impl.MaxSeats + 1 {
		for walls := range 3 {
			if many, ok := impl.SettleRun(n, walls); many != runSettlers(n, walls) || !ok {
				t.Errorf("SettleRun(%d, %d) = %d, %v", n, walls, many, ok)
			}
		}
	}
	for _, n := range []int{-1, impl.MaxSeats + 1, -2, impl.MaxSeats + 2, math.MinInt, math.MaxInt} {
		for walls := range 3 {
			failed(t, "SettleRun", n, walls)(impl.SettleRun(n, walls))
		}
	}
	for _, walls := range []int{-1, 3, -2, 4, math.MinInt, math.MaxInt} {
		for _, n := range []int{0, 1, 2, 3, 10, impl.MaxSeats, -1, impl.MaxSeats + 1} {
			failed(t, "SettleRun", n, walls)(impl.SettleRun(n, walls))
		}
	}
}

// TestRunsAreSettledInParts checks promise 3 for runs: as many newcomers as the two runs that the first one leaves, and 1.
func TestRunsAreSettledInParts(t *testing.T) {
	run := func(n int, walls int) int {
		many, ok := impl.SettleRun(n, walls)
		if !ok {
			t.Errorf("SettleRun(%d, %d) fails", n, walls)
		}
		return many
	}
	for n := 1; n <= impl.MaxSeats; n++ {
		if run(n, 0) != 1+run(n-1, 1) {
			t.Errorf("%d seats without walls: %d", n, run(n, 0))
		}
		if n >= 2 && run(n, 1) != 1+run(n-1, 2) {
			t.Errorf("%d seats with one wall: %d", n, run(n, 1))
		}
		if middle := (n - 1) / 2; n >= 3 && run(n, 2) != 1+run(middle, 2)+run(n-1-middle, 2) {
			t.Errorf("%d seats with two walls: %d", n, run(n, 2))
		}
	}
}

// TestRowsAreSettledByRuns holds settled Rows against their walled runs.
func TestRowsAreSettledByRuns(t *testing.T) {
	for _, r := range manyRows() {
		if r.Ring && len(r.Taken) == 0 {
			continue
		}
		runs, _ := impl.RunsOf(r)
		sum := 0
		for _, run := range runs {
			walls := 2
			if !r.Ring && run[0] == 0 {
				walls--
			}
			if !r.Ring && run[0]+run[1] == r.Seats {
				walls--
			}
			many, _ := impl.SettleRun(run[1], walls)
			sum += many
		}
		if _, many, ok := impl.SettleRow(r); many != sum || !ok {
			t.Errorf("SettleRow(%q) has %d newcomers, and its runs %d", shown(r), many, sum)
		}
	}
}

func TestStarts(t *testing.T) {
	for _, c := range []struct {
		seats       int
		ring        bool
		counts      []int
		best, most  int
		worst, less int
	}{
		{5, false, []int{3, 2, 3, 2, 3}, 0, 3, 1, 2}, {2, false, []int{1, 1}, 0, 1, 0, 1}, {3, false, []int{2, 1, 2}, 0, 2, 1, 1}, {7, false, []int{3, 3, 4, 3, 4, 3, 3}, 2, 4, 0, 3}, {8, false, []int{4, 3, 4, 4, 4, 4, 3, 4}, 0, 4, 1, 3},
		{4, false, []int{2, 2, 2, 2}, 0, 2, 0, 2}, {3, true, []int{1, 1, 1}, 0, 1, 0, 1}, {4, true, []int{2, 2, 2, 2}, 0, 2, 0, 2}, {7, true, []int{3, 3, 3, 3, 3, 3, 3}, 0, 3, 0, 3}, {24, true, slices.Repeat([]int{8}, 24), 0, 8, 0, 8},
		{24, false, []int{9, 9, 10, 10, 11, 11, 11, 12, 12, 11, 10, 9, 9, 10, 11, 12, 12, 11, 11, 11, 10, 10, 9, 9}, 7, 12, 0, 9},
	} {
		name := fmt.Sprint(c.seats, c.ring)
		if counts, ok := impl.SettleCounts(c.seats, c.ring); !slices.Equal(counts, c.counts) || !ok {
			t.Errorf("SettleCounts of %s: %v, %v", name, counts, ok)
		}
		if p, many, ok := impl.BestStart(c.seats, c.ring); p != c.best || many != c.most || !ok {
			t.Errorf("BestStart of %s: %d, %d, %v", name, p, many, ok)
		}
		if p, many, ok := impl.WorstStart(c.seats, c.ring); p != c.worst || many != c.less || !ok {
			t.Errorf("WorstStart of %s: %d, %d, %v", name, p, many, ok)
		}
	}
}

// TestAllStarts settles Rows of each number of seats from each seat on, and checks promise 3 for rings: all counts are the same.
func TestAllStarts(t *testing.T) {
	for seats := 2; seats <= impl.MaxSeats; seats++ {
		for _, ring := range []bool{false, true} {
			if ring && seats == 2 {
				continue
			}
			var want []int
			for p := range seats {
				order, _ := ordered(impl.Row{Seats: seats, Ring: ring, Taken: []int{p}}, 2)
				want = append(want, len(order)+1)
			}
			counts, ok := impl.SettleCounts(seats, ring)
			if !ok || !slices.Equal(counts, want) || ring && slices.Min(counts) != slices.Max(counts) {
				t.Errorf("SettleCounts(%d, %v) = %v, %v", seats, ring, counts, ok)
			}
			if p, many, ok := impl.BestStart(seats, ring); many != slices.Max(want) || p != slices.Index(want, many) || !ok {
				t.Errorf("BestStart(%d, %v) = %d, %d, %v", seats, ring, p, many, ok)
			}
			if p, many, ok := impl.WorstStart(seats, ring); many != slices.Min(want) || p != slices.Index(want, many) || !ok {
				t.Errorf("WorstStart(%d, %v) = %d, %d, %v", seats, ring, p, many, ok)
			}
		}
	}
}

func TestBadStarts(t *testing.T) {
	for _, seats := range []int{1, 0, -1, -2, impl.MaxSeats + 1, impl.MaxSeats + 2, math.MinInt, math.MaxInt, 2} {
		for _, ring := range []bool{false, true} {
			if seats == 2 && !ring {
				continue
			}
			failed(t, "SettleCounts", seats, ring)(impl.SettleCounts(seats, ring))
			failed(t, "BestStart", seats, ring)(impl.BestStart(seats, ring))
			failed(t, "WorstStart", seats, ring)(impl.WorstStart(seats, ring))
		}
	}
}

func TestLeastGap(t *testing.T) {
	for _, c := range []struct {
		text string
		want int
	}{
		{"line x..x..x", 3}, {"line xx", 1}, {"line x.x", 2}, {"line x..x.x", 2}, {"line x.x..x", 2}, {"line .x....x", 5}, {"line x" + dots(22) + "x", 23}, {"line " + crosses(24), 1}, {"line x...xx", 1},
		{"ring xx.", 1}, {"ring x.x", 1}, {"ring xxx", 1}, {"ring x..x.", 2}, {"ring x.x.", 2}, {"ring x..x...", 3}, {"ring x" + dots(22) + "x", 1}, {"ring x" + dots(11) + "x" + dots(11), 12}, {"ring x...x...x.", 2}, {"ring .x...x...x", 2}, {"ring ..x...x", 3},
	} {
		if gap, ok := impl.LeastGap(row(c.text)); gap != c.want || !ok {
			t.Errorf("LeastGap(%q) = %d, %v", c.text, gap, ok)
		}
	}
	for _, r := range manyRows() {
		gap, ok := impl.LeastGap(r)
		if len(r.Taken) < 2 {
			failed(t, "LeastGap", shown(r))(gap, ok)
		} else if gap != leastGapOf(r) || !ok {
			t.Errorf("LeastGap(%q) = %d, %v", shown(r), gap, ok)
		}
	}
}

func TestPoliteSpread(t *testing.T) {
	for _, c := range []struct {
		text    string
		k, want int
	}{
		{"line x......", 1, 6}, {"line x......", 2, 3}, {"line x......", 3, 1}, {"line x......", 6, 1}, {"line ..", 2, 1}, {"line xx", 0, 1}, {"line .x", 1, 1}, {"line x..x", 0, 3}, {"ring ...", 2, 1}, {"ring xxx", 0, 1}, {"ring x....", 1, 2},
		{"ring x..x..", 0, 3}, {"line " + dots(24), 2, 23}, {"line " + dots(24), 3, 11}, {"line " + dots(24), 4, 6}, {"line " + dots(24), 24, 1}, {"ring " + dots(24), 2, 12}, {"ring " + dots(24), 4, 6}, {"ring " + dots(24), 8, 3}, {"ring " + dots(24), 9, 1},
	} {
		if gap, ok := impl.PoliteSpread(row(c.text), c.k); gap != c.want || !ok {
			t.Errorf("PoliteSpread(%q, %d) = %d, %v", c.text, c.k, gap, ok)
		}
	}
	for _, r := range manyRows() {
		order, _ := ordered(r, 0)
		for _, k := range []int{0, 1, 2, 3, len(order) / 2, len(order), len(order) + 1, impl.MaxSeats, impl.MaxSeats + 1, -1, math.MinInt, math.MaxInt} {
			gap, ok := impl.PoliteSpread(r, k)
			if k < 0 || k > len(order) || len(r.Taken)+k < 2 {
				failed(t, "PoliteSpread", shown(r), k)(gap, ok)
			} else if gap != leastGapOf(with(r, order[:k]...)) || !ok {
				t.Errorf("PoliteSpread(%q, %d) = %d, %v", shown(r), k, gap, ok)
			}
		}
	}
}

// choices gives all choices of k of some seats.
func choices(seats []int, k int, chosen []int, each func([]int)) {
	if k == 0 {
		each(chosen)
		return
	}
	for i, p := range seats {
		choices(seats[i+1:], k-1, append(chosen[:len(chosen):len(chosen)], p), each)
	}
}

// TestNoChoiceIsMuchWider checks promise 3 for spreads: no choice of k free seats has a least gap of all taken ones that is greater than 2 times the farness of the last newcomer.
func TestNoChoiceIsMuchWider(t *testing.T) {
	check := func(r impl.Row, k int) {
		before, ok := impl.AfterPolite(r, k-1)
		last, fine := impl.NextPolite(before)
		far, sure := impl.FarnessOf(before)
		if !ok || !fine || !sure {
			t.Fatalf("no %d newcomers in %q", k, shown(r))
		}
		if spread, ok := impl.PoliteSpread(r, k); ok && (spread < 1 || spread > far[last]) {
			t.Errorf("PoliteSpread(%q, %d) = %d, but the last newcomer has the farness %d", shown(r), k, spread, far[last])
		}
		choices(theSeats(r, false), k, nil, func(chosen []int) {
			if gap, ok := impl.LeastGap(with(r, chosen...)); ok && gap > 2*far[last] {
				t.Errorf("%q: the choice %v has the least gap %d, but the last of %d newcomers the farness %d", shown(r), chosen, gap, k, far[last])
			}
		})
	}
	for seats := 2; seats <= 8; seats++ {
		for _, r := range allRows(seats) {
			for k := range theSeats(r, false) {
				check(r, k+1)
			}
		}
	}
	for _, r := range manyRows() {
		for k := 1; r.Seats > 8 && k <= min(3, r.Seats-len(r.Taken)); k++ {
			check(r, k)
		}
	}
	for _, text := range []string{"line " + dots(13), "ring " + dots(13)} {
		for k := range 13 {
			check(row(text), k+1)
		}
	}
}

// waysOf counts the orders in which newcomers settle if each one takes any polite seat, one list of seats after the other.
func waysOf(r impl.Row) int {
	lists, full := [][]int{nil}, 0
	for len(lists) > 0 {
		last := lists[len(lists)-1]
		lists = lists[:len(lists)-1]
		polite, far := politeOf(with(r, last...))
		if far < 2 {
			full++
			continue
		}
		for _, p := range polite {
			lists = append(lists, slices.Concat(last, []int{p}))
		}
	}
	return full
}

func TestPoliteTies(t *testing.T) {
	for _, c := range []struct {
		text string
		want int
	}{
		{"ring x....", 2}, {"line ..", 2}, {"line ...", 3}, {"line .x", 1}, {"line xx", 1}, {"line ..x..", 2}, {"line x...x...x", 2}, {"line x...x...x...x", 6}, {"line x......", 1}, {"line x....x", 2}, {"line x..x", 1},
		{"ring ...", 3}, {"ring xxx", 1}, {"ring ....", 4}, {"ring x.....", 1}, {"ring .....", 10}, {"line " + dots(10), 40}, {"ring " + dots(10), 80}, {"line x" + dots(10), 8}, {"ring x" + dots(10), 4},
		{"line " + crosses(24), 1}, {"ring " + crosses(24), 1}, {"line " + crosses(14) + dots(10), 8}, {"ring " + crosses(23) + ".", 1}, {"line ." + crosses(14) + dots(9), 8},
	} {
		if ways, ok := impl.PoliteTies(row(c.text)); ways != c.want || !ok {
			t.Errorf("PoliteTies(%q) = %d, %v", c.text, ways, ok)
		}
	}
	for _, text := range []string{"line " + dots(11), "ring " + dots(11), "line x" + dots(11), "ring " + crosses(13) + dots(11), "line " + crosses(12) + dots(12), "line " + dots(24), "ring " + strings.Repeat("x.", 11) + ".x"} {
		failed(t, "PoliteTies", text)(impl.PoliteTies(row(text)))
	}
	for _, r := range manyRows() {
		ways, ok := impl.PoliteTies(r)
		if r.Seats-len(r.Taken) > 10 {
			failed(t, "PoliteTies", shown(r))(ways, ok)
		} else if want := waysOf(r); ways != want || !ok {
			t.Errorf("PoliteTies(%q) = %d, %v", shown(r), ways, ok)
		}
	}
}

// TestBadPoliteRows calls each function with Rows that are not valid, and numbers that would do for a valid one.
func TestBadPoliteRows(t *testing.T) {
	for _, r := range badRows() {
		name := fmt.Sprintf("of %.80s: ", fmt.Sprint(r))
		failed(t, name, "FarnessOf")(impl.FarnessOf(r))
		failed(t, name, "PoliteSeats")(impl.PoliteSeats(r))
		failed(t, name, "NextPolite")(impl.NextPolite(r))
		failed(t, name, "PoliteOrder")(impl.PoliteOrder(r))
		failed(t, name, "SettleRow")(impl.SettleRow(r))
		failed(t, name, "LeastGap")(impl.LeastGap(r))
		failed(t, name, "PoliteTies")(impl.PoliteTies(r))
		for _, k := range []int{0, 1, 2, -1, 24, 25, math.MinInt, math.MaxInt} {
			failed(t, name, "AfterPolite", k)(impl.AfterPolite(r, k))
			failed(t, name, "PoliteSpread", k)(impl.PoliteSpread(r, k))
		}
	}
}

// politeCalls returns the results of all functions of chapter 3 for a Row and a number.
func politeCalls(r impl.Row, k int) []string {
	return []string{
		told(impl.FarnessOf(r)), told(impl.PoliteSeats(r)), told(impl.NextPolite(r)), told(impl.PoliteOrder(r)), told(impl.SettleRow(r)), told(impl.AfterPolite(r, k)), told(impl.SettleRun(k, 2)),
		told(impl.BestStart(k, true)), told(impl.WorstStart(k, false)), told(impl.SettleCounts(k, false)), told(impl.LeastGap(r)), told(impl.PoliteSpread(r, k)), told(impl.PoliteTies(r)),
	}
}

// TestPoliteRowsAreNotModified calls all functions with a Taken that is the middle of a longer slice, twice, with the same results.
func TestPoliteRowsAreNotModified(t *testing.T) {
	for _, c := range []impl.Row{
		row("line .x..x."), row("ring .x..x."), row("ring xxx"), row("line ...."), row("ring ......"), row("line x....."), row("ring x....x.xx"), {Seats: 5, Taken: []int{3, 1}}, {Seats: 5, Ring: true, Taken: []int{1, 1, 7}}, {},
	} {
		whole := slices.Concat([]int{90, 91}, c.Taken, []int{92, 93, 94, 95})
		kept := slices.Clone(whole)
		r := impl.Row{Seats: c.Seats, Ring: c.Ring, Taken: whole[2 : 2+len(c.Taken)]}
		for k := -1; k <= 6; k++ {
			first := politeCalls(r, k)
			if again := politeCalls(c, k); !slices.Equal(first, again) {
				t.Errorf("other results the second time: %v and %v", first, again)
			}
			if !slices.Equal(whole, kept) {
				t.Fatalf("a call with %v and %d changed its argument: %v", c, k, whole)
			}
		}
	}
}

// TestPoliteRowsShareNoMemory changes what the functions gave out, and expects that nothing else changes: neither the argument nor another result.
func TestPoliteRowsShareNoMemory(t *testing.T) {
	for _, text := range []string{"ring x...x.x", "ring xxxxxx", "ring ......", "line x......", "line .x.x", "line ...x"} {
		r := row(text)
		kept := slices.Clone(r.Taken)
		var lists [][]int
		keep := func(list []int, ok bool) { lists = append(lists, list) }
		keepRow := func(r impl.Row, ok bool) { lists = append(lists, r.Taken) }
		for range 2 {
			keep(impl.FarnessOf(r))
			keep(impl.PoliteSeats(r))
			keep(impl.PoliteOrder(r))
			keep(impl.SettleCounts(r.Seats, r.Ring))
			keepRow(impl.AfterPolite(r, 0))
			keepRow(impl.AfterPolite(r, 1))
			settled, _, ok := impl.SettleRow(r)
			keepRow(settled, ok)
		}
		for i, list := range lists {
			for j := range list[:cap(list)] {
				list[:cap(list)][j] = -i - 1
			}
		}
		for i, list := range lists {
			if slices.ContainsFunc(list, func(p int) bool { return p != -i-1 }) {
				t.Errorf("%q: the result %d shares memory with another one", text, i)
			}
		}
		if !slices.Equal(r.Taken, kept) {
			t.Errorf("%q: a result shares memory with the argument", text)
		}
	}
}
