package tests

import (
	"fmt"
	"math"
	"slices"
	"strings"
	"testing"

	"loop.example/g01167/impl"
)

// marksOf tells for each seat of a Row whether somebody sits there.
func marksOf(r impl.Row) []bool {
	marks := make([]bool, r.Seats)
	for _, p := range r.Taken {
		marks[p] = true
	}
	return marks
}

// passed goes from both ends along to a seat, step by step, and counts those who sit on the way.
func passed(marks []bool, seat int) (left int, right int) {
	for p := 0; p != seat; p++ {
		if marks[p] {
			left++
		}
	}
	for p := len(marks) - 1; p != seat; p-- {
		if marks[p] {
			right++
		}
	}
	return left, right
}

// coming tells what an arrival is like: how many stand up at the left end, and with both ends, and the ends.
type coming struct {
	left, both, sides []int
}

func comingOf(r impl.Row, seats []int) coming {
	var c coming
	marks := marksOf(r)
	for _, p := range seats {
		left, right := passed(marks, p)
		side := 0
		if right < left {
			side = 1
		}
		c.left = append(c.left, left)
		c.both = append(c.both, []int{left, right}[side])
		c.sides = append(c.sides, side)
		marks[p] = true
	}
	return c
}

// leaving returns how many stand up for each one who leaves.
func leaving(r impl.Row, seats []int) []int {
	var list []int
	marks := marksOf(r)
	for _, p := range seats {
		left, _ := passed(marks, p)
		list = append(list, left)
		marks[p] = false
	}
	return list
}

// comesIn tells whether a list is an arrival, seat by seat.
func comesIn(r impl.Row, seats []int) bool {
	for i, p := range seats {
		if p < 0 || p >= r.Seats || slices.Contains(r.Taken, p) || slices.Contains(seats[:i], p) {
			return false
		}
	}
	return len(seats) <= impl.MaxPublic
}

// without returns a Row in which some taken seats are free.
func without(r impl.Row, seats ...int) impl.Row {
	taken := slices.DeleteFunc(slices.Clone(r.Taken), func(p int) bool { return slices.Contains(seats, p) })
	return impl.Row{Seats: r.Seats, Ring: r.Ring, Taken: taken}
}

func reversed(list []int) []int {
	back := slices.Clone(list)
	slices.Reverse(back)
	return back
}

// someLines returns all lines of at most so many seats, and long ones.
func someLines(most int) []impl.Row {
	var list []impl.Row
	for seats := 2; seats <= most; seats++ {
		for _, r := range allRows(seats) {
			if !r.Ring {
				list = append(list, r)
			}
		}
	}
	for _, signs := range []string{
		dots(24), crosses(24), crosses(23) + ".", "." + crosses(23), dots(23) + "x", "x" + dots(23), crosses(11) + "." + crosses(12), crosses(12) + "." + crosses(11), strings.Repeat("x.", 12), "x" + dots(22) + "x", dots(10) + crosses(14), crosses(14) + dots(10), dots(5) + crosses(14) + dots(5), "..x....x.xx.....x....xx.", "xx..x.xxx...x.xx.x.xxx.x", "....xxx...xxx.", "x...........",
	} {
		list = append(list, row("line "+signs))
	}
	return list
}

// manyFree returns lines with MaxPublic + 1 free seats, and more.
func manyFree() []impl.Row {
	return []impl.Row{row("line " + dots(11)), row("line " + dots(24)), row("line " + dots(11) + crosses(13)), row("line " + crosses(13) + dots(11)), row("line x" + dots(23)), row("line " + strings.Repeat(".x", 12)), row("line ......x....x.")}
}

// picked calls a function with some of the lists of different ones of some seats, at most MaxPublic: all of them if they are few.
func picked(seats []int, each func(list []int)) {
	if len(seats) <= 5 {
		for k := range len(seats) + 1 {
			listsOfPlaces(seats, k, nil, each)
		}
		return
	}
	for many := range min(len(seats), impl.MaxPublic) + 1 {
		each(slices.Clone(seats[:many]))
		each(slices.Clone(seats[len(seats)-many:]))
		each(reversed(seats[:many]))
		each(reversed(seats[len(seats)-many:]))
	}
	for rule := range 60 {
		left := slices.Clone(seats)
		var list []int
		for i := range min(len(seats), 1+rule%impl.MaxPublic) {
			at := (rule*(i+2) + rule/7*i*i) % len(left)
			list = append(list, left[at])
			left = slices.Delete(left, at, at+1)
		}
		each(list)
	}
}

func TestIsArrival(t *testing.T) {
	for _, c := range []struct {
		row, seats string
		want       bool
	}{
		{"line ..x..", "", true}, {"line ..x..", "2", false}, {"line ..x..", "0", true}, {"line ..x..", "4", true}, {"line ..x..", "5", false}, {"line ..x..", "-1", false}, {"line ..x..", "3 0 4", true}, {"line ..x..", "0 1 3 4", true}, {"line ..x..", "4 3 1 0", true}, {"line ..x..", "0 0", false}, {"line ..x..", "0 1 0", false}, {"line ..x..", "4 3 1 0 4", false}, {"line ..x..", "0 1 2", false}, {"line ..x..", "2 0", false}, {"line ..x..", "0 5", false}, {"line ..x..", "0 -1", false}, {"line ..x..", "9223372036854775807", false}, {"line ..x..", "-9223372036854775808", false}, {"line ..x..", "0 9223372036854775807", false}, {"line ..x..", "1 -9223372036854775808", false}, {"line ..x..", "4294967296", false},
		{"line xx", "", true}, {"line xx", "0", false}, {"line xx", "2", false}, {"line .x", "0", true}, {"line .x", "1", false}, {"line .x", "0 1", false}, {"line x.", "1", true}, {"line x.", "0", false}, {"line ..", "0 1", true}, {"line ..", "1 0", true}, {"line ..", "1 1", false}, {"line ..", "0 1 2", false}, {"line ..", "1 0 1", false},
		{"line " + dots(24), "23 0 12 11 5 7 9 3 22 1", true}, {"line " + dots(24), "23 0 12 11 5 7 9 3 22 1 2", false}, {"line " + dots(24), "0 1 2 3 4 5 6 7 8 9", true}, {"line " + dots(24), "0 1 2 3 4 5 6 7 8 9 10", false}, {"line " + dots(24), "0 1 2 3 4 5 6 7 8 0", false}, {"line " + dots(24), "0 1 2 3 4 5 6 7 8 24", false}, {"line " + dots(24), "23", true}, {"line " + dots(24), "24", false}, {"line " + crosses(24), "", true}, {"line " + crosses(24), "23", false}, {"line " + crosses(23) + ".", "23", true}, {"line " + crosses(23) + ".", "22", false}, {"line ..........", "9 8 7 6 5 4 3 2 1 0", true}, {"line ..........", "9 8 7 6 5 4 3 2 1 0 0", false},
	} {
		if is, ok := impl.IsArrival(row(c.row), numbers(c.seats)); is != c.want || !ok {
			t.Errorf("IsArrival(%q, %q) = %v, %v", c.row, c.seats, is, ok)
		}
	}
}

func TestStandsOf(t *testing.T) {
	for _, c := range []struct {
		row, seats, left, both, sides string
	}{
		{"line ..x..", "3 0 4", "1 0 3", "0 0 0", "1 0 1"}, {"line ..x..", "", "", "", ""}, {"line ..x..", "4 3 1 0", "1 1 0 0", "0 1 0 0", "1 0 0 0"}, {"line ..x..", "0 1 3 4", "0 1 3 4", "0 1 0 0", "0 0 1 1"}, {"line ..x..", "4", "1", "0", "1"}, {"line ..x..", "1", "0", "0", "0"}, {"line ..", "0 1", "0 1", "0 0", "0 1"}, {"line ..", "1 0", "0 0", "0 0", "0 0"}, {"line ..", "1", "0", "0", "0"}, {"line xx", "", "", "", ""}, {"line .x", "0", "0", "0", "0"}, {"line x.", "1", "1", "0", "1"},
		{"line x.x", "1", "1", "1", "0"}, {"line xx.x", "2", "2", "1", "1"}, {"line x.xx", "1", "1", "1", "0"}, {"line xx.xx", "2", "2", "2", "0"}, {"line x....x", "2 3 1 4", "1 2 1 4", "1 1 1 1", "0 1 0 1"}, {"line ....", "1 3 0 2", "0 1 0 2", "0 0 0 1", "0 1 0 1"}, {"line ....", "0 3 1 2", "0 1 1 2", "0 0 1 1", "0 1 0 1"},
		{"line " + dots(24), "0 1 2 3 4 5 6 7 8 9", "0 1 2 3 4 5 6 7 8 9", "0 0 0 0 0 0 0 0 0 0", "0 1 1 1 1 1 1 1 1 1"}, {"line " + dots(24), "23 22 21 20 19 18 17 16 15 14", "0 0 0 0 0 0 0 0 0 0", "0 0 0 0 0 0 0 0 0 0", "0 0 0 0 0 0 0 0 0 0"}, {"line " + dots(24), "12 0 23 11 13 1 22 2 21 6", "0 0 2 1 3 1 5 2 6 3", "0 0 0 1 1 1 1 2 2 3", "0 0 1 0 1 0 1 0 1 0"}, {"line " + crosses(23) + ".", "23", "23", "0", "1"}, {"line ." + crosses(23), "0", "0", "0", "0"}, {"line " + crosses(11) + "." + crosses(12), "11", "11", "11", "0"}, {"line " + crosses(12) + "." + crosses(11), "12", "12", "11", "1"}, {"line " + crosses(24), "", "", "", ""},
	} {
		r, seats := row(c.row), numbers(c.seats)
		for both, want := range map[bool]string{false: c.left, true: c.both} {
			list, sum, ok := impl.StandsOf(r, seats, both)
			if !slices.Equal(list, numbers(want)) || sum != sumOf(numbers(want)) || !ok {
				t.Errorf("StandsOf(%q, %q, %v) = %v, %d, %v", c.row, c.seats, both, list, sum, ok)
			}
		}
		if sides, ok := impl.SidesOf(r, seats); !slices.Equal(sides, numbers(c.sides)) || !ok {
			t.Errorf("SidesOf(%q, %q) = %v, %v", c.row, c.seats, sides, ok)
		}
	}
}

// checkArrival holds all that is told of an arrival, and of the same people who leave in the opposite order, against steps along the line, and checks promise 10 and the guarantee of the chapter for it.
func checkArrival(t *testing.T, r impl.Row, seats []int) {
	t.Helper()
	want := comingOf(r, seats)
	left, sum, one := impl.StandsOf(r, seats, false)
	both, least, two := impl.StandsOf(r, seats, true)
	sides, three := impl.SidesOf(r, seats)
	is, four := impl.IsArrival(r, seats)
	if !is || !one || !two || !three || !four {
		t.Errorf("%q, %v: no arrival", shown(r), seats)
	}
	if !slices.Equal(left, want.left) || sum != sumOf(want.left) || !slices.Equal(both, want.both) || least != sumOf(want.both) || !slices.Equal(sides, want.sides) {
		t.Errorf("%q, %v: %v, %d at the left end, %v, %d with both, %v, not %v", shown(r), seats, left, sum, both, least, sides, want)
	}
	for i := range seats {
		if both[i] > left[i] || sides[i] == 0 && both[i] != left[i] {
			t.Errorf("%q, %v: for %d, %d stand up at the end %d, and %d at the left end", shown(r), seats, i, both[i], sides[i], left[i])
		}
	}
	after, back := with(r, seats...), reversed(seats)
	gone, again, ok := impl.LeaveStands(after, back)
	if !slices.Equal(gone, leaving(after, back)) || again != sum || !ok {
		t.Errorf("LeaveStands(%q, %v) = %v, %d, %v, not %v, %d", shown(after), back, gone, again, ok, leaving(after, back), sum)
	}
}

func TestAllArrivals(t *testing.T) {
	for _, r := range someLines(6) {
		picked(theSeats(r, false), func(seats []int) { checkArrival(t, r, seats) })
	}
}

// checkNoArrival expects that a list is no arrival at a line, and that all that is told of arrivals fails for it.
func checkNoArrival(t *testing.T, r impl.Row, seats []int) {
	t.Helper()
	if is, ok := impl.IsArrival(r, seats); is || !ok {
		t.Errorf("IsArrival(%q, %v) = %v, %v", shown(r), briefly{seats}, is, ok)
	}
	for _, both := range []bool{false, true} {
		failed(t, "StandsOf", shown(r), briefly{seats}, both)(impl.StandsOf(r, seats, both))
	}
	failed(t, "SidesOf", shown(r), briefly{seats})(impl.SidesOf(r, seats))
}

// TestArrivalsOfAnyNumbers tries all short lists: those are arrivals, and lists of people who leave, that are found as such.
func TestArrivalsOfAnyNumbers(t *testing.T) {
	for seats := 2; seats <= 4; seats++ {
		for _, r := range allRows(seats) {
			if r.Ring {
				continue
			}
			other, _ := impl.OtherSeats(r)
			for length := range seats + 2 {
				listsOf(length, -1, seats, func(list []int) {
					if comesIn(r, list) {
						checkArrival(t, r, list)
					} else {
						checkNoArrival(t, r, list)
					}
					stands, sum, ok := impl.LeaveStands(r, list)
					if !comesIn(other, list) {
						failed(t, "LeaveStands", shown(r), list)(stands, sum, ok)
					} else if want := leaving(r, list); !slices.Equal(stands, want) || sum != sumOf(want) || !ok {
						t.Errorf("LeaveStands(%q, %v) = %v, %d, %v", shown(r), list, stands, sum, ok)
					}
				})
			}
		}
	}
}

// noPublic returns lists that are none of different ones of some seats, at most MaxPublic, where others are all other seats of a Row.
func noPublic(seats []int, others []int) [][]int {
	var list [][]int
	first := seats[:min(len(seats), impl.MaxPublic)]
	for _, bad := range append(noSeats(len(seats)+len(others)), others...) {
		list = append(list, []int{bad})
		for i := range first {
			list = append(list, slices.Insert(slices.Clone(first[:i]), i/2, bad), slices.Concat(first[:i], []int{bad}))
		}
	}
	for i, p := range first {
		list = append(list, []int{p, p}, slices.Concat(first[:i+1], []int{p}), slices.Concat([]int{p}, first[:i+1]), slices.Concat([]int{p}, reversed(first)))
	}
	if len(seats) > impl.MaxPublic {
		list = append(list, seats, reversed(seats), seats[:impl.MaxPublic+1], reversed(seats[len(seats)-impl.MaxPublic-1:]))
	}
	return append(list, ascending(300), make([]int, 100000), slices.Repeat([]int{-1}, 100000), slices.Repeat(append(slices.Clone(seats), others...), 2))
}

func TestNoArrivals(t *testing.T) {
	for _, r := range someLines(5) {
		free, taken := theSeats(r, false), theSeats(r, true)
		for _, list := range noPublic(free, taken) {
			checkNoArrival(t, r, list)
		}
		for _, list := range noPublic(taken, free) {
			failed(t, "LeaveStands", shown(r), briefly{list})(impl.LeaveStands(r, list))
		}
	}
}

func TestLeastStands(t *testing.T) {
	for _, c := range []struct {
		row        string
		left       int
		best       string
		both       int
		bestOfBoth string
	}{
		{"line ..x..", 2, "4 3 1 0", 0, "1 0 3 4"}, {"line ..", 0, "1 0", 0, "0 1"}, {"line xx", 0, "", 0, ""}, {"line .x", 0, "0", 0, "0"}, {"line x.", 1, "1", 0, "1"}, {"line x.x", 1, "1", 1, "1"}, {"line ...", 0, "2 1 0", 0, "0 1 2"}, {"line ......", 0, "5 4 3 2 1 0", 0, "0 1 2 3 4 5"}, {"line x...x", 3, "3 2 1", 3, "1 2 3"}, {"line .x.", 1, "2 0", 0, "0 2"}, {"line x..xx", 2, "2 1", 2, "2 1"}, {"line xx..x", 4, "3 2", 2, "2 3"}, {"line x.x.x", 3, "3 1", 2, "1 3"}, {"line xxxx.", 4, "4", 0, "4"}, {"line xx.xx", 2, "2", 2, "2"},
		{"line ..........", 0, "9 8 7 6 5 4 3 2 1 0", 0, "0 1 2 3 4 5 6 7 8 9"}, {"line " + crosses(14) + dots(10), 140, "23 22 21 20 19 18 17 16 15 14", 0, "14 15 16 17 18 19 20 21 22 23"}, {"line " + dots(10) + crosses(14), 0, "9 8 7 6 5 4 3 2 1 0", 0, "9 8 7 6 5 4 3 2 1 0"}, {"line " + dots(5) + crosses(14) + dots(5), 70, "23 22 21 20 19 4 3 2 1 0", 0, "4 3 2 1 0 19 20 21 22 23"}, {"line " + crosses(24), 0, "", 0, ""}, {"line " + crosses(23) + ".", 23, "23", 0, "23"}, {"line ." + crosses(23), 0, "0", 0, "0"}, {"line " + crosses(12) + "." + crosses(11), 12, "12", 11, "12"},
	} {
		r := row(c.row)
		for _, both := range []bool{false, true} {
			want, best := c.left, c.best
			if both {
				want, best = c.both, c.bestOfBoth
			}
			if sum, ok := impl.LeastStands(r, both); sum != want || !ok {
				t.Errorf("LeastStands(%q, %v) = %d, %v", c.row, both, sum, ok)
			}
			if seats, ok := impl.BestArrival(r, both); !slices.Equal(seats, numbers(best)) || !ok {
				t.Errorf("BestArrival(%q, %v) = %v, %v", c.row, both, seats, ok)
			}
		}
	}
	for _, r := range manyFree() {
		for _, both := range []bool{false, true} {
			failed(t, "LeastStands", shown(r), both)(impl.LeastStands(r, both))
			failed(t, "BestArrival", shown(r), both)(impl.BestArrival(r, both))
		}
	}
}

// fewest is what trying all arrivals at all free seats, in lexicographic order, has found: the least sum, and the first one that has it.
type fewest struct {
	marks []bool
	both  bool
	seats []int
	left  int
	least int
	first []int
}

func fewestOf(r impl.Row, both bool) *fewest {
	f := &fewest{marks: marksOf(r), both: both, left: len(theSeats(r, false)), least: math.MaxInt}
	f.try(0)
	return f
}

func (f *fewest) try(sum int) {
	if f.left == 0 && sum < f.least {
		f.least, f.first = sum, slices.Clone(f.seats)
	}
	for p, taken := range f.marks {
		if taken {
			continue
		}
		stand, right := passed(f.marks, p)
		if f.both {
			stand = min(stand, right)
		}
		f.marks[p], f.left, f.seats = true, f.left-1, append(f.seats, p)
		f.try(sum + stand)
		f.marks[p], f.left, f.seats = false, f.left+1, f.seats[:len(f.seats)-1]
	}
}

// TestNoArrivalIsBetter tries all arrivals at all free seats of lines one by one.
func TestNoArrivalIsBetter(t *testing.T) {
	list := slices.DeleteFunc(someLines(7), func(r impl.Row) bool { return len(theSeats(r, false)) > 8 })
	for _, signs := range []string{"..x.x....x.xx", ".x..xx.x.....", "x..x..x..x..x", "xx.........x", "..xx..x.....x", ".x.xx..x..xxx.x..x", "xxx......x.xx..xxxxxxx.x"} {
		list = append(list, row("line "+signs))
	}
	for _, r := range list {
		for _, both := range []bool{false, true} {
			want := fewestOf(r, both)
			sum, ok := impl.LeastStands(r, both)
			seats, fine := impl.BestArrival(r, both)
			if sum != want.least || !slices.Equal(seats, want.first) || !ok || !fine {
				t.Errorf("%q, %v: %d, %v and %v, %v, not %d, %v", shown(r), both, sum, ok, seats, fine, want.least, want.first)
			}
		}
	}
}

// checkBest checks what the best arrivals at all free seats of a line, at most MaxPublic, have to do with one another and with StandsOf.
func checkBest(t *testing.T, r impl.Row) {
	t.Helper()
	free := theSeats(r, false)
	for _, both := range []bool{false, true} {
		least, one := impl.LeastStands(r, both)
		best, two := impl.BestArrival(r, both)
		_, sum, three := impl.StandsOf(r, best, both)
		if !one || !two || !three || sum != least || !slices.Equal(slices.Sorted(slices.Values(best)), free) {
			t.Errorf("%q, %v: %d, %v stand up for %v: %d, %v", shown(r), both, least, one, best, sum, three)
		}
		for i := range len(best) - 1 {
			other := slices.Clone(best)
			other[i], other[i+1] = other[i+1], other[i]
			if _, sum, _ := impl.StandsOf(r, other, both); sum < least || sum == least && slices.Compare(other, best) < 0 {
				t.Errorf("%q, %v: %d stand up for %v, and %d for %v", shown(r), both, sum, other, least, best)
			}
		}
	}
	// At the left end, nobody stands up for others who come, too, if they come from the right to the left.
	atFirst := 0
	for _, p := range free {
		left, _ := passed(marksOf(r), p)
		atFirst += left
	}
	least, _ := impl.LeastStands(r, false)
	best, _ := impl.BestArrival(r, false)
	if least != atFirst || !slices.Equal(best, reversed(free)) {
		t.Errorf("%q: %d stand up for %v, not %d", shown(r), least, best, atFirst)
	}
	if both, _ := impl.LeastStands(r, true); both > least {
		t.Errorf("%q: %d stand up with both ends, and %d with the left one", shown(r), both, least)
	}
}

func TestBestArrivals(t *testing.T) {
	for _, r := range someLines(9) {
		if len(theSeats(r, false)) <= impl.MaxPublic {
			checkBest(t, r)
		}
	}
	// All lines of 24 seats with a block of free seats, of which there are more and more.
	for many := range impl.MaxPublic + 1 {
		for first := range impl.MaxSeats - many + 1 {
			checkBest(t, row("line "+crosses(first)+dots(many)+crosses(impl.MaxSeats-many-first)))
		}
	}
}

// allInPlace calls a function with all orders of the numbers below n, in one list that it does not change.
func allInPlace(n int, each func(list []int)) {
	list := ascending(n)
	var from func(at int)
	from = func(at int) {
		if at == n {
			each(list)
			return
		}
		for i := at; i < n; i++ {
			list[at], list[i] = list[i], list[at]
			from(at + 1)
			list[at], list[i] = list[i], list[at]
		}
	}
	from(0)
}

func TestCountStands(t *testing.T) {
	for i, want := range []string{"1", "1 1", "1 2 2 1", "1 3 5 6 5 3 1", "1 4 9 15 20 22 20 15 9 4 1"} {
		if counts, ok := impl.CountStands(i + 1); !slices.Equal(counts, numbers(want)) || !ok {
			t.Errorf("CountStands(%d) = %v, %v", i+1, counts, ok)
		}
	}
	for n := 1; n <= impl.MaxPublic; n++ {
		counts, ok := impl.CountStands(n)
		if len(counts) != n*(n-1)/2+1 || sumOf(counts) != allOrders(n) || !slices.Equal(counts, reversed(counts)) || !ok {
			t.Errorf("CountStands(%d) = %v, %v", n, counts, ok)
		}
		want := make([]int, n*(n-1)/2+1)
		allInPlace(n, func(list []int) {
			sum := 0
			for i, p := range list {
				for _, q := range list[:i] {
					if q < p {
						sum++
					}
				}
			}
			want[sum]++
		})
		if !slices.Equal(counts, want) {
			t.Errorf("CountStands(%d) = %v, not %v", n, counts, want)
		}
	}
}

// TestStandsOfFreeLines counts all arrivals at free lines by their sums.
func TestStandsOfFreeLines(t *testing.T) {
	for n := 2; n <= 7; n++ {
		r := row("line " + dots(n))
		want := make([]int, n*(n-1)/2+1)
		allInPlace(n, func(list []int) {
			_, sum, _ := impl.StandsOf(r, list, false)
			want[sum]++
		})
		if counts, ok := impl.CountStands(n); !slices.Equal(counts, want) || !ok {
			t.Errorf("CountStands(%d) = %v, %v, not %v", n, counts, ok, want)
		}
	}
}

func TestLeaveStands(t *testing.T) {
	for _, c := range []struct{ row, seats, want string }{
		{"line x.xx.", "3 0", "2 0"}, {"line x.xx.", "0 3", "0 1"}, {"line x.xx.", "0 2 3", "0 0 0"}, {"line x.xx.", "3 2 0", "2 1 0"}, {"line x.xx.", "2", "1"}, {"line x.xx.", "", ""}, {"line x.xx.", "2 3 0", "1 1 0"}, {"line xx", "1 0", "1 0"}, {"line xx", "0 1", "0 0"}, {"line xx", "1", "1"}, {"line xx", "", ""}, {"line ..", "", ""}, {"line .x", "1", "0"}, {"line x.", "0", "0"}, {"line ...x", "3", "0"}, {"line x..x", "3", "1"},
		{"line " + crosses(24), "23 22 21 20 19 18 17 16 15 14", "23 22 21 20 19 18 17 16 15 14"}, {"line " + crosses(24), "0 1 2 3 4 5 6 7 8 9", "0 0 0 0 0 0 0 0 0 0"}, {"line " + crosses(24), "5 20 0 23 11", "5 19 0 20 9"}, {"line " + dots(24), "", ""}, {"line " + dots(23) + "x", "23", "0"}, {"line x" + dots(22) + "x", "23 0", "1 0"},
	} {
		stands, sum, ok := impl.LeaveStands(row(c.row), numbers(c.seats))
		if !slices.Equal(stands, numbers(c.want)) || sum != sumOf(numbers(c.want)) || !ok {
			t.Errorf("LeaveStands(%q, %q) = %v, %d, %v", c.row, c.seats, stands, sum, ok)
		}
	}
}

// TestAllLeave lets everybody leave in all orders, or in many.
func TestAllLeave(t *testing.T) {
	for _, r := range someLines(6) {
		picked(theSeats(r, true), func(seats []int) {
			stands, sum, ok := impl.LeaveStands(r, seats)
			if want := leaving(r, seats); !slices.Equal(stands, want) || sum != sumOf(want) || !ok {
				t.Errorf("LeaveStands(%q, %v) = %v, %d, %v, not %v", shown(r), seats, stands, sum, ok, want)
			}
			if _, back, ok := impl.StandsOf(without(r, seats...), reversed(seats), false); back != sum || !ok {
				t.Errorf("%d stand up when %v leave %q, and %d, %v when they come back", sum, seats, shown(r), back, ok)
			}
		})
	}
}

// TestBadTheatres calls all functions of Rows with rings and with Rows that are not valid.
func TestBadTheatres(t *testing.T) {
	for _, r := range append(badRows(), row("ring ..."), row("ring xxx"), row("ring ..x.."), row("ring x....."), row("ring "+dots(10)), row("ring "+dots(24)), row("ring "+crosses(24)), row("ring "+crosses(23)+".")) {
		for _, seats := range [][]int{nil, {}, {0}, {1}, {2}, {0, 1}, {1, 0, 3}, {-1}, {24}, {math.MinInt}, {math.MaxInt}, {0, 0}, ascending(10), ascending(11), make([]int, 1000)} {
			failed(t, "IsArrival", briefly{r}, briefly{seats})(impl.IsArrival(r, seats))
			failed(t, "SidesOf", briefly{r}, briefly{seats})(impl.SidesOf(r, seats))
			failed(t, "LeaveStands", briefly{r}, briefly{seats})(impl.LeaveStands(r, seats))
			for _, both := range []bool{false, true} {
				failed(t, "StandsOf", briefly{r}, briefly{seats}, both)(impl.StandsOf(r, seats, both))
			}
		}
		for _, both := range []bool{false, true} {
			failed(t, "LeastStands", briefly{r}, both)(impl.LeastStands(r, both))
			failed(t, "BestArrival", briefly{r}, both)(impl.BestArrival(r, both))
		}
	}
}

func TestBadNumbersOfPublic(t *testing.T) {
	for _, n := range []int{0, -1, -10, impl.MaxPublic + 1, impl.MaxPublic + 2, 63, 64, 1000, 1 << 32, 1<<32 + 3, -1 << 32, 1 << 62, math.MinInt, math.MinInt + 1, math.MaxInt, math.MaxInt - 1} {
		failed(t, "CountStands", n)(impl.CountStands(n))
		failed(t, "ChangeCounts", n)(impl.ChangeCounts(n))
	}
}

// downTo returns the numbers from one to another one as a text, each behind a space.
func downTo(from int, to int) string {
	text := ""
	for n := from; n >= to; n-- {
		text += fmt.Sprintf(" %d", n)
	}
	return text
}

func TestChanges(t *testing.T) {
	tenBack := ""
	for n := range 9 {
		tenBack += downTo(n, 0)
	}
	for _, c := range []struct {
		change           string
		side, free, hole int
		swaps, back      string
	}{
		{"0", 0, 0, 0, "", "0"}, {"0 1", 0, 0, 0, "", "0 1"}, {"1 0", 1, 1, 1, "0", "1 0"}, {"0 1 2", 0, 0, 0, "", "0 1 2"}, {"2 0 1", 2, 2, 2, "0 1", "1 2 0"}, {"1 2 0", 2, 2, 2, "1 0", "2 0 1"}, {"1 0 2", 1, 1, 3, "0", "1 0 2"}, {"0 2 1", 1, 1, 1, "1", "0 2 1"}, {"2 1 0", 3, 1, 1, "0 1 0", "2 1 0"},
		{"1 0 3 2", 2, 2, 4, "0 2", "1 0 3 2"}, {"3 2 1 0", 6, 2, 4, "0 1 0 2 1 0", "3 2 1 0"}, {"1 2 3 0", 3, 3, 3, "2 1 0", "3 0 1 2"}, {"3 0 1 2", 3, 3, 3, "0 1 2", "1 2 3 0"}, {"2 3 0 1", 4, 2, 4, "1 0 2 1", "2 3 0 1"}, {"1 2 0 3", 2, 2, 4, "1 0", "2 0 1 3"}, {"0 2 1 3", 1, 1, 3, "1", "0 2 1 3"}, {"1 2 0 4 5 3", 4, 4, 6, "1 0 4 3", "2 0 1 5 3 4"}, {"1 0 3 2 4", 2, 2, 6, "0 2", "1 0 3 2 4"},
		{"0 1 2 3 4 5 6 7 8 9", 0, 0, 0, "", "0 1 2 3 4 5 6 7 8 9"}, {"9 8 7 6 5 4 3 2 1 0", 45, 5, 13, tenBack, "9 8 7 6 5 4 3 2 1 0"}, {"1 0 3 2 5 4 7 6 9 8", 5, 5, 13, "0 2 4 6 8", "1 0 3 2 5 4 7 6 9 8"}, {"1 2 3 4 5 6 7 8 9 0", 9, 9, 9, "8 7 6 5 4 3 2 1 0", "9 0 1 2 3 4 5 6 7 8"}, {"9 0 1 2 3 4 5 6 7 8", 9, 9, 9, "0 1 2 3 4 5 6 7 8", "1 2 3 4 5 6 7 8 9 0"}, {"1 2 3 4 5 6 7 8 0 9", 8, 8, 10, "7 6 5 4 3 2 1 0", "8 0 1 2 3 4 5 6 7 9"}, {"0 1 2 3 4 5 6 7 9 8", 1, 1, 1, "8", "0 1 2 3 4 5 6 7 9 8"}, {"1 0 2 3 4 5 6 7 8 9", 1, 1, 3, "0", "1 0 2 3 4 5 6 7 8 9"},
	} {
		change := numbers(c.change)
		side, one := impl.SideSwaps(change)
		free, two := impl.FreeSwaps(change)
		hole, three := impl.HoleMoves(change)
		swaps, four := impl.FirstSideSwaps(change)
		back, five := impl.BackChange(change)
		if !one || !two || !three || !four || !five || side != c.side || free != c.free || hole != c.hole || !slices.Equal(swaps, numbers(c.swaps)) || !slices.Equal(back, numbers(c.back)) {
			t.Errorf("%q: %d, %d, %d, %v, %v", c.change, side, free, hole, swaps, back)
		}
	}
}

// swapped returns a list in which two elements are exchanged.
func swapped(list []int, i int, j int) []int {
	other := slices.Clone(list)
	other[i], other[j] = other[j], other[i]
	return other
}

// sideSwapped, freeSwapped and holeMoved return all changes that one swap, or one move, leaves.
func sideSwapped(change []int) [][]int {
	var list [][]int
	for i := range len(change) - 1 {
		list = append(list, swapped(change, i, i+1))
	}
	return list
}

func freeSwapped(change []int) [][]int {
	var list [][]int
	for i := range change {
		for j := range i {
			list = append(list, swapped(change, i, j))
		}
	}
	return list
}

func holeMoved(change []int) [][]int {
	var list [][]int
	free := slices.Index(change, len(change)-1)
	for i := range change {
		if i != free {
			list = append(list, swapped(change, i, free))
		}
	}
	return list
}

// stepsHome returns for all changes of n seats the least number of steps to the change that moves nobody, where next returns all changes behind one step: each step can be taken back by one.
func stepsHome(n int, next func([]int) [][]int) map[string]int {
	steps := map[string]int{told(ascending(n)): 0}
	for now := [][]int{ascending(n)}; len(now) > 0; {
		var later [][]int
		for _, change := range now {
			for _, other := range next(change) {
				if _, known := steps[told(other)]; !known {
					steps[told(other)] = steps[told(change)] + 1
					later = append(later, other)
				}
			}
		}
		now = later
	}
	return steps
}

// TestLeastSwaps tries all swaps and moves for all changes of few seats, and checks the guarantee of the chapter.
func TestLeastSwaps(t *testing.T) {
	for n := 1; n <= 7; n++ {
		bySide, byFree, byHole := stepsHome(n, sideSwapped), stepsHome(n, freeSwapped), stepsHome(n, holeMoved)
		if len(bySide) != allOrders(n) || len(byFree) != allOrders(n) || len(byHole) != allOrders(n) {
			t.Fatalf("n = %d: %d, %d and %d changes", n, len(bySide), len(byFree), len(byHole))
		}
		allInPlace(n, func(change []int) {
			name := told(change)
			side, one := impl.SideSwaps(change)
			free, two := impl.FreeSwaps(change)
			hole, three := impl.HoleMoves(change)
			if side != bySide[name] || free != byFree[name] || hole != byHole[name] || !one || !two || !three {
				t.Errorf("%s: %d, %v and %d, %v and %d, %v, not %d, %d and %d", name, side, one, free, two, hole, three, bySide[name], byFree[name], byHole[name])
			}
			if free > side || hole > 3*free {
				t.Errorf("%s: %d side swaps, %d free swaps, %d hole moves", name, side, free, hole)
			}
			swaps, ok := impl.FirstSideSwaps(change)
			if want := firstBySteps(change, bySide); !slices.Equal(swaps, want) || !ok {
				t.Errorf("FirstSideSwaps(%s) = %v, %v, not %v", name, swaps, ok, want)
			}
		})
	}
}

// firstBySteps takes the first swap that comes nearer to the change that moves nobody, again and again.
func firstBySteps(change []int, steps map[string]int) []int {
	var swaps []int
	for steps[told(change)] > 0 {
		others := sideSwapped(change)
		i := slices.IndexFunc(others, func(other []int) bool { return steps[told(other)] < steps[told(change)] })
		swaps, change = append(swaps, i), others[i]
	}
	return swaps
}

// firstOfAll tries all lists of so many more swaps in lexicographic order, and returns the first one that makes a change, and whether there is one.
func firstOfAll(change []int, began []int, many int) ([]int, bool) {
	if many == 0 {
		return slices.Clone(began), slices.IsSorted(change)
	}
	for i := range len(change) - 1 {
		change[i], change[i+1] = change[i+1], change[i]
		first, ok := firstOfAll(change, append(began, i), many-1)
		change[i], change[i+1] = change[i+1], change[i]
		if ok {
			return first, true
		}
	}
	return nil, false
}

// TestNoSwapsBeforeTheFirst tries all lists of as many side swaps, and of fewer, for all changes of few seats.
func TestNoSwapsBeforeTheFirst(t *testing.T) {
	for n := 1; n <= 5; n++ {
		allInPlace(n, func(change []int) {
			many, _ := impl.SideSwaps(change)
			want, makes := firstOfAll(slices.Clone(change), nil, many)
			swaps, ok := impl.FirstSideSwaps(change)
			if !slices.Equal(swaps, want) || !makes || !ok {
				t.Errorf("FirstSideSwaps(%v) = %v, %v, not %v", change, swaps, ok, want)
			}
			// All lists with the same number of swaps modulo 2 could do.
			if many >= 2 {
				if fewer, makes := firstOfAll(slices.Clone(change), nil, many-2); makes {
					t.Errorf("%v make %v, of which %d swaps are told", fewer, change, many)
				}
			}
		})
	}
}

// TestSwapsLeadHome lets many changes be made by their first side swaps, one by one, and checks promise 10 for them.
func TestSwapsLeadHome(t *testing.T) {
	for n := 1; n <= impl.MaxPublic; n++ {
		for _, change := range enterings(n) {
			many, _ := impl.SideSwaps(change)
			swaps, ok := impl.FirstSideSwaps(change)
			if len(swaps) != many || !ok {
				t.Errorf("FirstSideSwaps(%v) = %v, %v, of %d", change, swaps, ok, many)
			}
			for done := range many + 1 {
				after, ok := impl.AfterSwaps(change, swaps[:done])
				left, fine := impl.SideSwaps(after)
				rest, right := impl.FirstSideSwaps(after)
				if left != many-done || !slices.Equal(rest, swaps[done:]) || !ok || !fine || !right {
					t.Errorf("%v leave %v of %v: %d more, %v", swaps[:done], after, change, left, rest)
				}
				if done == many && !slices.Equal(after, ascending(n)) {
					t.Errorf("%v leave %v of %v", swaps, after, change)
				}
			}
		}
	}
}

func TestAfterSwaps(t *testing.T) {
	ten := "0 1 2 3 4 5 6 7 8 9"
	for _, c := range []struct{ change, swaps, want string }{
		{"2 0 1", "0", "0 2 1"}, {"2 0 1", "0 1", "0 1 2"}, {"2 0 1", "1", "2 1 0"}, {"2 0 1", "", "2 0 1"}, {"2 0 1", "0 0", "2 0 1"}, {"2 0 1", "1 0 1", "1 0 2"}, {"2 0 1", "0 1 0", "1 0 2"}, {"0", "", "0"}, {"0 1", "0", "1 0"}, {"1 0", "0", "0 1"}, {"1 0", "", "1 0"}, {"0 1", "0 0 0", "1 0"}, {"3 1 0 2", "2", "3 1 2 0"}, {"3 1 0 2", "2 1 0", "2 3 1 0"},
		{ten, "8", "0 1 2 3 4 5 6 7 9 8"}, {ten, "0 1 2 3 4 5 6 7 8", "1 2 3 4 5 6 7 8 9 0"}, {ten, "8 7 6 5 4 3 2 1 0", "9 0 1 2 3 4 5 6 7 8"}, {ten, strings.Repeat("0 ", 97) + "0", ten}, {ten, strings.Repeat("8 ", 98) + "8", "0 1 2 3 4 5 6 7 9 8"}, {ten, strings.Repeat("0 ", 98) + "0", "1 0 2 3 4 5 6 7 8 9"},
	} {
		if after, ok := impl.AfterSwaps(numbers(c.change), numbers(c.swaps)); !slices.Equal(after, numbers(c.want)) || !ok {
			t.Errorf("AfterSwaps(%q, %q) = %v, %v", c.change, c.swaps, after, ok)
		}
	}
}

// someSwaps returns many lists of at most 99 side swaps for a change of n seats.
func someSwaps(n int) [][]int {
	list := [][]int{nil}
	if n == 1 {
		return list
	}
	for rule := range 40 {
		var swaps []int
		for i := range []int{1, 2, 5, 45, 98, 99}[rule%6] {
			swaps = append(swaps, (rule*(i+1)+i*i/3)%(n-1))
		}
		list = append(list, swaps)
	}
	return list
}

// TestManySwaps makes swaps one by one.
func TestManySwaps(t *testing.T) {
	for n := 1; n <= impl.MaxPublic; n++ {
		for _, way := range longSeatings(n, n) {
			for _, swaps := range someSwaps(n) {
				want := way.seats
				for _, i := range swaps {
					want = swapped(want, i, i+1)
				}
				if after, ok := impl.AfterSwaps(way.seats, swaps); !slices.Equal(after, want) || !ok {
					t.Errorf("AfterSwaps(%v, %v) = %v, %v, not %v", way.seats, swaps, after, ok, want)
				}
			}
		}
	}
}

func TestNoSwaps(t *testing.T) {
	for n := 1; n <= impl.MaxPublic; n++ {
		for _, way := range longSeatings(n, n)[:4] {
			check := func(swaps []int) {
				t.Helper()
				failed(t, "AfterSwaps", way.seats, briefly{swaps})(impl.AfterSwaps(way.seats, swaps))
			}
			for _, bad := range append(noSeats(n-1), n+5, 1<<32, -1<<32) {
				if bad >= 0 && bad < n-1 {
					continue
				}
				check([]int{bad})
				if n > 1 {
					check([]int{0, bad})
					check([]int{bad, n - 2})
					check(append(make([]int, 98), bad))
				}
			}
			for _, many := range []int{100, 101, 198, 1000, 100000} {
				check(make([]int, many))
				check(slices.Repeat([]int{max(0, n-2)}, many))
			}
		}
	}
}

func TestChangeCounts(t *testing.T) {
	for n, want := range map[int]string{1: "1", 2: "1 1", 3: "1 3 2", 4: "1 6 11 6", 5: "1 10 35 50 24", 6: "1 15 85 225 274 120", 10: "1 45 870 9450 63273 269325 723680 1172700 1026576 362880"} {
		if counts, ok := impl.ChangeCounts(n); !slices.Equal(counts, numbers(want)) || !ok {
			t.Errorf("ChangeCounts(%d) = %v, %v", n, counts, ok)
		}
	}
	for n := 1; n <= 8; n++ {
		want := make([]int, n)
		allInPlace(n, func(change []int) {
			free, _ := impl.FreeSwaps(change)
			want[free]++
		})
		if counts, ok := impl.ChangeCounts(n); !slices.Equal(counts, want) || !ok {
			t.Errorf("ChangeCounts(%d) = %v, %v, not %v", n, counts, ok, want)
		}
	}
	for n := 1; n <= impl.MaxPublic; n++ {
		if counts, ok := impl.ChangeCounts(n); len(counts) != n || sumOf(counts) != allOrders(n) || !ok {
			t.Errorf("ChangeCounts(%d) = %v, %v", n, counts, ok)
		}
	}
}

// sortedBySwaps brings everybody to the own seat by free swaps, and returns how many these are; none of the swaps could be missing, as each one makes one cycle into two.
func sortedBySwaps(change []int) int {
	left, swaps := slices.Clone(change), 0
	for p := range left {
		if own := slices.Index(left, p); own != p {
			left[p], left[own] = left[own], left[p]
			swaps++
		}
	}
	return swaps
}

// TestLongChanges holds all that is told of changes of many seats against what is found in other ways.
func TestLongChanges(t *testing.T) {
	for n := 1; n <= impl.MaxPublic; n++ {
		for _, change := range enterings(n) {
			side, one := impl.SideSwaps(change)
			free, two := impl.FreeSwaps(change)
			hole, three := impl.HoleMoves(change)
			back, four := impl.BackChange(change)
			if !one || !two || !three || !four || free != sortedBySwaps(change) || free > side || hole > 3*free {
				t.Errorf("%v: %d, %v and %d, %v and %d, %v and %v, %v", change, side, one, free, two, hole, three, back, four)
			}
			people := make([]int, n)
			for p, to := range change {
				people[to] = p
			}
			home := make([]int, n)
			for p, to := range back {
				home[to] = people[p]
			}
			if !slices.Equal(home, ascending(n)) {
				t.Errorf("%v does not lead back from %v: %v", back, change, home)
			}
			sideBack, _ := impl.SideSwaps(back)
			freeBack, _ := impl.FreeSwaps(back)
			if again, ok := impl.BackChange(back); sideBack != side || freeBack != free || !slices.Equal(again, change) || !ok {
				t.Errorf("%v and back %v: %d and %d side swaps, %d and %d free swaps, %v, %v", change, back, side, sideBack, free, freeBack, again, ok)
			}
			if moves := movesOf(change); hole != moves {
				t.Errorf("HoleMoves(%v) = %d, not %d", change, hole, moves)
			}
		}
	}
}

// movesOf fills the free seat with the one who belongs there, and, when nobody is at home, moves somebody who is not to the free seat, until all are: it returns how many moves these are.
func movesOf(change []int) int {
	left, moves, last := slices.Clone(change), 0, len(change)-1
	for !slices.IsSorted(left) {
		free := slices.Index(left, last)
		from := slices.Index(left, free)
		if free == last {
			for from = 0; left[from] == from; from++ {
			}
		}
		left[free], left[from] = left[from], left[free]
		moves++
	}
	return moves
}

// checkNoChange expects that all functions of changes fail for a list.
func checkNoChange(t *testing.T, list []int) {
	t.Helper()
	failed(t, "SideSwaps", briefly{list})(impl.SideSwaps(list))
	failed(t, "FreeSwaps", briefly{list})(impl.FreeSwaps(list))
	failed(t, "HoleMoves", briefly{list})(impl.HoleMoves(list))
	failed(t, "FirstSideSwaps", briefly{list})(impl.FirstSideSwaps(list))
	failed(t, "BackChange", briefly{list})(impl.BackChange(list))
	for _, swaps := range [][]int{nil, {0}, {1, 0}, {-1}} {
		failed(t, "AfterSwaps", briefly{list}, swaps)(impl.AfterSwaps(list, swaps))
	}
}

func TestBadChanges(t *testing.T) {
	for many := impl.MaxPublic + 1; many <= 30; many++ {
		checkNoChange(t, ascending(many))
		checkNoChange(t, reversed(ascending(many)))
	}
	for n := 1; n <= impl.MaxPublic; n++ {
		for _, list := range badEnterings(n) {
			// A shorter list, or a longer one, can be a change of other seats.
			if len(list) == n || len(list) > impl.MaxPublic || len(list) == 0 {
				checkNoChange(t, list)
			}
		}
		checkNoChange(t, append(ascending(n), n-1))
		checkNoChange(t, append(ascending(n), n+1))
		checkNoChange(t, ascending(n + 1)[1:])
	}
}

// TestChangesOfAnyNumbers tries all short lists: those are changes that have each number once.
func TestChangesOfAnyNumbers(t *testing.T) {
	for length := range 5 {
		all := map[string]bool{}
		if length > 0 {
			allInPlace(length, func(change []int) { all[told(change)] = true })
		}
		listsOf(length, -1, length+1, func(list []int) {
			if !all[told(list)] {
				checkNoChange(t, list)
			} else if after, ok := impl.AfterSwaps(list, nil); !slices.Equal(after, list) || !ok {
				t.Errorf("AfterSwaps(%v, nil) = %v, %v", list, after, ok)
			}
		})
	}
}

// theatreCalls returns the results of all functions of chapter 10.
func theatreCalls(r impl.Row, seats []int, leave []int, change []int, swaps []int, n int) []string {
	list := []string{told(impl.IsArrival(r, seats)), told(impl.SidesOf(r, seats)), told(impl.CountStands(n)), told(impl.LeaveStands(r, leave)), told(impl.SideSwaps(change)), told(impl.FreeSwaps(change)), told(impl.HoleMoves(change)), told(impl.FirstSideSwaps(change)), told(impl.AfterSwaps(change, swaps)), told(impl.ChangeCounts(n)), told(impl.BackChange(change))}
	for _, both := range []bool{false, true} {
		list = append(list, told(impl.StandsOf(r, seats, both)), told(impl.LeastStands(r, both)), told(impl.BestArrival(r, both)))
	}
	return list
}

// TestTheatresAreNotModified calls all functions with lists that are the middle of longer slices, that within a Row, too, twice, with the same results.
func TestTheatresAreNotModified(t *testing.T) {
	for _, c := range []struct{ row, seats, leave, change, swaps string }{
		{"line ..x..", "3 0 4", "2", "2 0 1", "0 1"}, {"line x.xx.", "4 1", "3 0", "1 0 2", "1 1 0"}, {"line .xx.x..x", "0 6 3 5", "7 1 4 2", "3 2 1 0", "0 1 2 0"}, {"line xx", "", "1 0", "0", ""}, {"line ..", "1 0", "", "1 0", "0"}, {"line ..x..", "2", "0", "1 1 0", "0"}, {"line ..x..", "4 4", "2 2", "0 1 2", "2"}, {"line ..x..", "-1", "5", "3 0 1", "-1"}, {"ring ..x..", "3 0 4", "2", "0 2 1", "0 1"}, {"line ..........", "9 0 5 3 7 1 2 8 6 4", "", "9 8 7 6 5 4 3 2 1 0", "8 0 3 4 5"}, {"line " + crosses(24), "", "5 20 0 23 11 12 3 4 1 2", "1 2 3 4 5 6 7 8 9 0", strings.Repeat("1 ", 99)}, {"line x.x.x.x.x.x.x.x.x.x.x.xx", "1 21 3 19", "24 0 2 23", "", "0"},
	} {
		like := row(c.row)
		taken, one := inside(like.Taken)
		seats, two := inside(numbers(c.seats))
		leave, three := inside(numbers(c.leave))
		change, four := inside(numbers(c.change))
		swaps, five := inside(numbers(c.swaps))
		kept := told(one, two, three, four, five)
		r := impl.Row{Seats: like.Seats, Ring: like.Ring, Taken: taken}
		for n := -1; n <= impl.MaxPublic+1; n++ {
			first := theatreCalls(r, seats, leave, change, swaps, n)
			if again := theatreCalls(like, numbers(c.seats), numbers(c.leave), numbers(c.change), numbers(c.swaps), n); !slices.Equal(first, again) {
				t.Errorf("other results the second time: %v and %v", first, again)
			}
			if told(one, two, three, four, five) != kept {
				t.Fatalf("a call with %v changed its arguments: %v %v %v %v %v", c, one, two, three, four, five)
			}
		}
	}
}

// TestTheatresShareNoMemory changes what the functions gave out, and expects that nothing else changes: neither the arguments, nor another result, nor what they give out later.
func TestTheatresShareNoMemory(t *testing.T) {
	for i, r := range someLines(4) {
		n := i%impl.MaxPublic + 1
		change := longSeatings(n, n)[i%40].seats
		free, taken := theSeats(r, false), theSeats(r, true)
		seats, leave := free[:min(len(free), impl.MaxPublic)], taken[:min(len(taken), impl.MaxPublic)]
		all := func() string { return told(theatreCalls(r, seats, leave, change, nil, n)) }
		kept, calls := told(r, seats, leave, change), all()
		var lists [][]int
		for range 2 {
			for _, both := range []bool{false, true} {
				stands, _, _ := impl.StandsOf(r, seats, both)
				best, _ := impl.BestArrival(r, both)
				lists = append(lists, stands, best)
			}
			sides, _ := impl.SidesOf(r, seats)
			gone, _, _ := impl.LeaveStands(r, leave)
			sums, _ := impl.CountStands(n)
			swaps, _ := impl.FirstSideSwaps(change)
			after, _ := impl.AfterSwaps(change, nil)
			more, _ := impl.AfterSwaps(change, slices.Repeat([]int{0}, min(n-1, 2)))
			counts, _ := impl.ChangeCounts(n)
			back, _ := impl.BackChange(change)
			lists = append(lists, sides, gone, sums, swaps, after, more, counts, back)
		}
		checkOwnMemory(t, fmt.Sprintf("%q", shown(r)), lists, func(i int) int { return -i - 1 })
		if told(r, seats, leave, change) != kept || all() != calls {
			t.Errorf("%q: a result shares memory with an argument, or with a later one", shown(r))
		}
	}
}
