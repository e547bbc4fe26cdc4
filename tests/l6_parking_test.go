package tests

import (
	"fmt"
	"math"
	"slices"
	"strconv"
	"strings"
	"testing"

	"loop.example/g01167/impl"
)

// numbers reads a list of numbers with spaces between them.
func numbers(text string) []int {
	list := []int{}
	for _, word := range strings.Fields(text) {
		n, err := strconv.Atoi(word)
		if err != nil {
			panic(err)
		}
		list = append(list, n)
	}
	return list
}

// aheadOf returns the next seat behind a seat, and whether there is one.
func aheadOf(r impl.Row, p int) (int, bool) {
	if p+1 < r.Seats {
		return p + 1, true
	}
	return 0, r.Ring
}

// behindOf returns the seat before a seat, and whether there is one.
func behindOf(r impl.Row, p int) (int, bool) {
	if p > 0 {
		return p - 1, true
	}
	return r.Seats - 1, r.Ring
}

// foundBehind returns the seat that a car finds which looks back over at most k seats, -1 if there is none.
func foundBehind(r impl.Row, own int, k int) int {
	p, more := behindOf(r, own)
	for looked := 0; looked < k && more && p != own; looked++ {
		if !slices.Contains(r.Taken, p) {
			return p
		}
		p, more = behindOf(r, p)
	}
	return -1
}

// wayAhead returns the seat to which a car goes on from its own one, and its steps, -1 and -1 if it leaves.
func wayAhead(r impl.Row, own int) (int, int) {
	p, more := own, true
	for steps := 0; more && steps < r.Seats; steps++ {
		if !slices.Contains(r.Taken, p) {
			return p, steps
		}
		p, more = aheadOf(r, p)
	}
	return -1, -1
}

// parking is what becomes of the cars of a list: the seat of each one, or -1, its steps, or -1, and the Row behind all.
type parking struct {
	seats []int
	steps []int
	after impl.Row
}

// parked parks cars one by one, each going from seat to seat, with backing by k.
func parked(r impl.Row, cars []int, k int) parking {
	end := parking{after: with(r)}
	for _, own := range cars {
		seat, steps := wayAhead(end.after, own)
		if back := foundBehind(end.after, own, k); seat != own && back >= 0 {
			seat, steps = back, -1
		}
		if seat >= 0 {
			end.after = with(end.after, seat)
		}
		end.seats = append(end.seats, seat)
		end.steps = append(end.steps, steps)
	}
	return end
}

// parkingRows returns Rows of few seats, and some of many.
func parkingRows() []impl.Row {
	var list []impl.Row
	for seats := 2; seats <= 6; seats++ {
		list = append(list, allRows(seats)...)
	}
	for _, signs := range []string{
		dots(12), crosses(12), "x.x.x.x.x.x.", "......xxxxxx", "xxxxxx......", dots(13), crosses(5) + dots(8), dots(24), crosses(24), strings.Repeat("x.", 12), dots(23) + "x", crosses(23) + ".", "." + crosses(23),
		crosses(11) + "." + crosses(12), dots(12) + crosses(12), "..x....x.xx.....x....xx.", "xx.....................x", "x.xx.xxx.xxxx.xxxxx.xxxx",
	} {
		list = append(list, row("line "+signs), row("ring "+signs))
	}
	return list
}

// longLists returns some lists of preferences for a Row, of all numbers of cars up to MaxCars, each by another short rule.
func longLists(r impl.Row) [][]int {
	var list [][]int
	for many := range impl.MaxCars + 1 {
		for rule := range 12 {
			cars := []int{}
			for i := range many {
				cars = append(cars, []int{0, r.Seats - 1, i, r.Seats*99 - 1 - i, i * i, rule*(i+1) + i/3, rule, rule + i/2, r.Seats*99 - rule*i, i*rule + i*i*i}[rule%10]%r.Seats)
			}
			list = append(list, cars)
		}
	}
	return list
}

// someParkings calls a function with many Rows and lists of preferences for them: all short lists for few seats.
func someParkings(each func(r impl.Row, cars []int)) {
	for _, r := range parkingRows() {
		most := 5 - max(r.Seats-3, 0)
		if r.Seats > 6 {
			most = -1
		}
		for many := range most + 1 {
			listsOf(many, 0, r.Seats-1, func(cars []int) { each(r, slices.Clone(cars)) })
		}
		for _, cars := range longLists(r) {
			each(r, cars)
		}
	}
}

func TestParkCars(t *testing.T) {
	for _, c := range []struct{ street, cars, seats, after string }{
		{"line ..", "", "", "line .."}, {"line xx", "", "", "line xx"}, {"ring ...", "", "", "ring ..."}, {"ring x..", "", "", "ring x.."},
		{"line ..", "0", "0", "line x."}, {"line ..", "1", "1", "line .x"}, {"line x.", "0", "1", "line xx"}, {"line .x", "1", "-1", "line .x"}, {"line xx", "0", "-1", "line xx"},
		{"line ..", "0 0", "0 1", "line xx"}, {"line ..", "1 1", "1 -1", "line .x"}, {"line ..", "1 0", "1 0", "line xx"}, {"line ..", "1 1 0", "1 -1 0", "line xx"}, {"line ..", "0 0 0 0", "0 1 -1 -1", "line xx"}, {"line xx", "0 1 0", "-1 -1 -1", "line xx"},
		{"line ...", "1 1 1 0", "1 2 -1 0", "line xxx"}, {"ring ...", "2 2", "2 0", "ring x.x"}, {"ring ...", "2 2 2 2", "2 0 1 -1", "ring xxx"}, {"ring xxx", "1 2", "-1 -1", "ring xxx"}, {"ring x.x", "2 2 1", "1 -1 -1", "ring xxx"}, {"ring .xx", "1", "0", "ring xxx"},
		{"line ....", "1 1 3", "1 2 3", "line .xxx"}, {"line .x..x.", "1 1 4 4 0", "2 3 5 -1 0", "line xxxxxx"}, {"ring .x..x.", "1 1 4 4 0", "2 3 5 0 -1", "ring xxxxxx"}, {"line ..x.", "3 3 2 0", "3 -1 -1 0", "line x.xx"}, {"ring ..x.", "2 2 2 2", "3 0 1 -1", "ring xxxx"},
		{"line " + dots(24), "23 23 0 23", "23 -1 0 -1", "line x" + dots(22) + "x"}, {"ring " + dots(24), "23 23 0 23", "23 0 1 2", "ring xxx" + dots(20) + "x"}, {"line " + crosses(24), "0 12 23", "-1 -1 -1", "line " + crosses(24)}, {"ring " + crosses(24), "0 12 23", "-1 -1 -1", "ring " + crosses(24)},
		{"line " + dots(24), strings.Repeat("0 ", 12), "0 1 2 3 4 5 6 7 8 9 10 11", "line " + crosses(12) + dots(12)}, {"line " + dots(24), strings.Repeat("20 ", 12), "20 21 22 23" + strings.Repeat(" -1", 8), "line " + dots(20) + "xxxx"}, {"ring " + dots(24), strings.Repeat("20 ", 12), "20 21 22 23 0 1 2 3 4 5 6 7", "ring " + crosses(8) + dots(12) + "xxxx"},
		{"line ." + crosses(23), "0 1 23", "0 -1 -1", "line " + crosses(24)}, {"ring ." + crosses(23), "1 0 23", "0 -1 -1", "ring " + crosses(24)}, {"line " + crosses(23) + ".", "0 0", "23 -1", "line " + crosses(24)}, {"ring " + crosses(11) + "." + crosses(12), "12 11", "11 -1", "ring " + crosses(24)},
	} {
		r := row(c.street)
		seats, after, ok := impl.ParkCars(r, numbers(c.cars))
		if !slices.Equal(seats, numbers(c.seats)) || !sameRow(after, row(c.after)) || !ok {
			t.Errorf("ParkCars(%q, %q) = %v, %q, %v", c.street, c.cars, seats, shown(after), ok)
		}
		if back := parked(r, numbers(c.cars), 0); !slices.Equal(back.seats, seats) || !sameRow(back.after, after) {
			t.Errorf("the cars %q on %q: %v", c.cars, c.street, back)
		}
	}
}

// TestCarsParkOneByOne holds all functions of a list of preferences against cars that are parked one by one.
func TestCarsParkOneByOne(t *testing.T) {
	someParkings(func(r impl.Row, cars []int) {
		end := parked(r, cars, 0)
		name := shown(r) + ", " + fmt.Sprint(cars)
		if seats, after, ok := impl.ParkCars(r, cars); !slices.Equal(seats, end.seats) || !sameRow(after, end.after) || !impl.IsRow(after) || !ok {
			t.Errorf("ParkCars(%s) = %v, %v, %v", name, seats, after, ok)
		}
		if all, ok := impl.AllPark(r, cars); all == slices.Contains(end.seats, -1) || !ok {
			t.Errorf("AllPark(%s) = %v, %v", name, all, ok)
		}
		sum := 0
		var lucky []int
		for i, steps := range end.steps {
			sum += max(steps, 0)
			if steps == 0 {
				lucky = append(lucky, i)
			}
		}
		if steps, all, ok := impl.ParkSteps(r, cars); !slices.Equal(steps, end.steps) || all != sum || !ok {
			t.Errorf("ParkSteps(%s) = %v, %d, %v", name, steps, all, ok)
		}
		if list, ok := impl.LuckyCars(r, cars); !slices.Equal(list, lucky) || !ok {
			t.Errorf("LuckyCars(%s) = %v, %v", name, list, ok)
		}
		want := slices.Repeat([]int{-2}, r.Seats)
		for p := range want {
			if slices.Contains(r.Taken, p) {
				want[p] = -1
			}
			if i := slices.Index(end.seats, p); i >= 0 {
				want[p] = i
			}
		}
		if list, ok := impl.CarsAtSeats(r, cars); !slices.Equal(list, want) || !ok {
			t.Errorf("CarsAtSeats(%s) = %v, %v", name, list, ok)
		}
	})
}

func TestAllPark(t *testing.T) {
	for _, c := range []struct {
		street, cars string
		want         bool
	}{
		{"line ..", "", true}, {"line xx", "", true}, {"ring xxx", "", true}, {"line ..", "0 0", true}, {"line ..", "1 1", false}, {"line ..", "0 0 0", false}, {"line x.", "0", true}, {"line .x", "1", false}, {"line .x", "0", true}, {"line xx", "0", false},
		{"ring ...", "2 2 2", true}, {"ring ...", "0 1 2 0", false}, {"ring ..x", "2 2", true}, {"ring ..x", "0 1 2", false}, {"ring xxx", "0", false}, {"line ...", "2 1 0", true}, {"line ...", "2 1 1", false}, {"line .x.x.", "3 3 0", false}, {"line .x.x.", "1 2 0", true},
		{"line " + dots(24), strings.Repeat("12 ", 12), true}, {"line " + dots(24), strings.Repeat("13 ", 12), false}, {"ring " + dots(24), strings.Repeat("23 ", 12), true}, {"ring " + crosses(12) + dots(12), strings.Repeat("0 ", 12), true}, {"ring " + crosses(13) + dots(11), strings.Repeat("13 ", 12), false},
	} {
		if all, ok := impl.AllPark(row(c.street), numbers(c.cars)); all != c.want || !ok {
			t.Errorf("AllPark(%q, %q) = %v, %v", c.street, c.cars, all, ok)
		}
	}
}

// TestAllParkWithRoom holds AllPark against what the document says of it: on a line for each seat, on a ring for all seats together, there are at least as many free ones as cars.
func TestAllParkWithRoom(t *testing.T) {
	someParkings(func(r impl.Row, cars []int) {
		room := true
		for p := range r.Seats {
			if p > 0 && r.Ring {
				break
			}
			free := theSeats(r, false)
			isBefore := func(q int) bool { return q < p }
			room = room && len(slices.DeleteFunc(slices.Clone(cars), isBefore)) <= len(slices.DeleteFunc(free, isBefore))
		}
		if all, ok := impl.AllPark(r, cars); all != room || !ok {
			t.Errorf("AllPark(%q, %v) = %v, %v", shown(r), cars, all, ok)
		}
	})
}

// otherOrders returns other orders of a list: all of a short one.
func otherOrders(list []int) [][]int {
	var found [][]int
	if len(list) <= 4 {
		orders(len(list), nil, func(order []int) {
			var other []int
			for _, i := range order {
				other = append(other, list[i])
			}
			found = append(found, other)
		})
		return found
	}
	up := slices.Sorted(slices.Values(list))
	down := slices.Clone(up)
	slices.Reverse(down)
	back := slices.Clone(list)
	slices.Reverse(back)
	return [][]int{up, down, back, slices.Concat(list[len(list)/2:], list[:len(list)/2])}
}

// TestOrderOfCars checks promise 6: whether all cars park does not depend on their order, nor, if they do, the sum of their steps, nor the Row behind them.
func TestOrderOfCars(t *testing.T) {
	someParkings(func(r impl.Row, cars []int) {
		all, _ := impl.AllPark(r, cars)
		_, sum, _ := impl.ParkSteps(r, cars)
		_, after, _ := impl.ParkCars(r, cars)
		for _, other := range otherOrders(cars) {
			if too, ok := impl.AllPark(r, other); too != all || !ok {
				t.Errorf("AllPark(%q): %v of %v, but %v of %v", shown(r), all, cars, too, other)
			}
			if _, steps, ok := impl.ParkSteps(r, other); !ok || all && steps != sum {
				t.Errorf("ParkSteps(%q): %d of %v, but %d of %v", shown(r), sum, cars, steps, other)
			}
			if _, behind, ok := impl.ParkCars(r, other); !ok || all && !sameRow(behind, after) {
				t.Errorf("ParkCars(%q): %q behind %v, but %q behind %v", shown(r), shown(after), cars, shown(behind), other)
			}
		}
	})
}

func TestParkSteps(t *testing.T) {
	for _, c := range []struct {
		street, cars, steps string
		sum                 int
	}{
		{"line ..", "", "", 0}, {"line ..", "0 0", "0 1", 1}, {"line ..", "1 1", "0 -1", 0}, {"line ..", "1 0", "0 0", 0}, {"line x.", "0 0", "1 -1", 1}, {"line xx", "0 1", "-1 -1", 0}, {"ring ...", "2 2 2 2", "0 1 2 -1", 3}, {"ring .xx", "1", "2", 2}, {"ring xxx", "0 1 2", "-1 -1 -1", 0},
		{"line ....", "1 1 3", "0 1 0", 1}, {"line .x..x.", "1 1 4 4 0", "1 2 1 -1 0", 4}, {"ring .x..x.", "1 1 4 4 4", "1 2 1 2 -1", 6}, {"line " + dots(24), strings.Repeat("12 ", 12), "0 1 2 3 4 5 6 7 8 9 10 11", 66}, {"line " + dots(24), strings.Repeat("22 ", 4), "0 1 -1 -1", 1},
		{"line " + crosses(23) + ".", "0 0", "23 -1", 23}, {"ring " + crosses(11) + "." + crosses(12), "12 0", "23 -1", 23}, {"ring " + crosses(11) + "." + crosses(12), "11", "0", 0}, {"ring " + dots(24), strings.Repeat("23 ", 12), "0 1 2 3 4 5 6 7 8 9 10 11", 66}, {"ring " + crosses(12) + dots(12), strings.Repeat("0 ", 12), "12 13 14 15 16 17 18 19 20 21 22 23", 210},
	} {
		if steps, sum, ok := impl.ParkSteps(row(c.street), numbers(c.cars)); !slices.Equal(steps, numbers(c.steps)) || sum != c.sum || !ok {
			t.Errorf("ParkSteps(%q, %q) = %v, %d, %v", c.street, c.cars, steps, sum, ok)
		}
	}
}

func TestLuckyCars(t *testing.T) {
	for _, c := range []struct{ street, cars, want string }{
		{"line ..", "", ""}, {"line ..", "0 0", "0"}, {"line ..", "1 0", "0 1"}, {"line ..", "1 1 0", "0 2"}, {"line xx", "0 1", ""}, {"line x.", "0 1", ""}, {"line x.", "1 0", "0"}, {"ring ...", "2 2 1", "0 2"}, {"ring ...", "2 2 0 1", "0"}, {"ring xxx", "2", ""}, {"line ....", "1 1 3", "0 2"},
		{"line " + dots(24), "0 2 4 6 8 10 12 14 16 18 20 23", "0 1 2 3 4 5 6 7 8 9 10 11"}, {"line " + dots(24), strings.Repeat("23 ", 11) + "0", "0 11"}, {"ring " + dots(24), strings.Repeat("23 ", 11) + "12", "0 11"}, {"ring " + crosses(23) + ".", "0 23", ""}, {"line " + crosses(24), "0 23", ""},
	} {
		if lucky, ok := impl.LuckyCars(row(c.street), numbers(c.cars)); !slices.Equal(lucky, numbers(c.want)) || !ok {
			t.Errorf("LuckyCars(%q, %q) = %v, %v", c.street, c.cars, lucky, ok)
		}
	}
}

// TestLuckyCarsMakeNoSteps checks promise 6 for lucky cars: they are just those that make no steps, and park at their own seats.
func TestLuckyCarsMakeNoSteps(t *testing.T) {
	someParkings(func(r impl.Row, cars []int) {
		lucky, ok := impl.LuckyCars(r, cars)
		steps, _, _ := impl.ParkSteps(r, cars)
		seats, _, _ := impl.ParkCars(r, cars)
		for i := range cars {
			is := slices.Contains(lucky, i)
			if is != (steps[i] == 0) || is != (seats[i] == cars[i]) {
				t.Errorf("LuckyCars(%q, %v) = %v, but the steps are %v, and the seats %v", shown(r), cars, lucky, steps, seats)
			}
		}
		if !ok || !slices.IsSorted(lucky) || len(slices.Compact(lucky)) != len(lucky) {
			t.Errorf("LuckyCars(%q, %v) = %v, %v", shown(r), cars, lucky, ok)
		}
	})
}

func TestParkBack(t *testing.T) {
	for _, c := range []struct {
		street, cars string
		k            int
		seats, after string
	}{
		{"line ..", "", 0, "", "line .."}, {"line ..", "", 24, "", "line .."}, {"line ....", "1 1", 1, "1 0", "line xx.."}, {"line ....", "1 1", 0, "1 2", "line .xx."}, {"line ....", "0 0", 1, "0 1", "line xx.."}, {"line ....", "0 0 0", 24, "0 1 2", "line xxx."}, {"line ..", "1 1 1", 1, "1 0 -1", "line xx"}, {"line x.", "0", 24, "1", "line xx"}, {"line .x", "1", 0, "-1", "line .x"}, {"line .x", "1 1", 1, "0 -1", "line xx"},
		{"line ...x", "3 3", 1, "2 -1", "line ..xx"}, {"line ...x", "3 3", 2, "2 1", "line .xxx"}, {"line ...x", "3 3 3 3", 3, "2 1 0 -1", "line xxxx"}, {"line .xx..", "2", 1, "3", "line .xxx."}, {"line .xx..", "2", 2, "0", "line xxx.."}, {"line .xx..", "1 1", 2, "0 3", "line xxxx."}, {"line xxx..", "2 2 2", 24, "3 4 -1", "line xxxxx"}, {"line xx", "1", 24, "-1", "line xx"},
		{"ring ...", "0 0", 1, "0 2", "ring x.x"}, {"ring ...", "0 0 0", 1, "0 2 1", "ring xxx"}, {"ring ...", "0 0 0 0", 2, "0 2 1 -1", "ring xxx"}, {"ring ...", "1 1 1", 2, "1 0 2", "ring xxx"}, {"ring x..", "0", 24, "2", "ring x.x"}, {"ring x..", "0", 0, "1", "ring xx."}, {"ring xxx", "0", 24, "-1", "ring xxx"}, {"ring xx..x", "1", 2, "2", "ring xxx.x"}, {"ring xx..x", "1", 3, "3", "ring xx.xx"},
		{"ring xx.x", "1", 3, "2", "ring xxxx"}, {"ring x....", "0 0 0", 2, "4 3 1", "ring xx.xx"}, {"ring " + crosses(11) + "." + crosses(12), "11 12", 24, "11 -1", "ring " + crosses(24)}, {"ring " + crosses(11) + "." + crosses(12), "10", 24, "11", "ring " + crosses(24)}, {"ring " + dots(24), strings.Repeat("1 ", 5), 2, "1 0 23 2 3", "ring xxxx" + dots(19) + "x"},
		{"line " + dots(24), strings.Repeat("5 ", 12), 24, "5 4 3 2 1 0 6 7 8 9 10 11", "line " + crosses(12) + dots(12)}, {"line " + dots(24), strings.Repeat("23 ", 12), 24, "23 22 21 20 19 18 17 16 15 14 13 12", "line " + dots(12) + crosses(12)}, {"line " + dots(24), strings.Repeat("23 ", 4), 2, "23 22 21 -1", "line " + dots(21) + "xxx"}, {"line ." + crosses(23), "23", 23, "0", "line " + crosses(24)},
		{"line ." + crosses(23), "23", 22, "-1", "line ." + crosses(23)}, {"ring " + crosses(23) + ".", "0", 1, "23", "ring " + crosses(24)}, {"ring ." + crosses(22) + ".", "1", 1, "0", "ring x" + crosses(22) + "."},
	} {
		seats, after, ok := impl.ParkBack(row(c.street), numbers(c.cars), c.k)
		if !slices.Equal(seats, numbers(c.seats)) || !sameRow(after, row(c.after)) || !ok {
			t.Errorf("ParkBack(%q, %q, %d) = %v, %q, %v", c.street, c.cars, c.k, seats, shown(after), ok)
		}
	}
}

// TestBackingOneByOne holds ParkBack against cars that are parked one by one; with k as 0 it is ParkCars.
func TestBackingOneByOne(t *testing.T) {
	someParkings(func(r impl.Row, cars []int) {
		one, first, fine := impl.ParkCars(r, cars)
		two, second, ok := impl.ParkBack(r, cars, 0)
		if !slices.Equal(one, two) || !sameRow(first, second) || !fine || !ok {
			t.Errorf("ParkBack(%q, %v, 0) = %v, %v, %v, but ParkCars tells %v, %v, %v", shown(r), cars, two, second, ok, one, first, fine)
		}
		for _, k := range []int{1, 2, r.Seats - 2, r.Seats - 1, r.Seats, impl.MaxSeats - 1, impl.MaxSeats} {
			end := parked(r, cars, k)
			seats, after, ok := impl.ParkBack(r, cars, k)
			if !slices.Equal(seats, end.seats) || !sameRow(after, end.after) || !impl.IsRow(after) || !ok {
				t.Errorf("ParkBack(%q, %v, %d) = %v, %v, %v", shown(r), cars, k, seats, after, ok)
			}
		}
	})
}

func TestBackingByOtherNumbers(t *testing.T) {
	for _, r := range parkingRows() {
		for _, k := range []int{-1, -2, impl.MaxSeats + 1, impl.MaxSeats + 2, -impl.MaxSeats, math.MinInt, math.MaxInt, math.MinInt + 1, math.MaxInt - 1} {
			for _, cars := range [][]int{nil, {0}, {0, 0, 1}, {r.Seats - 1, r.Seats - 1}} {
				failed(t, "ParkBack", shown(r), cars, k)(impl.ParkBack(r, cars, k))
			}
		}
	}
}

func TestCarsAtSeats(t *testing.T) {
	for _, c := range []struct{ street, cars, want string }{
		{"line ..", "", "-2 -2"}, {"line x.", "", "-1 -2"}, {"line xx", "0", "-1 -1"}, {"line ..", "1 1 0", "2 0"}, {"line ..", "0 0 0", "0 1"}, {"line x.", "0", "-1 0"}, {"ring ...", "", "-2 -2 -2"}, {"ring ...", "2 2", "1 -2 0"}, {"ring x..", "2 2", "-1 1 0"}, {"ring xxx", "1", "-1 -1 -1"}, {"line ....", "1 1 3", "-2 0 1 2"},
		{"line .x..x.", "1 1 4 4 0", "4 -1 0 1 -1 2"}, {"line " + dots(24), strings.Repeat("23 ", 12), strings.Repeat("-2 ", 23) + "0"}, {"ring " + dots(24), strings.Repeat("23 ", 12), "1 2 3 4 5 6 7 8 9 10 11" + strings.Repeat(" -2", 12) + " 0"}, {"line " + crosses(12) + dots(12), strings.Repeat("0 ", 12), strings.Repeat("-1 ", 12) + "0 1 2 3 4 5 6 7 8 9 10 11"},
	} {
		if list, ok := impl.CarsAtSeats(row(c.street), numbers(c.cars)); !slices.Equal(list, numbers(c.want)) || !ok {
			t.Errorf("CarsAtSeats(%q, %q) = %v, %v", c.street, c.cars, list, ok)
		}
	}
}

// countable reports whether all lists of preferences of so many cars are few enough to go through.
func countable(r impl.Row, m int) bool { return math.Pow(float64(r.Seats), float64(m)) <= 1024 }

// countWays returns the number of lists of preferences of m cars that all park, found from set of taken seats to set, each a number with a binary digit for each seat.
func countWays(r impl.Row, m int) int {
	start := 0
	for _, p := range r.Taken {
		start |= 1 << p
	}
	now := map[int]int{start: 1}
	for range m {
		next := map[int]int{}
		for set, ways := range now {
			for own := range r.Seats {
				p, more := own, true
				for step := 0; more && set>>p&1 == 1 && step < r.Seats; step++ {
					p, more = aheadOf(r, p)
				}
				if more && set>>p&1 == 0 {
					next[set|1<<p] += ways
				}
			}
		}
		now = next
	}
	sum := 0
	for _, ways := range now {
		sum += ways
	}
	return sum
}

func TestCountAllPark(t *testing.T) {
	for _, c := range []struct {
		street  string
		m, want int
	}{
		{"line ..", 0, 1}, {"line ..", 1, 2}, {"line ..", 2, 3}, {"line ..", 3, 0}, {"line xx", 0, 1}, {"line xx", 1, 0}, {"line x.", 1, 2}, {"line .x", 1, 1}, {"line .x", 2, 0}, {"line ...", 0, 1}, {"line ...", 1, 3}, {"line ...", 2, 8}, {"line ...", 3, 16}, {"line ...", 4, 0}, {"line .x.", 2, 5}, {"ring ...", 0, 1}, {"ring ...", 3, 27}, {"ring ...", 4, 0}, {"ring x..", 2, 9}, {"ring x..", 3, 0},
		{"ring xxx", 0, 1}, {"ring xxx", 1, 0}, {"line " + dots(12), 0, 1}, {"line " + dots(12), 1, 12}, {"line " + dots(12), 11, 275716983698}, {"line " + dots(12), 12, 1792160394037}, {"line " + crosses(12), 0, 1}, {"line " + crosses(12), 1, 0}, {"line " + crosses(12), 12, 0}, {"line x" + dots(11), 12, 0}, {"line x" + dots(11), 11, 1792160394037 / 13 * 2}, {"line " + dots(11) + "x", 11, 61917364224},
		{"ring " + dots(12), 12, 8916100448256}, {"ring " + dots(12), 0, 1}, {"ring x" + dots(11), 12, 0}, {"ring x" + dots(11), 11, 743008370688}, {"ring " + crosses(12), 0, 1}, {"ring " + crosses(12), 1, 0}, {"line ..", 12, 0}, {"ring ...", 12, 0},
	} {
		if count, ok := impl.CountAllPark(row(c.street), c.m); count != c.want || !ok {
			t.Errorf("CountAllPark(%q, %d) = %d, %v", c.street, c.m, count, ok)
		}
	}
}

// TestCountsOfFreeLines holds CountAllPark for free lines against the formula for m cars on n seats, and CountParking.
func TestCountsOfFreeLines(t *testing.T) {
	for n := 2; n <= impl.MaxCars; n++ {
		for m := 1; m <= n; m++ {
			want := n + 1 - m
			for range m - 1 {
				want *= n + 1
			}
			if count, ok := impl.CountAllPark(impl.Row{Seats: n}, m); count != want || !ok {
				t.Errorf("CountAllPark of %d cars and %d free seats = %d, %v", m, n, count, ok)
			}
			if count, ok := impl.CountParking(n); m == n && (count != want || !ok) {
				t.Errorf("CountParking(%d) = %d, %v", n, count, ok)
			}
		}
	}
}

// TestCountsOfAllLists goes through all lists of preferences of few cars, and counts those that all park, and those of each list of places.
func TestCountsOfAllLists(t *testing.T) {
	for seats := 2; seats <= 5; seats++ {
		for _, r := range allRows(seats) {
			for m := 0; countable(r, m) && m <= 6; m++ {
				checkCountsOf(t, r, m)
			}
		}
	}
}

func checkCountsOf(t *testing.T, r impl.Row, m int) {
	t.Helper()
	all, behind := 0, map[string]int{}
	listsOf(m, 0, r.Seats-1, func(cars []int) {
		seats, _, _ := impl.ParkCars(r, cars)
		if !slices.Contains(seats, -1) {
			all++
			behind[fmt.Sprint(seats)]++
		}
		if park, ok := impl.AllPark(r, cars); park == slices.Contains(seats, -1) || !ok {
			t.Errorf("AllPark(%q, %v) = %v, %v", shown(r), cars, park, ok)
		}
	})
	if count, ok := impl.CountAllPark(r, m); count != all || !ok {
		t.Errorf("CountAllPark(%q, %d) = %d, %v, but %d lists park", shown(r), m, count, ok, all)
	}
	listsOf(m, -1, r.Seats, func(places []int) {
		count, ok := impl.CarsBehind(r, places)
		name := fmt.Sprint(places)
		if behind[name] == 0 {
			failed(t, "CarsBehind", shown(r), name)(count, ok)
		} else if count != behind[name] || !ok {
			t.Errorf("CarsBehind(%q, %s) = %d, %v, but %d lists park so", shown(r), name, count, ok, behind[name])
		}
	})
}

// TestCountsOfAllRows holds CountAllPark against counts from set to set of taken seats.
func TestCountsOfAllRows(t *testing.T) {
	rows := []impl.Row{}
	for seats := 2; seats <= 7; seats++ {
		rows = append(rows, allRows(seats)...)
	}
	for _, signs := range []string{dots(12), "x" + dots(11), dots(11) + "x", "x.x.x.x.x.x.", ".x.x.x.x.x.x", "......xxxxxx", "xxxxxx......", ".xx..x....x.", "..xx.xx..xx.", dots(11), dots(10), "x........x", ".x......xx", crosses(11) + ".", "." + crosses(11)} {
		rows = append(rows, row("line "+signs), row("ring "+signs))
	}
	for _, r := range rows {
		for m := range impl.MaxCars + 1 {
			if count, ok := impl.CountAllPark(r, m); count != countWays(r, m) || !ok {
				t.Errorf("CountAllPark(%q, %d) = %d, %v, but it is %d", shown(r), m, count, ok, countWays(r, m))
			}
		}
	}
}

func TestCountAllParkFails(t *testing.T) {
	for _, r := range parkingRows() {
		numbers := []int{-1, -2, impl.MaxCars + 1, impl.MaxCars + 2, -impl.MaxCars, impl.MaxSeats, math.MinInt, math.MaxInt, math.MinInt + 1, math.MaxInt - 1}
		if r.Seats > impl.MaxCars {
			numbers = append(numbers, 0, 1, 2, impl.MaxCars, r.Seats)
		}
		for _, m := range numbers {
			failed(t, "CountAllPark", shown(r), m)(impl.CountAllPark(r, m))
		}
	}
}

func TestCountParking(t *testing.T) {
	for n, want := range map[int]int{1: 1, 2: 3, 3: 16, 4: 125, 5: 1296, 6: 16807, 7: 262144, 11: 61917364224, 12: 1792160394037} {
		if count, ok := impl.CountParking(n); count != want || !ok {
			t.Errorf("CountParking(%d) = %d, %v", n, count, ok)
		}
	}
}

func TestCarsBehind(t *testing.T) {
	for _, c := range []struct {
		street, places string
		want           int
	}{
		{"line ..", "", 1}, {"line xx", "", 1}, {"ring xxx", "", 1}, {"line ..", "0", 1}, {"line ..", "1", 1}, {"line ..", "0 1", 2}, {"line ..", "1 0", 1}, {"line x.", "1", 2}, {"line .x", "0", 1}, {"line ...", "1 2", 2}, {"line ...", "0 1 2", 6}, {"line ...", "2 1 0", 1}, {"line ...", "0 2 1", 2}, {"line ...", "1 0 2", 3}, {"line ...", "1 2 0", 2}, {"line x.x.", "3 1", 4}, {"line x.x.", "1 3", 8},
		{"ring ...", "0 2", 1}, {"ring ...", "2 0", 2}, {"ring ...", "2 0 1", 6}, {"ring ...", "0 2 1", 3}, {"ring x..", "1 2", 6}, {"ring x..", "2 1", 3}, {"ring xx.", "2", 3}, {"ring x.x", "1", 3}, {"ring .xx", "0", 3}, {"ring x..x", "1 2", 12}, {"ring x..x", "2 1", 4}, {"line " + dots(24), "0 1 2 3 4 5 6 7 8 9 10 11", 479001600}, {"line " + dots(24), "23 22 21 20 19 18 17 16 15 14 13 12", 1},
		{"line " + crosses(12) + dots(12), "12 13 14 15 16 17 18 19 20 21 22 23", 1295295050649600}, {"ring " + crosses(6) + dots(12) + crosses(6), "6 7 8 9 10 11 12 13 14 15 16 17", 1295295050649600}, {"ring " + crosses(11) + "." + crosses(12), "11", 24}, {"line " + crosses(11) + "." + crosses(12), "11", 12}, {"line " + crosses(23) + ".", "23", 24}, {"ring " + dots(24), "23 0 1 22", 6},
	} {
		if count, ok := impl.CarsBehind(row(c.street), numbers(c.places)); count != c.want || !ok {
			t.Errorf("CarsBehind(%q, %q) = %d, %v", c.street, c.places, count, ok)
		}
	}
}

// TestBehindIsAProduct holds CarsBehind against the product of the numbers of seats from which one comes to each place.
func TestBehindIsAProduct(t *testing.T) {
	for _, r := range parkingRows() {
		for _, cars := range longLists(r) {
			want, before, places := 1, r, []int{}
			for _, p := range parked(r, cars, 0).seats {
				if p < 0 {
					continue
				}
				from := 0
				for own := range r.Seats {
					if seat, _ := wayAhead(before, own); seat == p {
						from++
					}
				}
				want *= from
				before = with(before, p)
				places = append(places, p)
			}
			if count, ok := impl.CarsBehind(r, places); count != want || !ok {
				t.Errorf("CarsBehind(%q, %v) = %d, %v, but it is %d", shown(r), places, count, ok, want)
			}
		}
	}
}

func TestCarsBehindFails(t *testing.T) {
	for _, c := range []struct{ street, places string }{
		{"line .x", "1"}, {"line xx", "0"}, {"line ..", "0 0"}, {"line ..", "0 1 0"}, {"line ..", "-1"}, {"line ..", "2"}, {"line ..", "0 2"}, {"line ..", "0 1 2"}, {"line ...", "0 2 2"}, {"line ...", "0 1 -1"}, {"ring ...", "3"}, {"ring ...", "-1"}, {"ring ...", "0 1 2 0"}, {"ring x..", "0"}, {"ring x..", "1 2 0"}, {"ring xxx", "1"},
		{"line " + dots(24), "0 1 2 3 4 5 6 7 8 9 10 11 12"}, {"ring " + dots(24), "23 22 21 20 19 18 17 16 15 14 13 12 11"}, {"line " + dots(24), "24"}, {"line " + dots(24), "0 1 2 3 4 5 6 7 8 9 10 10"}, {"line " + dots(23) + "x", "23"}, {"ring " + dots(13), "0 1 2 3 4 5 6 7 8 9 10 11 12"},
	} {
		failed(t, "CarsBehind", c.street, c.places)(impl.CarsBehind(row(c.street), numbers(c.places)))
	}
	for _, r := range parkingRows() {
		for _, p := range append(noSeats(r.Seats), r.Taken...) {
			if p < 0 || p >= r.Seats || slices.Contains(r.Taken, p) {
				failed(t, "CarsBehind", shown(r), p)(impl.CarsBehind(r, []int{p}))
			}
		}
		failed(t, "CarsBehind", shown(r))(impl.CarsBehind(r, make([]int, 100000)))
	}
}

// TestCountsOfPlaces adds up CarsBehind over all lists of places of few cars.
func TestCountsOfPlaces(t *testing.T) {
	for seats := 2; seats <= 6; seats++ {
		for _, r := range allRows(seats) {
			free := theSeats(r, false)
			for m := 0; m <= len(free); m++ {
				sum := 0
				listsOfPlaces(free, m, nil, func(places []int) {
					count, _ := impl.CarsBehind(r, places)
					sum += count
				})
				if all, ok := impl.CountAllPark(r, m); sum != all || !ok {
					t.Errorf("CountAllPark(%q, %d) = %d, %v, but all CarsBehind are %d", shown(r), m, all, ok, sum)
				}
			}
		}
	}
}

// listsOfPlaces gives all lists of m different seats.
func listsOfPlaces(seats []int, m int, chosen []int, each func([]int)) {
	if len(chosen) == m {
		each(chosen)
		return
	}
	for _, p := range seats {
		if !slices.Contains(chosen, p) {
			listsOfPlaces(seats, m, append(chosen[:len(chosen):len(chosen)], p), each)
		}
	}
}

func TestLuckyCounts(t *testing.T) {
	for n, want := range map[int]string{
		1: "0 1", 2: "0 1 2", 3: "0 2 8 6", 4: "0 6 37 58 24", 5: "0 24 204 504 444 120", 6: "0 120 1318 4553 6388 3708 720",
		12: "0 39916800 1127985120 12029862744 65637625876 206977220338 400354994565 488173531294 376921968652 181036858440 51553709568 7827719040 479001600",
	} {
		if counts, ok := impl.LuckyCounts(n); !slices.Equal(counts, numbers(want)) || !ok {
			t.Errorf("LuckyCounts(%d) = %v, %v", n, counts, ok)
		}
	}
}

// TestLuckyCountsAddUp checks that the numbers of LuckyCounts are as many as the document says, and have the sum CountParking.
func TestLuckyCountsAddUp(t *testing.T) {
	for n := 1; n <= impl.MaxCars; n++ {
		counts, ok := impl.LuckyCounts(n)
		sum := 0
		for _, count := range counts {
			sum += count
		}
		if all, fine := impl.CountParking(n); len(counts) != n+1 || sum != all || !ok || !fine {
			t.Errorf("LuckyCounts(%d) = %v, %v, with the sum %d, and CountParking tells %d, %v", n, counts, ok, sum, all, fine)
		}
	}
}

// TestParkingListsOneByOne goes through all lists of n numbers, and counts the parking lists, and those with each number of lucky cars.
func TestParkingListsOneByOne(t *testing.T) {
	for n := 2; n <= 6; n++ {
		want, street := make([]int, n+1), impl.Row{Seats: n}
		all := 0
		listsOf(n, 0, n-1, func(cars []int) {
			if park, _ := impl.AllPark(street, cars); !park {
				return
			}
			lucky, _ := impl.LuckyCars(street, cars)
			want[len(lucky)]++
			all++
		})
		if counts, ok := impl.LuckyCounts(n); !slices.Equal(counts, want) || !ok {
			t.Errorf("LuckyCounts(%d) = %v, %v, but they are %v", n, counts, ok, want)
		}
		if count, ok := impl.CountParking(n); count != all || !ok {
			t.Errorf("CountParking(%d) = %d, %v, but %d lists park", n, count, ok, all)
		}
		if count, ok := impl.CountAllPark(street, n); count != all || !ok {
			t.Errorf("CountAllPark of %d free seats = %d, %v, but %d lists park", n, count, ok, all)
		}
	}
}

func TestShiftToPark(t *testing.T) {
	for _, c := range []struct {
		n    int
		cars string
		want int
	}{
		{1, "0", 0}, {1, "1", 1}, {2, "0 0", 0}, {2, "0 1", 0}, {2, "1 0", 0}, {2, "1 1", 2}, {2, "2 2", 1}, {2, "0 2", 1}, {2, "1 2", 2}, {3, "0 0 0", 0}, {3, "3 3 3", 1}, {3, "1 1 1", 3}, {3, "2 0 2", 2}, {3, "2 1 0", 0}, {3, "3 2 1", 3},
		{12, strings.Repeat("0 ", 12), 0}, {12, strings.Repeat("12 ", 12), 1}, {12, strings.Repeat("1 ", 12), 12}, {12, "0 1 2 3 4 5 6 7 8 9 10 11", 0}, {12, "1 2 3 4 5 6 7 8 9 10 11 12", 12}, {12, "11 10 9 8 7 6 5 4 3 2 1 12", 12}, {12, "0 1 2 3 4 5 12 11 10 9 8 7", 6}, {11, strings.Repeat("11 ", 11), 1},
	} {
		if s, ok := impl.ShiftToPark(c.n, numbers(c.cars)); s != c.want || !ok {
			t.Errorf("ShiftToPark(%d, %q) = %d, %v", c.n, c.cars, s, ok)
		}
	}
}

// parksOnLine reports whether a list of numbers is a parking list of as many seats, where a line may have one seat only.
func parksOnLine(cars []int) bool {
	for p := range len(cars) + 1 {
		before := 0
		for _, own := range cars {
			if own < p {
				before++
			}
		}
		if before < p {
			return false
		}
	}
	return true
}

// checkShift expects that ShiftToPark finds the one shift with which a list parks.
func checkShift(t *testing.T, cars []int) {
	t.Helper()
	n := len(cars)
	var want []int
	for s := range n + 1 {
		var shifted []int
		for _, own := range cars {
			shifted = append(shifted, (own+s)%(n+1))
		}
		parks := parksOnLine(shifted)
		if n >= 2 && !slices.Contains(shifted, n) {
			if all, ok := impl.AllPark(impl.Row{Seats: n}, shifted); all != parks || !ok {
				t.Errorf("AllPark of %d free seats and %v: %v, %v", n, shifted, all, ok)
			}
		}
		if parks {
			want = append(want, s)
		}
	}
	if s, ok := impl.ShiftToPark(n, cars); len(want) != 1 || s != want[0] || !ok {
		t.Errorf("ShiftToPark(%d, %v) = %d, %v, but the shifts are %v", n, cars, s, ok, want)
	}
}

// TestShiftIsTheOne checks all short lists, and some long ones.
func TestShiftIsTheOne(t *testing.T) {
	for n := 1; n <= impl.MaxCars; n++ {
		if n <= 5 {
			listsOf(n, 0, n, func(cars []int) { checkShift(t, cars) })
		}
		if n == 1 {
			continue
		}
		for _, cars := range longLists(impl.Row{Seats: n + 1}) {
			if len(cars) == n {
				checkShift(t, cars)
			}
		}
	}
}

func TestShiftToParkFails(t *testing.T) {
	for n := 1; n <= impl.MaxCars; n++ {
		for many := range n + 4 {
			if many != n {
				failed(t, "ShiftToPark", n, many)(impl.ShiftToPark(n, make([]int, many)))
			}
		}
		failed(t, "ShiftToPark", n)(impl.ShiftToPark(n, make([]int, 100000)))
		for at := range n {
			for _, p := range []int{-1, n + 1, -n, -n - 1, math.MinInt, math.MaxInt, math.MinInt + 1, math.MaxInt - 1} {
				cars := make([]int, n)
				cars[at] = p
				failed(t, "ShiftToPark", n, cars)(impl.ShiftToPark(n, cars))
			}
		}
	}
}

func TestOtherCarNumbers(t *testing.T) {
	for _, n := range []int{0, -1, -2, -impl.MaxCars, impl.MaxCars + 1, impl.MaxCars + 2, impl.MaxSeats, 64, math.MinInt, math.MaxInt, math.MinInt + 1, math.MaxInt - 1} {
		failed(t, "CountParking", n)(impl.CountParking(n))
		failed(t, "LuckyCounts", n)(impl.LuckyCounts(n))
		for _, cars := range [][]int{nil, {0}, {0, 0}, make([]int, impl.MaxCars), make([]int, min(max(n, 0), 99))} {
			failed(t, "ShiftToPark", n, cars)(impl.ShiftToPark(n, cars))
		}
	}
}

// checkNoParking expects that all functions of a list of preferences fail.
func checkNoParking(t *testing.T, r impl.Row, cars []int) {
	t.Helper()
	name := fmt.Sprintf("%.80s and %.80s", fmt.Sprint(r), fmt.Sprint(cars))
	failed(t, "ParkCars", name)(impl.ParkCars(r, cars))
	failed(t, "AllPark", name)(impl.AllPark(r, cars))
	failed(t, "ParkSteps", name)(impl.ParkSteps(r, cars))
	failed(t, "LuckyCars", name)(impl.LuckyCars(r, cars))
	failed(t, "CarsAtSeats", name)(impl.CarsAtSeats(r, cars))
	for _, k := range []int{0, 1, impl.MaxSeats, impl.MaxSeats + 1, -1} {
		failed(t, "ParkBack", name, k)(impl.ParkBack(r, cars, k))
	}
}

// TestBadStreets calls each function with Rows that are not valid, and other arguments that would do.
func TestBadStreets(t *testing.T) {
	for _, r := range badRows() {
		for _, list := range [][]int{nil, {}, {0}, {1, 1}, {3, 2, 1, 0}, make([]int, impl.MaxCars)} {
			checkNoParking(t, r, list)
			failed(t, "CarsBehind", list)(impl.CarsBehind(r, list))
		}
		for _, m := range []int{0, 1, 2, impl.MaxCars, impl.MaxCars + 1, -1} {
			failed(t, "CountAllPark", m)(impl.CountAllPark(r, m))
		}
	}
}

// TestBadPreferences calls each function with too many cars, and with cars that prefer no seat.
func TestBadPreferences(t *testing.T) {
	for _, r := range parkingRows() {
		for _, many := range []int{impl.MaxCars + 1, impl.MaxCars + 2, impl.MaxSeats, 1000} {
			checkNoParking(t, r, make([]int, many))
		}
		for _, p := range noSeats(r.Seats) {
			for _, cars := range [][]int{{p}, {p, 0}, {0, p}, {0, 1, p, 1}, append(make([]int, impl.MaxCars-1), p)} {
				checkNoParking(t, r, cars)
			}
		}
		for many := range impl.MaxCars + 1 {
			if _, _, ok := impl.ParkCars(r, make([]int, many)); !ok {
				t.Errorf("ParkCars(%q) fails for %d cars", shown(r), many)
			}
		}
	}
}

// parkingCalls returns the results of all functions of chapter 6.
func parkingCalls(r impl.Row, cars []int, n int) []string {
	return []string{
		told(impl.ParkCars(r, cars)), told(impl.AllPark(r, cars)), told(impl.ParkSteps(r, cars)), told(impl.LuckyCars(r, cars)), told(impl.ParkBack(r, cars, n)), told(impl.CountAllPark(r, n)), told(impl.CountParking(n)),
		told(impl.CarsBehind(r, cars)), told(impl.LuckyCounts(n)), told(impl.ShiftToPark(n, cars)), told(impl.CarsAtSeats(r, cars)),
	}
}

// TestStreetsAreNotModified calls all functions with lists that are the middle of longer slices, twice, with the same results.
func TestStreetsAreNotModified(t *testing.T) {
	for _, c := range []struct {
		r    impl.Row
		cars []int
	}{
		{row("line .x..x."), []int{1, 1, 4, 4, 0}}, {row("ring .x..x."), []int{1, 1, 4, 4, 0, 0}}, {row("line ....."), []int{4, 3, 2, 1, 0}}, {row("ring ....."), []int{4, 4, 4}}, {row("line xxx"), []int{2, 0}}, {row("ring xxx"), []int{2, 0}}, {row("line x.x.x"), []int{3, 1}}, {row("ring ..xx"), []int{1, 0}},
		{row("line " + dots(12)), make([]int, 12)}, {row("ring " + strings.Repeat("x.", 12)), numbers("23 22 21 20 19 18 17 16 15 14 13 12")}, {row("line .."), []int{0, 2}}, {row("line .."), []int{0, -1}}, {row("line .."), nil}, {impl.Row{Seats: 5, Taken: []int{3, 1}}, []int{4, 0}}, {impl.Row{}, []int{0}}, {row("line ..."), make([]int, 13)},
	} {
		taken, one := inside(c.r.Taken)
		cars, two := inside(c.cars)
		kept := told(one, two)
		r := impl.Row{Seats: c.r.Seats, Ring: c.r.Ring, Taken: taken}
		for n := -1; n <= impl.MaxSeats+1; n++ {
			first := parkingCalls(r, cars, n)
			if again := parkingCalls(c.r, c.cars, n); !slices.Equal(first, again) {
				t.Errorf("other results the second time: %v and %v", first, again)
			}
			if told(one, two) != kept {
				t.Fatalf("a call with %v, %v, %d changed its arguments: %v %v", c.r, c.cars, n, one, two)
			}
		}
	}
}

// TestStreetsShareNoMemory changes what the functions gave out, and expects that nothing else changes: neither the arguments, nor another result, nor what they give out later.
func TestStreetsShareNoMemory(t *testing.T) {
	for _, c := range []struct{ street, cars string }{
		{"line .x..x.", "1 1 4 4 0"}, {"ring .x..x.", "1 1 4 4 0"}, {"line xx", "0 1"}, {"line xx", ""}, {"ring xxx", "0 2"}, {"ring x.x", ""}, {"line ...", ""}, {"line ...", "2 1 0"}, {"ring ...", "0 1 2"}, {"line " + dots(24), "0 1 2 3 4 5 6 7 8 9 10 11"}, {"ring " + crosses(12) + dots(12), "11 11 11 12 13"},
	} {
		r, cars := row(c.street), numbers(c.cars)
		n := max(len(cars), 1)
		kept, calls := told(r, cars), parkingCalls(r, cars, n)
		var lists [][]int
		for range 2 {
			seats, after, _ := impl.ParkCars(r, cars)
			back, behind, _ := impl.ParkBack(r, cars, 2)
			steps, _, _ := impl.ParkSteps(r, cars)
			lucky, _ := impl.LuckyCars(r, cars)
			counts, _ := impl.LuckyCounts(n)
			at, _ := impl.CarsAtSeats(r, cars)
			lists = append(lists, seats, after.Taken, back, behind.Taken, steps, lucky, counts, at)
		}
		checkOwnMemory(t, c.street, lists, func(i int) int { return -i - 1 })
		if told(r, cars) != kept || !slices.Equal(parkingCalls(r, cars, n), calls) {
			t.Errorf("%q, %q: a result shares memory with an argument, or with a later one", c.street, c.cars)
		}
	}
}
