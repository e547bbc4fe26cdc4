package tests

import (
	"fmt"
	"math"
	"regexp"
	"slices"
	"strings"
	"testing"

	"loop.example/g01167/impl"
)

// row returns the Row that a text shows, read without the program.
func row(text string) impl.Row {
	form, signs, _ := strings.Cut(text, " ")
	r := impl.Row{Seats: len(signs), Ring: form == "ring"}
	for p, c := range signs {
		if c == 'x' {
			r.Taken = append(r.Taken, p)
		}
	}
	return r
}

// shown returns the text of a Row, written without the program.
func shown(r impl.Row) string {
	signs := []byte(strings.Repeat(".", r.Seats))
	for _, p := range r.Taken {
		signs[p] = 'x'
	}
	if r.Ring {
		return "ring " + string(signs)
	}
	return "line " + string(signs)
}

func sameRow(a impl.Row, b impl.Row) bool {
	return a.Seats == b.Seats && a.Ring == b.Ring && slices.Equal(a.Taken, b.Taken)
}

// allRows returns all valid Rows of so many seats.
func allRows(seats int) []impl.Row {
	var list []impl.Row
	for set := range 1 << seats {
		var taken []int
		for p := range seats {
			if set>>p&1 == 1 {
				taken = append(taken, p)
			}
		}
		list = append(list, impl.Row{Seats: seats, Taken: taken})
		if seats >= 3 {
			list = append(list, impl.Row{Seats: seats, Ring: true, Taken: slices.Clone(taken)})
		}
	}
	return list
}

// manyRows returns all valid Rows of few seats, and some of many.
func manyRows() []impl.Row {
	var list []impl.Row
	for seats := 2; seats <= 8; seats++ {
		list = append(list, allRows(seats)...)
	}
	for _, signs := range []string{
		strings.Repeat(".", 24), strings.Repeat("x", 24), strings.Repeat("x.", 12), "x" + strings.Repeat(".", 23), strings.Repeat(".", 23) + "x",
		"............x...........", "..x....x.xx.....x....xx.", "xx.....................x", strings.Repeat("x", 23) + ".", "." + strings.Repeat("x", 22),
	} {
		list = append(list, row("line "+signs), row("ring "+signs))
	}
	return list
}

// badRows returns Rows that are not valid.
func badRows() []impl.Row {
	return []impl.Row{
		{}, {Seats: 1}, {Seats: 0, Ring: true}, {Seats: 1, Ring: true}, {Seats: 2, Ring: true}, {Seats: 2, Ring: true, Taken: []int{0, 1}},
		{Seats: -1}, {Seats: -3, Ring: true}, {Seats: math.MinInt}, {Seats: math.MaxInt}, {Seats: math.MaxInt, Ring: true},
		{Seats: impl.MaxSeats + 1}, {Seats: impl.MaxSeats + 1, Ring: true}, {Seats: impl.MaxSeats + 1, Taken: []int{0, 24}},
		{Seats: 4, Taken: []int{-1}}, {Seats: 4, Taken: []int{-1, 2}}, {Seats: 4, Ring: true, Taken: []int{-2, -1}}, {Seats: 4, Taken: []int{math.MinInt, 0}},
		{Seats: 4, Taken: []int{4}}, {Seats: 4, Taken: []int{0, 1, 4}}, {Seats: 4, Ring: true, Taken: []int{1, 4}}, {Seats: 4, Taken: []int{math.MaxInt}},
		{Seats: 24, Taken: []int{24}}, {Seats: 4, Taken: []int{1, 1}}, {Seats: 4, Taken: []int{0, 2, 2}}, {Seats: 4, Ring: true, Taken: []int{0, 0, 1}},
		{Seats: 4, Taken: []int{2, 1}}, {Seats: 4, Taken: []int{0, 3, 2}}, {Seats: 4, Ring: true, Taken: []int{3, 0}}, {Seats: 4, Taken: []int{0, 1, 2, 3, 3}},
		{Seats: 4, Taken: []int{0, 1, 2, 3, 4}}, {Taken: []int{0}}, {Seats: 4, Taken: make([]int, 100000)},
	}
}

// noSeats returns numbers that are not seats of a Row of so many.
func noSeats(seats int) []int {
	return []int{-1, seats, seats + 1, -seats, math.MinInt, math.MaxInt, math.MinInt + 1, math.MaxInt - 1}
}

// stepsFrom returns the gaps of all seats to one, found by going on to neighbors step by step.
func stepsFrom(r impl.Row, start int) []int {
	steps := slices.Repeat([]int{-1}, r.Seats)
	steps[start] = 0
	for d := range r.Seats {
		for p := range r.Seats {
			if steps[p] != d {
				continue
			}
			for _, q := range neighborsOf(r, p) {
				if steps[q] < 0 {
					steps[q] = d + 1
				}
			}
		}
	}
	return steps
}

func neighborsOf(r impl.Row, p int) []int {
	var list []int
	for q := range r.Seats {
		if q == p+1 || q == p-1 || r.Ring && p+q == r.Seats-1 && (p == 0 || q == 0) {
			list = append(list, q)
		}
	}
	return list
}

// theSeats returns the seats of a Row that are taken, or that are not.
func theSeats(r impl.Row, taken bool) []int {
	var list []int
	for p := range r.Seats {
		if slices.Contains(r.Taken, p) == taken {
			list = append(list, p)
		}
	}
	return list
}

func TestIsRow(t *testing.T) {
	for _, r := range manyRows() {
		if !impl.IsRow(r) {
			t.Errorf("no Row: %v", r)
		}
	}
	for _, r := range []impl.Row{
		{Seats: 2}, {Seats: 2, Taken: []int{}}, {Seats: 2, Taken: []int{0, 1}}, {Seats: 3}, {Seats: 3, Ring: true}, {Seats: 3, Ring: true, Taken: []int{0, 1, 2}},
		{Seats: impl.MaxSeats}, {Seats: impl.MaxSeats, Ring: true}, {Seats: impl.MaxSeats - 1, Taken: []int{22}}, {Seats: impl.MaxSeats, Taken: []int{0, 23}},
	} {
		if !impl.IsRow(r) {
			t.Errorf("no Row: %v", r)
		}
	}
	for _, r := range badRows() {
		if impl.IsRow(r) {
			t.Errorf("a Row: %.80s", fmt.Sprint(r))
		}
	}
}

// TestBadRows calls each function with Rows that are not valid, and numbers that would do for a valid one.
func TestBadRows(t *testing.T) {
	fine := row("line .x")
	for _, r := range badRows() {
		name := fmt.Sprintf("of %.80s: ", fmt.Sprint(r))
		failed(t, name, "FreeSeats")(impl.FreeSeats(r))
		failed(t, name, "RunsOf")(impl.RunsOf(r))
		failed(t, name, "LonelySeats")(impl.LonelySeats(r))
		failed(t, name, "TouchingPairs")(impl.TouchingPairs(r))
		failed(t, name, "MirrorSeats")(impl.MirrorSeats(r))
		failed(t, name, "OtherSeats")(impl.OtherSeats(r))
		failed(t, name, "RowText")(impl.RowText(r))
		failed(t, name, "JoinSeats before")(impl.JoinSeats(r, fine))
		failed(t, name, "JoinSeats behind")(impl.JoinSeats(fine, r))
		failed(t, name, "JoinSeats twice")(impl.JoinSeats(r, r))
		for _, p := range []int{0, 1, 2, 3, -1, 4, 23, 24, 25, math.MaxInt, math.MinInt} {
			failed(t, name, "SeatGap", p)(impl.SeatGap(r, p, 0))
			failed(t, name, "SeatGap to", p)(impl.SeatGap(r, 1, p))
			failed(t, name, "SeatNeighbors", p)(impl.SeatNeighbors(r, p))
			failed(t, name, "NearestTaken", p)(impl.NearestTaken(r, p))
			failed(t, name, "NearestFree", p)(impl.NearestFree(r, p))
			failed(t, name, "TakeSeat", p)(impl.TakeSeat(r, p))
			failed(t, name, "LeaveSeat", p)(impl.LeaveSeat(r, p))
			failed(t, name, "TurnSeats", p)(impl.TurnSeats(r, p))
			failed(t, name, "PartSeats", p)(impl.PartSeats(r, p, 2))
			failed(t, name, "PartSeats of", p)(impl.PartSeats(r, 0, p))
			failed(t, name, "InsertSeat", p)(impl.InsertSeat(r, p, true))
			failed(t, name, "InsertSeat free", p)(impl.InsertSeat(r, p, false))
		}
	}
}

// TestBadSeats calls each function with seats that a Row does not have.
func TestBadSeats(t *testing.T) {
	for _, text := range []string{"line .x", "line xx", "line ..", "ring ...", "ring xxx", "ring .x..x", "line .x..x.", "line " + strings.Repeat(".x", 12), "ring " + strings.Repeat("x.", 12)} {
		r := row(text)
		for _, p := range noSeats(r.Seats) {
			failed(t, text, "SeatGap from", p)(impl.SeatGap(r, p, 0))
			failed(t, text, "SeatGap to", p)(impl.SeatGap(r, 0, p))
			failed(t, text, "SeatGap of", p)(impl.SeatGap(r, p, p))
			failed(t, text, "SeatNeighbors", p)(impl.SeatNeighbors(r, p))
			failed(t, text, "NearestTaken", p)(impl.NearestTaken(r, p))
			failed(t, text, "NearestFree", p)(impl.NearestFree(r, p))
			failed(t, text, "TakeSeat", p)(impl.TakeSeat(r, p))
			failed(t, text, "LeaveSeat", p)(impl.LeaveSeat(r, p))
			failed(t, text, "TurnSeats", p)(impl.TurnSeats(r, p))
			for _, many := range []int{2, 1, r.Seats} {
				failed(t, text, "PartSeats", p, many)(impl.PartSeats(r, p, many))
			}
		}
	}
}

func TestFreeSeats(t *testing.T) {
	for _, c := range []struct {
		text string
		want []int
	}{
		{"line ..", []int{0, 1}}, {"line xx", nil}, {"line x.", []int{1}}, {"ring xxx", nil}, {"ring ...", []int{0, 1, 2}}, {"ring .x.", []int{0, 2}}, {"line .x..x.", []int{0, 2, 3, 5}},
	} {
		if list, ok := impl.FreeSeats(row(c.text)); !slices.Equal(list, c.want) || !ok {
			t.Errorf("FreeSeats of %q: %v, %v", c.text, list, ok)
		}
	}
	for _, r := range manyRows() {
		if list, ok := impl.FreeSeats(r); !slices.Equal(list, theSeats(r, false)) || !ok {
			t.Errorf("FreeSeats of %q: %v, %v", shown(r), list, ok)
		}
	}
}

func TestSeatGap(t *testing.T) {
	for _, c := range []struct {
		text       string
		a, b, want int
	}{
		{"line ..", 0, 1, 1}, {"line ..", 1, 1, 0}, {"line .x..x.", 0, 5, 5}, {"line .x..x.", 4, 1, 3}, {"ring ...", 0, 2, 1}, {"ring ...", 0, 1, 1}, {"ring ...", 2, 1, 1},
		{"ring .x..", 0, 2, 2}, {"ring .x..", 3, 0, 1}, {"ring .x...", 0, 3, 2}, {"ring .x...", 4, 1, 2}, {"ring " + strings.Repeat(".", 24), 0, 12, 12}, {"ring " + strings.Repeat(".", 24), 13, 0, 11},
		{"line " + strings.Repeat(".", 24), 23, 0, 23}, {"ring " + strings.Repeat(".", 24), 23, 0, 1},
	} {
		if gap, ok := impl.SeatGap(row(c.text), c.a, c.b); gap != c.want || !ok {
			t.Errorf("SeatGap(%q, %d, %d) = %d, %v", c.text, c.a, c.b, gap, ok)
		}
	}
}

// TestGapsAreSteps holds gaps against the steps from neighbor to neighbor, in either order.
func TestGapsAreSteps(t *testing.T) {
	for seats := 2; seats <= impl.MaxSeats; seats++ {
		for _, r := range []impl.Row{{Seats: seats}, {Seats: seats, Ring: true}, {Seats: seats, Ring: true, Taken: []int{0, seats - 1}}} {
			if r.Ring && seats == 2 {
				continue
			}
			for a := range seats {
				for b, want := range stepsFrom(r, a) {
					gap, ok := impl.SeatGap(r, a, b)
					back, fine := impl.SeatGap(r, b, a)
					if gap != want || back != want || !ok || !fine {
						t.Fatalf("SeatGap(%q, %d, %d) = %d, %v, and back %d, %v", shown(r), a, b, gap, ok, back, fine)
					}
				}
			}
		}
	}
}

func TestSeatNeighbors(t *testing.T) {
	for _, c := range []struct {
		text string
		p    int
		want []int
	}{
		{"line ..", 0, []int{1}}, {"line ..", 1, []int{0}}, {"line ...", 1, []int{0, 2}}, {"line .x.", 2, []int{1}}, {"ring ...", 0, []int{1, 2}}, {"ring ...", 1, []int{0, 2}}, {"ring xxx", 2, []int{0, 1}},
		{"ring ....", 0, []int{1, 3}}, {"ring ....", 3, []int{0, 2}}, {"ring ....", 2, []int{1, 3}},
	} {
		if list, ok := impl.SeatNeighbors(row(c.text), c.p); !slices.Equal(list, c.want) || !ok {
			t.Errorf("SeatNeighbors(%q, %d) = %v, %v", c.text, c.p, list, ok)
		}
	}
	for _, r := range manyRows() {
		for p := range r.Seats {
			if list, ok := impl.SeatNeighbors(r, p); !slices.Equal(list, neighborsOf(r, p)) || !ok {
				t.Errorf("SeatNeighbors(%q, %d) = %v, %v", shown(r), p, list, ok)
			}
		}
	}
}

func TestRunsOf(t *testing.T) {
	for _, c := range []struct {
		text string
		want [][2]int
	}{
		{"line ..", [][2]int{{0, 2}}}, {"line xx", nil}, {"line .x", [][2]int{{0, 1}}}, {"line x.", [][2]int{{1, 1}}}, {"line .x..x.", [][2]int{{0, 1}, {2, 2}, {5, 1}}}, {"line x....x", [][2]int{{1, 4}}},
		{"ring ...", [][2]int{{0, 3}}}, {"ring xxx", nil}, {"ring .xx", [][2]int{{0, 1}}}, {"ring x..", [][2]int{{1, 2}}}, {"ring .x.", [][2]int{{2, 2}}}, {"ring ..x", [][2]int{{0, 2}}}, {"ring xx.", [][2]int{{2, 1}}},
		{"ring .x..x.", [][2]int{{2, 2}, {5, 2}}}, {"ring x..x.", [][2]int{{1, 2}, {4, 1}}}, {"ring ..x..", [][2]int{{3, 4}}}, {"ring x.x.x.", [][2]int{{1, 1}, {3, 1}, {5, 1}}},
		{"ring .x.x.x", [][2]int{{0, 1}, {2, 1}, {4, 1}}}, {"line " + strings.Repeat(".", 24), [][2]int{{0, 24}}}, {"ring " + strings.Repeat(".", 24), [][2]int{{0, 24}}}, {"ring x" + strings.Repeat(".", 23), [][2]int{{1, 23}}},
		{"ring " + strings.Repeat(".", 22) + "x.", [][2]int{{23, 23}}},
	} {
		if runs, ok := impl.RunsOf(row(c.text)); !slices.Equal(runs, c.want) || !ok {
			t.Errorf("RunsOf(%q) = %v, %v", c.text, runs, ok)
		}
	}
}

// TestRunsAreTheFreeSeats checks promise 2 for runs: together they have each free seat once, none goes on, and they ascend.
func TestRunsAreTheFreeSeats(t *testing.T) {
	for _, r := range manyRows() {
		runs, ok := impl.RunsOf(r)
		var all []int
		for i, run := range runs {
			for k := range run[1] {
				all = append(all, (run[0]+k)%r.Seats)
			}
			if run[1] < 1 || i > 0 && run[0] <= runs[i-1][0] || !r.Ring && run[0]+run[1] > r.Seats {
				t.Errorf("runs of %q: %v", shown(r), runs)
			}
			for _, beyond := range []int{run[0] - 1, run[0] + run[1]} {
				if r.Ring {
					beyond = (beyond + r.Seats) % r.Seats
				}
				if beyond >= 0 && beyond < r.Seats && run[1] < r.Seats && !slices.Contains(r.Taken, beyond) {
					t.Errorf("a run of %q goes on: %v", shown(r), runs)
				}
			}
			if run[1] == r.Seats && run[0] != 0 {
				t.Errorf("the run of %q begins at %d", shown(r), run[0])
			}
		}
		free, fine := impl.FreeSeats(r)
		slices.Sort(all)
		if !ok || !fine || !slices.Equal(all, free) {
			t.Errorf("runs of %q: %v, %v", shown(r), runs, ok)
		}
	}
}

func TestNearestTaken(t *testing.T) {
	for _, c := range []struct {
		text            string
		p, seat, gap    int
		other, otherGap int
	}{
		{"line .x..x.", 3, 4, 1, 3, 0}, {"line .x..x.", 1, 1, 0, 0, 1}, {"line .x..x.", 4, 4, 0, 3, 1}, {"line x..x..x", 0, 0, 0, 1, 1}, {"line x.x", 1, 0, 1, 1, 0},
		{"line x...x", 2, 0, 2, 2, 0}, {"ring x..x.", 4, 0, 1, 4, 0}, {"ring ..x.x.", 0, 2, 2, 0, 0}, {"ring .xxx", 2, 2, 0, 0, 2}, {"ring .xxx.", 2, 2, 0, 0, 2},
		{"ring x..", 2, 0, 1, 2, 0}, {"ring x..", 0, 0, 0, 1, 1}, {"ring xx.", 0, 0, 0, 2, 1}, {"line xxxxx.", 0, 0, 0, 5, 5}, {"ring xxxxx.", 0, 0, 0, 5, 1},
	} {
		r := row(c.text)
		if seat, gap, ok := impl.NearestTaken(r, c.p); seat != c.seat || gap != c.gap || !ok {
			t.Errorf("NearestTaken(%q, %d) = %d, %d, %v", c.text, c.p, seat, gap, ok)
		}
		if seat, gap, ok := impl.NearestFree(r, c.p); seat != c.other || gap != c.otherGap || !ok {
			t.Errorf("NearestFree(%q, %d) = %d, %d, %v", c.text, c.p, seat, gap, ok)
		}
	}
}

// nearest returns the one of some seats with the least number of steps, the least one of several, and its steps.
func nearest(steps []int, seats []int) (int, int) {
	best := seats[0]
	for _, q := range seats {
		if steps[q] < steps[best] {
			best = q
		}
	}
	return best, steps[best]
}

func TestNearestOfAll(t *testing.T) {
	for _, r := range manyRows() {
		for p := range r.Seats {
			steps := stepsFrom(r, p)
			for _, taken := range []bool{true, false} {
				find := impl.NearestFree
				if taken {
					find = impl.NearestTaken
				}
				seats := theSeats(r, taken)
				if len(seats) == 0 {
					failed(t, "nearest", shown(r), p, taken)(find(r, p))
					continue
				}
				want, steps := nearest(steps, seats)
				if seat, gap, ok := find(r, p); seat != want || gap != steps || !ok {
					t.Errorf("nearest of %q to %d (%v): %d, %d, %v", shown(r), p, taken, seat, gap, ok)
				}
			}
		}
	}
}

func TestLonelySeats(t *testing.T) {
	for _, c := range []struct {
		text string
		want []int
	}{
		{"line ..", []int{0, 1}}, {"line .x", nil}, {"line xx", nil}, {"line ..x", []int{0}}, {"line x..", []int{2}}, {"line .x..x.", nil}, {"line x...x", []int{2}}, {"line ..x...", []int{0, 4, 5}},
		{"ring ...", []int{0, 1, 2}}, {"ring ..x", nil}, {"ring xxx", nil}, {"ring x...", []int{2}}, {"ring .x..", []int{3}}, {"ring ..x...", []int{0, 4, 5}}, {"ring x.....", []int{2, 3, 4}}, {"ring .....x", []int{1, 2, 3}},
	} {
		if list, ok := impl.LonelySeats(row(c.text)); !slices.Equal(list, c.want) || !ok {
			t.Errorf("LonelySeats(%q) = %v, %v", c.text, list, ok)
		}
	}
}

// TestLonelySeatsAreFar checks promise 2 for lonely seats: free, no neighbor taken, and so at least 2 from the nearest taken one; and no other seat is.
func TestLonelySeatsAreFar(t *testing.T) {
	for _, r := range manyRows() {
		lonely, ok := impl.LonelySeats(r)
		if !ok || !slices.IsSorted(lonely) {
			t.Errorf("LonelySeats(%q) = %v, %v", shown(r), lonely, ok)
		}
		for p := range r.Seats {
			_, gap, far := impl.NearestTaken(r, p)
			if far != (len(r.Taken) > 0) {
				t.Errorf("NearestTaken(%q, %d): %v", shown(r), p, far)
			}
			alone := !slices.Contains(r.Taken, p) && !slices.ContainsFunc(neighborsOf(r, p), func(q int) bool { return slices.Contains(r.Taken, q) })
			if slices.Contains(lonely, p) != alone || far && alone != (gap >= 2) {
				t.Errorf("LonelySeats(%q) = %v, and %d has the gap %d", shown(r), lonely, p, gap)
			}
		}
	}
}

func TestTouchingPairs(t *testing.T) {
	for _, c := range []struct {
		text string
		want int
	}{
		{"line ..", 0}, {"line .x", 0}, {"line xx", 1}, {"line xxx", 2}, {"line x.x", 0}, {"line .x..x.", 0}, {"line xx.xxx", 3}, {"ring ...", 0}, {"ring x..", 0}, {"ring x.x", 1}, {"ring xx.", 1}, {"ring .xx", 1},
		{"ring xxx", 3}, {"ring xxxx", 4}, {"ring x..x", 1}, {"line x..x", 0}, {"ring x.x.", 0}, {"line " + strings.Repeat("x", 24), 23}, {"ring " + strings.Repeat("x", 24), 24},
	} {
		if pairs, ok := impl.TouchingPairs(row(c.text)); pairs != c.want || !ok {
			t.Errorf("TouchingPairs(%q) = %d, %v", c.text, pairs, ok)
		}
	}
	for _, r := range manyRows() {
		want := 0
		for _, p := range r.Taken {
			for _, q := range neighborsOf(r, p) {
				if p < q && slices.Contains(r.Taken, q) {
					want++
				}
			}
		}
		if pairs, ok := impl.TouchingPairs(r); pairs != want || !ok {
			t.Errorf("TouchingPairs(%q) = %d, %v", shown(r), pairs, ok)
		}
	}
}

// TestTakingAndLeaving takes each free seat and leaves it again, leaves each taken one and takes it again, and tries the other way round.
func TestTakingAndLeaving(t *testing.T) {
	for _, r := range manyRows() {
		for p := range r.Seats {
			there, back := impl.TakeSeat, impl.LeaveSeat
			want := []byte(shown(r))
			want[len("line ")+p] = 'x'
			if slices.Contains(r.Taken, p) {
				there, back = back, there
				want[len("line ")+p] = '.'
			}
			changed, ok := there(r, p)
			again, fine := back(changed, p)
			if !ok || !fine || !sameRow(changed, row(string(want))) || !sameRow(again, r) {
				t.Errorf("seat %d of %q: %v, %v, and back %v, %v", p, shown(r), changed, ok, again, fine)
			}
			failed(t, "the seat", p, "of", shown(r), "is so already")(back(r, p))
		}
	}
}

func TestMirrorSeats(t *testing.T) {
	for _, c := range [][2]string{
		{"line x.", "line .x"}, {"line .x..x.", "line .x..x."}, {"line xx...", "line ...xx"}, {"ring x..", "ring ..x"}, {"ring .x..", "ring ..x."}, {"ring ...", "ring ..."}, {"line xxx", "line xxx"},
	} {
		if r, ok := impl.MirrorSeats(row(c[0])); !sameRow(r, row(c[1])) || !ok {
			t.Errorf("MirrorSeats(%q) = %v, %v", c[0], r, ok)
		}
	}
}

func TestOtherSeats(t *testing.T) {
	for _, c := range [][2]string{
		{"line x.", "line .x"}, {"line ..", "line xx"}, {"line xx", "line .."}, {"line .x..x.", "line x.xx.x"}, {"ring ...", "ring xxx"}, {"ring xxx", "ring ..."}, {"ring x..", "ring .xx"},
	} {
		if r, ok := impl.OtherSeats(row(c[0])); !sameRow(r, row(c[1])) || !ok {
			t.Errorf("OtherSeats(%q) = %v, %v", c[0], r, ok)
		}
	}
}

// TestTwiceIsTheRowAgain mirrors all Rows twice, and takes the other seats twice.
func TestTwiceIsTheRowAgain(t *testing.T) {
	for _, r := range manyRows() {
		form, signs := shown(r)[:5], []byte(shown(r)[5:])
		for name, change := range map[string]func(impl.Row) (impl.Row, bool){"MirrorSeats": impl.MirrorSeats, "OtherSeats": impl.OtherSeats} {
			want := slices.Clone(signs)
			if name == "MirrorSeats" {
				slices.Reverse(want)
			} else {
				want = []byte(strings.NewReplacer("x", ".", ".", "x").Replace(string(signs)))
			}
			once, ok := change(r)
			twice, fine := change(once)
			if !ok || !fine || !sameRow(once, row(form+string(want))) || !sameRow(twice, r) {
				t.Errorf("%s of %q: %v, %v, and twice: %v, %v", name, shown(r), once, ok, twice, fine)
			}
		}
	}
}

func TestTurnSeats(t *testing.T) {
	for _, c := range []struct {
		text string
		by   int
		want string
	}{
		{"ring x..", 0, "ring x.."}, {"ring x..", 1, "ring .x."}, {"ring x..", 2, "ring ..x"}, {"ring x..x.", 1, "ring .x..x"}, {"ring x..x.", 2, "ring x.x.."}, {"ring x..x.", 4, "ring ..x.x"}, {"ring ....", 3, "ring ...."}, {"ring xxxx", 3, "ring xxxx"},
	} {
		if r, ok := impl.TurnSeats(row(c.text), c.by); !sameRow(r, row(c.want)) || !ok {
			t.Errorf("TurnSeats(%q, %d) = %v, %v", c.text, c.by, r, ok)
		}
	}
	for _, c := range []struct {
		text string
		by   int
	}{{"ring x..", 3}, {"ring x..", -1}, {"ring x..", 4}, {"line x..", 0}, {"line x..", 1}, {"line ..", 0}, {"ring " + strings.Repeat("x", 24), 24}, {"line " + strings.Repeat("x", 24), 23}} {
		failed(t, "TurnSeats", c.text, c.by)(impl.TurnSeats(row(c.text), c.by))
	}
}

func TestTurningThereAndBack(t *testing.T) {
	for _, r := range manyRows() {
		for by := range r.Seats {
			turned, ok := impl.TurnSeats(r, by)
			if !r.Ring {
				failed(t, "TurnSeats of a line", shown(r), by)(turned, ok)
				continue
			}
			signs := shown(r)[5:]
			back, fine := impl.TurnSeats(turned, (r.Seats-by)%r.Seats)
			if want := row("ring " + signs[r.Seats-by:] + signs[:r.Seats-by]); !ok || !fine || !sameRow(turned, want) || !sameRow(back, r) {
				t.Errorf("TurnSeats(%q, %d) = %v, %v, and back %v, %v", shown(r), by, turned, ok, back, fine)
			}
		}
	}
}

func TestJoinSeats(t *testing.T) {
	half := strings.Repeat("x..x", 3)
	for _, c := range [][3]string{
		{"line x.", "line ..x", "line x...x"}, {"line ..", "line ..", "line ...."}, {"line xx", "line xx", "line xxxx"}, {"line " + half, "line " + half, "line " + half + half},
		{"line " + strings.Repeat("x", 22), "line .x", "line " + strings.Repeat("x", 22) + ".x"}, {"line x.", "line " + half + strings.Repeat(".", 10), "line x." + half + strings.Repeat(".", 10)},
		{"line " + half, "line " + half[1:], "line " + half + half[1:]},
	} {
		if r, ok := impl.JoinSeats(row(c[0]), row(c[1])); !sameRow(r, row(c[2])) || !ok {
			t.Errorf("JoinSeats(%q, %q) = %v, %v", c[0], c[1], r, ok)
		}
	}
	for _, c := range [][2]string{
		{"ring x..", "line x.."}, {"line x..", "ring x.."}, {"ring x..", "ring x.."}, {"line " + half + ".", "line " + half}, {"line " + half, "line x" + half},
		{"line " + half + half, "line .."}, {"line ..", "line " + half + half}, {"line " + half + half, "line " + half + half}, {"line " + strings.Repeat("x", 23), "line xx"},
	} {
		failed(t, "JoinSeats", c[0], c[1])(impl.JoinSeats(row(c[0]), row(c[1])))
	}
}

func TestPartSeats(t *testing.T) {
	for _, c := range []struct {
		text        string
		first, many int
		want        string
	}{
		{"line .x", 0, 2, "line .x"}, {"line .x..x.", 0, 2, "line .x"}, {"line .x..x.", 4, 2, "line x."}, {"line .x..x.", 1, 4, "line x..x"}, {"line .x..x.", 0, 6, "line .x..x."},
		{"ring x..x.", 3, 3, "line x.x"}, {"ring x..x.", 4, 2, "line .x"}, {"ring x..x.", 0, 5, "line x..x."}, {"ring x..x.", 4, 5, "line .x..x"}, {"ring x..", 2, 2, "line .x"}, {"ring x..", 1, 3, "line ..x"},
		{"ring " + strings.Repeat("x", 23) + ".", 23, 24, "line ." + strings.Repeat("x", 23)},
	} {
		if r, ok := impl.PartSeats(row(c.text), c.first, c.many); !sameRow(r, row(c.want)) || !ok {
			t.Errorf("PartSeats(%q, %d, %d) = %v, %v", c.text, c.first, c.many, r, ok)
		}
	}
	for _, c := range []struct {
		text        string
		first, many int
	}{
		{"line .x", 1, 2}, {"line .x", 0, 3}, {"line .x", 0, 1}, {"line .x", 0, 0}, {"line .x", 1, 1}, {"line .x..x.", 5, 2}, {"line .x..x.", 1, 6}, {"line .x..x.", 2, 5}, {"line .x..x.", 0, 7},
		{"ring x..", 0, 4}, {"ring x..", 2, 4}, {"ring x..", 0, 1}, {"ring x..", 2, 1}, {"ring x..", 0, 0}, {"ring x..", 0, -1}, {"ring x..", 0, -2}, {"ring x..", 1, math.MaxInt}, {"ring x..", 1, math.MinInt},
		{"line x..", 1, math.MaxInt}, {"line x..", 1, math.MinInt}, {"ring x..", 0, 6}, {"line x..", 2, math.MaxInt - 1},
	} {
		failed(t, "PartSeats", c.text, c.first, c.many)(impl.PartSeats(row(c.text), c.first, c.many))
	}
}

// TestPartsHaveTheirSeats takes all parts of all Rows, and joins the two parts of a line to the line again.
func TestPartsHaveTheirSeats(t *testing.T) {
	for _, r := range manyRows() {
		signs := shown(r)[5:]
		for first := range r.Seats {
			for many := range r.Seats + 3 {
				part, ok := impl.PartSeats(r, first, many)
				if many < 2 || many > r.Seats || !r.Ring && first+many > r.Seats {
					failed(t, "PartSeats", shown(r), first, many)(part, ok)
				} else if want := row("line " + (signs + signs)[first:first+many]); !sameRow(part, want) || !ok {
					t.Errorf("PartSeats(%q, %d, %d) = %v, %v", shown(r), first, many, part, ok)
				}
			}
		}
		for at := 2; !r.Ring && at <= r.Seats-2; at++ {
			a, one := impl.PartSeats(r, 0, at)
			b, two := impl.PartSeats(r, at, r.Seats-at)
			joined, ok := impl.JoinSeats(a, b)
			if !one || !two || !ok || !sameRow(joined, r) {
				t.Errorf("%q in parts at %d: %v and %v, joined %v", shown(r), at, a, b, joined)
			}
		}
	}
}

func TestInsertSeat(t *testing.T) {
	for _, c := range []struct {
		text  string
		p     int
		taken bool
		want  string
	}{
		{"line .x..x.", 2, true, "line .xx..x."}, {"line x.", 0, false, "line .x."}, {"line x.", 0, true, "line xx."}, {"line x.", 2, true, "line x.x"}, {"line x.", 2, false, "line x.."}, {"line x.", 1, false, "line x.."},
		{"ring x..", 3, true, "ring x..x"}, {"ring x..", 0, false, "ring .x.."}, {"line " + strings.Repeat(".", 23), 23, true, "line " + strings.Repeat(".", 23) + "x"}, {"ring " + strings.Repeat(".", 23), 0, true, "ring x" + strings.Repeat(".", 23)},
	} {
		if r, ok := impl.InsertSeat(row(c.text), c.p, c.taken); !sameRow(r, row(c.want)) || !ok {
			t.Errorf("InsertSeat(%q, %d, %v) = %v, %v", c.text, c.p, c.taken, r, ok)
		}
	}
	for _, r := range manyRows() {
		for p := -1; p <= r.Seats+1; p++ {
			for _, taken := range []bool{false, true} {
				longer, ok := impl.InsertSeat(r, p, taken)
				if p < 0 || p > r.Seats || r.Seats == impl.MaxSeats {
					failed(t, "InsertSeat", shown(r), p, taken)(longer, ok)
					continue
				}
				sign := map[bool]string{false: ".", true: "x"}[taken]
				text := shown(r)
				if want := row(text[:5+p] + sign + text[5+p:]); !sameRow(longer, want) || !ok {
					t.Errorf("InsertSeat(%q, %d, %v) = %v, %v", text, p, taken, longer, ok)
				}
			}
		}
		for _, p := range []int{-1, r.Seats + 1, math.MaxInt, math.MinInt} {
			failed(t, "InsertSeat", shown(r), p)(impl.InsertSeat(r, p, true))
		}
	}
}

func TestRowTextThereAndBack(t *testing.T) {
	for _, text := range []string{"line ..", "line xx", "line .x..x.", "ring ...", "ring xxx", "ring x..x.", "line " + strings.Repeat(".x", 12), "ring " + strings.Repeat("x.", 12)} {
		if s, ok := impl.RowText(row(text)); s != text || !ok {
			t.Errorf("RowText of %q: %q, %v", text, s, ok)
		}
	}
	for _, r := range manyRows() {
		s, ok := impl.RowText(r)
		back, fine := impl.ParseRow(s)
		if !ok || !fine || s != shown(r) || !sameRow(back, r) {
			t.Errorf("%v has the text %q, %v, which is read as %v, %v", r, s, ok, back, fine)
		}
	}
}

func TestParseRowFails(t *testing.T) {
	for _, s := range []string{
		"", " ", "line", "line ", "ring ", "ring", "line x", "line .", "ring x", "ring ..", "ring xx", "line  ..", "line .. ", " line ..", "line ..\n", "line\t..", "Line ..", "LINE ..", "line X.", "line o.", "line .,", "line ..-",
		"line .x x", "line \x00.", "line .\xff", "ring ..:", "ring .x.\x00", "linex..", "ringx..", "..", "x.x", "...", "line line ..", "ring line ...", "line ring ...", "ring ring ...", "rong ...", "lin ...", "l ...", "row ...",
		"line " + strings.Repeat(".", 25), "ring " + strings.Repeat("x", 25), "line " + strings.Repeat(".", 1000000), strings.Repeat("x", 1000000), "line \u00b7\u00b7", "line 01", "ring 010", "ring x.y", "line 2 0", "line ./", "line w.",
	} {
		failed(t, fmt.Sprintf("ParseRow(%.40q)", s))(impl.ParseRow(s))
	}
}

// TestParseRowOfAllShortTexts reads all short lists of signs behind either word, and all texts with one other byte.
func TestParseRowOfAllShortTexts(t *testing.T) {
	pattern := regexp.MustCompile(`^(line [x.]{2,24}|ring [x.]{3,24})$`)
	for _, form := range []string{"line ", "ring ", "line", "ring  "} {
		list := []string{""}
		for range 6 {
			for _, signs := range list {
				r, ok := impl.ParseRow(form + signs)
				if want := pattern.MatchString(form + signs); want != ok || want && !sameRow(r, row(form+signs)) {
					t.Fatalf("ParseRow(%q) = %v, %v", form+signs, r, ok)
				}
			}
			var longer []string
			for _, signs := range list {
				for _, c := range ".x X" {
					longer = append(longer, signs+string(c))
				}
			}
			list = longer
		}
	}
	for _, text := range []string{"line .x.", "ring x.xx"} {
		for i := range len(text) {
			for c := range 256 {
				b := []byte(text)
				b[i] = byte(c)
				_, ok := impl.ParseRow(string(b))
				if fine := b[i] == text[i] || i >= 5 && (c == '.' || c == 'x'); ok != fine {
					t.Errorf("ParseRow(%q): %v", b, ok)
				}
			}
		}
	}
}

// rowCalls returns the results of all functions of chapter 2 for a Row and a number.
func rowCalls(r impl.Row, other impl.Row, p int) []string {
	return []string{
		told(impl.IsRow(r)), told(impl.FreeSeats(r)), told(impl.SeatGap(r, p, 0)), told(impl.SeatNeighbors(r, p)), told(impl.RunsOf(r)), told(impl.NearestTaken(r, p)), told(impl.NearestFree(r, p)),
		told(impl.LonelySeats(r)), told(impl.TouchingPairs(r)), told(impl.TakeSeat(r, p)), told(impl.LeaveSeat(r, p)), told(impl.MirrorSeats(r)), told(impl.TurnSeats(r, p)), told(impl.OtherSeats(r)),
		told(impl.JoinSeats(r, other)), told(impl.JoinSeats(other, r)), told(impl.PartSeats(r, p, 3)), told(impl.InsertSeat(r, p, true)), told(impl.InsertSeat(r, p, false)), told(impl.RowText(r)),
	}
}

// TestRowsAreNotModified calls all functions with a Taken that is the middle of a longer slice, twice, with the same results.
func TestRowsAreNotModified(t *testing.T) {
	for _, c := range []impl.Row{
		row("line .x..x."), row("ring .x..x."), row("ring xxx"), row("line .."), row("line x"), row("ring x....x.xx"), {Seats: 5, Taken: []int{3, 1}}, {Seats: 5, Ring: true, Taken: []int{1, 1, 7}}, {},
	} {
		whole := slices.Concat([]int{90, 91}, c.Taken, []int{92, 93, 94, 95})
		kept := slices.Clone(whole)
		r := impl.Row{Seats: c.Seats, Ring: c.Ring, Taken: whole[2 : 2+len(c.Taken)]}
		other := impl.Row{Seats: 20, Taken: r.Taken}
		for p := -1; p <= 6; p++ {
			first := rowCalls(r, other, p)
			if again := rowCalls(c, impl.Row{Seats: 20, Taken: c.Taken}, p); !slices.Equal(first, again) {
				t.Errorf("other results the second time: %v and %v", first, again)
			}
			if !slices.Equal(whole, kept) {
				t.Fatalf("a call with %v and %d changed its argument: %v", c, p, whole)
			}
		}
	}
}

// TestRowsShareNoMemory changes what was given to the functions and what they gave out, and expects that nothing else changes.
func TestRowsShareNoMemory(t *testing.T) {
	for _, text := range []string{"ring x..x.x", "ring xxxxxx", "ring ......"} {
		r := row(text)
		line := impl.Row{Seats: r.Seats, Taken: r.Taken}
		kept := slices.Clone(r.Taken)
		var lists [][]int
		keep := func(list []int, ok bool) { lists = append(lists, list) }
		keepRow := func(r impl.Row, ok bool) { lists = append(lists, r.Taken) }
		for range 2 {
			keep(impl.FreeSeats(r))
			keep(impl.SeatNeighbors(r, 0))
			keep(impl.LonelySeats(r))
			keepRow(impl.MirrorSeats(r))
			keepRow(impl.TurnSeats(r, 0))
			keepRow(impl.OtherSeats(r))
			keepRow(impl.PartSeats(r, 0, 6))
			keepRow(impl.InsertSeat(r, 6, false))
			keepRow(impl.TakeSeat(r, 1))
			keepRow(impl.LeaveSeat(r, 5))
			keepRow(impl.JoinSeats(line, impl.Row{Seats: 2}))
			keepRow(impl.JoinSeats(impl.Row{Seats: 2}, line))
			keepRow(impl.ParseRow(text))
		}
		for i, list := range lists {
			for j := range list[:cap(list)] {
				list[:cap(list)][j] = -i - 1
			}
		}
		for i, list := range lists {
			if slices.ContainsFunc(list, func(p int) bool { return p != -i-1 }) {
				t.Errorf("%q: the result %d shares memory with another one", text, i)
			}
		}
		if !slices.Equal(r.Taken, kept) {
			t.Errorf("%q: a result shares memory with the argument", text)
		}
	}
}
