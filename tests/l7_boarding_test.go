package tests

import (
	"fmt"
	"math"
	"math/big"
	"slices"
	"strings"
	"testing"

	"loop.example/g01167/impl"
)

// boarding tells of each row in which unit its traveler comes to each place up to the own row, and in which one it leaves that.
type boarding struct{ come, leave [][]int }

// boardingOf finds the units of a traveler when those of all before it are known: nobody overtakes in the aisle, so that a place is free again in the unit in which the last one before left it.
func boardingOf(s int, order []int) boarding {
	b := boarding{make([][]int, len(order)), make([][]int, len(order))}
	free := make([]int, len(order))
	for _, row := range order {
		unit := 0
		for place := range row + 1 {
			unit = max(unit+1, free[place])
			b.come[row] = append(b.come[row], unit)
		}
		b.leave[row] = append(slices.Clone(b.come[row][1:]), unit+s)
		copy(free, b.leave[row])
	}
	return b
}

func (b boarding) entered(row int) int { return b.come[row][0] }

func (b boarding) sat(row int) int { return b.leave[row][row] }

func (b boarding) waited(row int) int {
	units := 0
	for place := range row {
		units += b.leave[row][place] - b.come[row][place] - 1
	}
	return units
}

func (b boarding) time() int {
	last := 0
	for row := range b.come {
		last = max(last, b.sat(row))
	}
	return last
}

// aisle tells who stands at each place behind a unit.
func (b boarding) aisle(unit int) []int {
	rows := slices.Repeat([]int{-1}, len(b.come))
	for row := range b.come {
		for place := range row + 1 {
			if b.come[row][place] <= unit && unit < b.leave[row][place] {
				rows[place] = row
			}
		}
	}
	return rows
}

// eachRow tells of each row what a function tells of it.
func eachRow(n int, tell func(row int) int) []int {
	list := []int{}
	for row := range n {
		list = append(list, tell(row))
	}
	return list
}

// enterings returns all enterings of few rows, and some of more, each by another short rule.
func enterings(n int) [][]int {
	var list [][]int
	if n <= impl.MaxAll {
		orders(n, nil, func(order []int) { list = append(list, order) })
		return list
	}
	for _, way := range longSeatings(n, n) {
		list = append(list, way.seats)
	}
	return list
}

// someBoardings calls a function with all numbers of rows, all stowing times, and many enterings.
func someBoardings(each func(n int, s int, order []int)) {
	for n := 1; n <= impl.MaxPlaneRows; n++ {
		for _, order := range enterings(n) {
			for s := 1; s <= impl.MaxStow; s++ {
				each(n, s, order)
			}
		}
	}
}

// badEnterings returns lists that are no enterings of n rows.
func badEnterings(n int) [][]int {
	list := [][]int{
		nil, {}, ascending(n + 1), ascending(n)[:n-1], slices.Repeat([]int{0}, n+1), append(ascending(n), 0), append(ascending(n), n-1), append(ascending(n), -1), append(ascending(n), ascending(n)...), ascending(300), slices.Repeat([]int{n}, 100000),
	}
	for at := range n {
		for _, row := range append(noSeats(n), (at+1)%n, n+at) {
			if row == at {
				continue
			}
			order := ascending(n)
			order[at] = row
			list = append(list, order)
		}
	}
	return list
}

func TestIsEntering(t *testing.T) {
	for _, c := range []struct {
		n     int
		order string
		want  bool
	}{
		{1, "0", true}, {1, "1", false}, {1, "-1", false}, {1, "", false}, {1, "0 0", false}, {1, "0 1", false}, {2, "0 1", true}, {2, "1 0", true}, {2, "0 0", false}, {2, "1 1", false}, {2, "1 2", false}, {2, "0", false}, {2, "1", false}, {2, "0 -1", false}, {2, "0 1 0", false}, {2, "0 1 2", false},
		{3, "0 0 1", false}, {3, "2 0 1", true}, {3, "3 0 1", false}, {3, "0 1", false}, {3, "1 1 1", false}, {3, "0 2 1 0", false}, {4, "1 3 0 2", true}, {4, "1 3 1 1", false}, {4, "0 3 3 0", false}, {10, "9 1 7 3 5 4 6 2 8 0", true}, {10, "9 1 7 3 5 4 6 2 8", false}, {10, "9 1 7 3 5 4 6 2 8 8", false}, {10, "9 1 7 3 5 4 6 2 8 10", false}, {10, "9 1 7 3 5 4 6 2 8 0 10", false}, {9, "9 1 7 3 5 4 6 2 8", false},
	} {
		if is, ok := impl.IsEntering(c.n, numbers(c.order)); is != c.want || !ok {
			t.Errorf("IsEntering(%d, %q) = %v, %v", c.n, c.order, is, ok)
		}
	}
}

// TestEnteringsOfAllLists tries all short lists: those are enterings that are found as such.
func TestEnteringsOfAllLists(t *testing.T) {
	for n := 1; n <= 4; n++ {
		all := map[string]bool{}
		orders(n, nil, func(order []int) { all[fmt.Sprint(order)] = true })
		for length := range n + 2 {
			listsOf(length, -1, n, func(list []int) {
				if is, ok := impl.IsEntering(n, list); is != all[fmt.Sprint(list)] || !ok {
					t.Errorf("IsEntering(%d, %v) = %v, %v", n, list, is, ok)
				}
			})
		}
	}
}

func TestBoarding(t *testing.T) {
	for _, c := range []struct {
		s                           int
		order, entered, sat, waited string
		time                        int
	}{
		{1, "0", "1", "2", "0", 2}, {5, "0", "1", "6", "0", 6}, {1, "0 1", "1 2", "2 4", "0 0", 4}, {1, "1 0", "2 1", "3 3", "0 0", 3}, {5, "0 1", "1 6", "6 12", "0 0", 12}, {5, "1 0", "2 1", "7 7", "0 0", 7},
		{1, "0 1 2", "1 2 3", "2 4 6", "0 0 0", 6}, {1, "1 0 2", "2 1 3", "3 3 6", "0 0 0", 6}, {2, "0 1 2", "1 3 4", "3 6 9", "0 0 1", 9}, {2, "0 2 1", "1 4 3", "3 7 7", "0 0 0", 7}, {2, "1 0 2", "2 1 4", "4 4 8", "0 0 0", 8}, {2, "1 2 0", "4 1 2", "6 4 7", "0 0 1", 7}, {2, "2 0 1", "2 4 1", "4 7 5", "0 0 0", 7}, {2, "2 1 0", "3 2 1", "5 5 5", "0 0 0", 5},
		{5, "2 1 0", "3 2 1", "8 8 8", "0 0 0", 8}, {5, "1 2 0", "7 1 2", "12 7 13", "0 0 4", 13}, {5, "0 1 2", "1 6 7", "6 12 18", "0 0 4", 18}, {1, "1 2 3 0", "4 1 2 3", "5 3 5 7", "0 0 0 0", 7}, {3, "2 3 1 0", "6 3 1 2", "9 9 6 10", "0 2 0 2", 10},
	} {
		order := numbers(c.order)
		n := len(order)
		if time, ok := impl.BoardTime(n, c.s, order); time != c.time || !ok {
			t.Errorf("BoardTime(%d, %d, %v) = %d, %v", n, c.s, order, time, ok)
		}
		if units, ok := impl.EnterTimes(n, c.s, order); !slices.Equal(units, numbers(c.entered)) || !ok {
			t.Errorf("EnterTimes(%d, %d, %v) = %v, %v", n, c.s, order, units, ok)
		}
		if units, ok := impl.SitTimes(n, c.s, order); !slices.Equal(units, numbers(c.sat)) || !ok {
			t.Errorf("SitTimes(%d, %d, %v) = %v, %v", n, c.s, order, units, ok)
		}
		if units, ok := impl.WaitTimes(n, c.s, order); !slices.Equal(units, numbers(c.waited)) || !ok {
			t.Errorf("WaitTimes(%d, %d, %v) = %v, %v", n, c.s, order, units, ok)
		}
	}
}

// TestAisleAt compares the aisle behind each unit, from 0 on, and at last one when all sit.
func TestAisleAt(t *testing.T) {
	for _, c := range []struct {
		s            int
		order, aisle string
	}{
		{1, "0", "-1|0|-1|-1"}, {3, "0", "-1|0|0|0|-1"}, {5, "0", "-1|0|0|0|0|0|-1"}, {1, "0 1", "-1 -1|0 -1|1 -1|-1 1|-1 -1"}, {1, "1 0", "-1 -1|1 -1|0 1|-1 -1"}, {2, "0 1", "-1 -1|0 -1|0 -1|1 -1|-1 1|-1 1|-1 -1"},
		{2, "1 0 2", "-1 -1 -1|1 -1 -1|0 1 -1|0 1 -1|2 -1 -1|-1 2 -1|-1 -1 2|-1 -1 2|-1 -1 -1"}, {2, "0 1 2", "-1 -1 -1|0 -1 -1|0 -1 -1|1 -1 -1|2 1 -1|2 1 -1|-1 2 -1|-1 -1 2|-1 -1 2|-1 -1 -1"}, {2, "1 2 0", "-1 -1 -1|1 -1 -1|2 1 -1|2 1 -1|0 2 -1|0 -1 2|-1 -1 2|-1 -1 -1"}, {1, "2 1 0", "-1 -1 -1|2 -1 -1|1 2 -1|0 1 2|-1 -1 -1|-1 -1 -1"},
		{1, "1 2 3 0", "-1 -1 -1 -1|1 -1 -1 -1|2 1 -1 -1|3 2 -1 -1|0 3 2 -1|-1 -1 3 -1|-1 -1 -1 3|-1 -1 -1 -1"},
	} {
		order := numbers(c.order)
		for unit, aisle := range strings.Split(c.aisle, "|") {
			if rows, ok := impl.AisleAt(len(order), c.s, order, unit); !slices.Equal(rows, numbers(aisle)) || !ok {
				t.Errorf("AisleAt(%d, %d, %v, %d) = %v, %v", len(order), c.s, order, unit, rows, ok)
			}
		}
	}
}

// TestUnitsOfAllBoardings holds all functions of an entering against the units that are found traveler by traveler.
func TestUnitsOfAllBoardings(t *testing.T) {
	someBoardings(func(n int, s int, order []int) {
		b := boardingOf(s, order)
		if is, ok := impl.IsEntering(n, order); !is || !ok {
			t.Errorf("IsEntering(%d, %v) = %v, %v", n, order, is, ok)
		}
		if time, ok := impl.BoardTime(n, s, order); time != b.time() || !ok {
			t.Errorf("BoardTime(%d, %d, %v) = %d, %v", n, s, order, time, ok)
		}
		if units, ok := impl.SitTimes(n, s, order); !slices.Equal(units, eachRow(n, b.sat)) || !ok {
			t.Errorf("SitTimes(%d, %d, %v) = %v, %v", n, s, order, units, ok)
		}
		if units, ok := impl.EnterTimes(n, s, order); !slices.Equal(units, eachRow(n, b.entered)) || !ok {
			t.Errorf("EnterTimes(%d, %d, %v) = %v, %v", n, s, order, units, ok)
		}
		if units, ok := impl.WaitTimes(n, s, order); !slices.Equal(units, eachRow(n, b.waited)) || !ok {
			t.Errorf("WaitTimes(%d, %d, %v) = %v, %v", n, s, order, units, ok)
		}
		for unit := range b.time() + 3 {
			if rows, ok := impl.AisleAt(n, s, order, unit); !slices.Equal(rows, b.aisle(unit)) || !ok {
				t.Errorf("AisleAt(%d, %d, %v, %d) = %v, %v", n, s, order, unit, rows, ok)
			}
		}
	})
}

// TestSittingDown checks promise 7: the unit of sitting down is that of entering, the row, what was waited, and the stowing time together; the last one is the boarding time, and travelers enter one by one, in the order of the entering.
func TestSittingDown(t *testing.T) {
	someBoardings(func(n int, s int, order []int) {
		sat, _ := impl.SitTimes(n, s, order)
		entered, _ := impl.EnterTimes(n, s, order)
		waited, _ := impl.WaitTimes(n, s, order)
		for row := range n {
			if sat[row] != entered[row]+row+waited[row]+s || waited[row] < 0 {
				t.Errorf("%d, %d, %v: the traveler of row %d sits at %d, enters at %d, waits for %d", n, s, order, row, sat[row], entered[row], waited[row])
			}
		}
		before := 0
		for _, row := range order {
			if entered[row] <= before {
				t.Errorf("%d, %d, %v: EnterTimes are %v", n, s, order, entered)
			}
			before = entered[row]
		}
		if time, _ := impl.BoardTime(n, s, order); time != slices.Max(sat) || time < n+s || entered[order[0]] != 1 {
			t.Errorf("BoardTime(%d, %d, %v) = %d, but SitTimes are %v", n, s, order, time, sat)
		}
	})
}

// TestAisle checks promise 7: nobody stands at two places, nor goes by more than one in a unit, nor stays for another reason than waiting or stowing; all are outside behind the unit 0, and seated behind the last one.
func TestAisle(t *testing.T) {
	someBoardings(func(n int, s int, order []int) {
		name := fmt.Sprintf("AisleAt(%d, %d, %v)", n, s, order)
		time, _ := impl.BoardTime(n, s, order)
		sat, _ := impl.SitTimes(n, s, order)
		entered, _ := impl.EnterTimes(n, s, order)
		waited, _ := impl.WaitTimes(n, s, order)
		stayed := make([]int, n)
		old, _ := impl.AisleAt(n, s, order, 0)
		checkEmpty(t, name, n, old)
		for unit := 1; unit <= time; unit++ {
			rows, ok := impl.AisleAt(n, s, order, unit)
			if len(rows) != n || !ok {
				t.Fatalf("%s: %v, %v behind the unit %d", name, rows, ok, unit)
			}
			for row := range n {
				place, from := slices.Index(rows, row), slices.Index(old, row)
				if (place >= 0) != (entered[row] <= unit && unit < sat[row]) || place >= 0 && place-from != 0 && place-from != 1 || place > row || place >= 0 && slices.Contains(rows[place+1:], row) {
					t.Errorf("%s: the traveler of row %d goes from %d to %d in the unit %d, of %v", name, row, from, place, unit, rows)
				}
				if place >= 0 && place == from {
					stayed[row]++
				}
			}
			old = rows
		}
		for row := range n {
			// In the last unit of stowing the traveler does not stay, but sits down.
			if stayed[row] != waited[row]+s-1 {
				t.Errorf("%s: the traveler of row %d stays %d times, but waits %d times", name, row, stayed[row], waited[row])
			}
		}
		for _, unit := range []int{time, time + 1, time + 2, 2 * time, 1000000, math.MaxInt32 + 1, math.MaxInt - 1, math.MaxInt} {
			rows, ok := impl.AisleAt(n, s, order, unit)
			checkEmpty(t, name, n, rows)
			if before, _ := impl.AisleAt(n, s, order, time-1); !ok || slices.Max(before) < 0 {
				t.Errorf("%s: %v before the unit %d, %v", name, before, time, ok)
			}
		}
	})
}

func checkEmpty(t *testing.T, name string, n int, aisle []int) {
	t.Helper()
	if !slices.Equal(aisle, slices.Repeat([]int{-1}, n)) {
		t.Errorf("%s: somebody stands in %v", name, aisle)
	}
}

func TestGroupOrder(t *testing.T) {
	for _, c := range []struct {
		n, g int
		want string
	}{
		{1, 1, "0"}, {2, 1, "1 0"}, {2, 2, "0 1"}, {3, 1, "2 1 0"}, {3, 2, "1 2 0"}, {3, 3, "0 1 2"}, {4, 2, "2 3 0 1"}, {4, 3, "1 2 3 0"}, {5, 2, "3 4 1 2 0"}, {5, 3, "2 3 4 0 1"}, {5, 4, "1 2 3 4 0"}, {7, 3, "4 5 6 1 2 3 0"}, {8, 3, "5 6 7 2 3 4 0 1"}, {9, 3, "6 7 8 3 4 5 0 1 2"},
		{10, 1, "9 8 7 6 5 4 3 2 1 0"}, {10, 2, "8 9 6 7 4 5 2 3 0 1"}, {10, 3, "7 8 9 4 5 6 1 2 3 0"}, {10, 4, "6 7 8 9 2 3 4 5 0 1"}, {10, 5, "5 6 7 8 9 0 1 2 3 4"}, {10, 6, "4 5 6 7 8 9 0 1 2 3"}, {10, 9, "1 2 3 4 5 6 7 8 9 0"}, {10, 10, "0 1 2 3 4 5 6 7 8 9"},
	} {
		if order, ok := impl.GroupOrder(c.n, c.g); !slices.Equal(order, numbers(c.want)) || !ok {
			t.Errorf("GroupOrder(%d, %d) = %v, %v", c.n, c.g, order, ok)
		}
	}
}

// TestGroupsOfAllSizes sorts the rows by their groups, counted from the back, and calls the groups one by one.
func TestGroupsOfAllSizes(t *testing.T) {
	for n := 1; n <= impl.MaxPlaneRows; n++ {
		for g := 1; g <= n; g++ {
			want := ascending(n)
			slices.SortStableFunc(want, func(a int, b int) int { return (n-1-a)/g - (n-1-b)/g })
			order, ok := impl.GroupOrder(n, g)
			if !slices.Equal(order, want) || !ok {
				t.Errorf("GroupOrder(%d, %d) = %v, %v", n, g, order, ok)
			}
			if called, ok := impl.CallGroups(n, slices.Collect(slices.Chunk(order, g))); !slices.Equal(called, want) || !ok {
				t.Errorf("CallGroups of GroupOrder(%d, %d) = %v, %v", n, g, called, ok)
			}
		}
		for _, g := range append(noSeats(n+1), 0) {
			failed(t, "GroupOrder", n, g)(impl.GroupOrder(n, g))
		}
	}
}

// TestBackToFront checks promise 7: the boarding time is n + s, the least of all, and nobody waits.
func TestBackToFront(t *testing.T) {
	for n := 1; n <= impl.MaxPlaneRows; n++ {
		want := ascending(n)
		slices.Reverse(want)
		order, ok := impl.BackToFront(n)
		if !slices.Equal(order, want) || !ok {
			t.Errorf("BackToFront(%d) = %v, %v", n, order, ok)
		}
		for s := 1; s <= impl.MaxStow; s++ {
			if time, ok := impl.BoardTime(n, s, order); time != n+s || !ok {
				t.Errorf("BoardTime(%d, %d, %v) = %d, %v", n, s, order, time, ok)
			}
			if waited, ok := impl.WaitTimes(n, s, order); !slices.Equal(waited, make([]int, n)) || !ok {
				t.Errorf("WaitTimes(%d, %d, %v) = %v, %v", n, s, order, waited, ok)
			}
		}
	}
}

// TestFrontToBack checks promise 7: the boarding time is n times s, plus n.
func TestFrontToBack(t *testing.T) {
	for n := 1; n <= impl.MaxPlaneRows; n++ {
		order, ok := impl.FrontToBack(n)
		if !slices.Equal(order, ascending(n)) || !ok {
			t.Errorf("FrontToBack(%d) = %v, %v", n, order, ok)
		}
		for s := 1; s <= impl.MaxStow; s++ {
			if time, ok := impl.BoardTime(n, s, order); time != n*s+n || !ok {
				t.Errorf("BoardTime(%d, %d, %v) = %d, %v", n, s, order, time, ok)
			}
		}
	}
}

// groupsOf reads a text like "2|0 1||": what is between the signs is a group.
func groupsOf(text string) [][]int {
	var groups [][]int
	for _, group := range strings.Split(text, "|") {
		groups = append(groups, numbers(group))
	}
	return groups
}

func TestCallGroups(t *testing.T) {
	for _, c := range []struct {
		n            int
		groups, want string
	}{
		{1, "0", "0"}, {1, "|0|", "0"}, {2, "0 1", "0 1"}, {2, "1|0", "1 0"}, {3, "2|0 1", "2 0 1"}, {3, "|2||0 1|||", "2 0 1"}, {3, "1 0 2", "1 0 2"}, {3, "0|1|2", "0 1 2"}, {5, "4 0|2|3 1", "4 0 2 3 1"}, {10, "9 8 7|0 1 2|3 4 5 6", "9 8 7 0 1 2 3 4 5 6"}, {10, "0|1|2|3|4|5|6|7|8|9", "0 1 2 3 4 5 6 7 8 9"},
		{1, "0" + strings.Repeat("|", 5000), "0"}, {2, strings.Repeat("|", 5000) + "1|" + strings.Repeat("|", 5000) + "0", "1 0"},
	} {
		if order, ok := impl.CallGroups(c.n, groupsOf(c.groups)); !slices.Equal(order, numbers(c.want)) || !ok {
			t.Errorf("CallGroups(%d, %q) = %v, %v", c.n, c.groups, order, ok)
		}
	}
	if order, ok := impl.CallGroups(2, [][]int{nil, {0, 1}, nil}); told(order) != "[0 1]" || !ok {
		t.Errorf("with nil groups: %v, %v", order, ok)
	}
}

func TestCallGroupsFails(t *testing.T) {
	for _, c := range []struct {
		n      int
		groups string
	}{
		{1, ""}, {1, "||"}, {1, "1"}, {1, "-1"}, {1, "0 0"}, {1, "0|0"}, {1, "0|1"}, {1, "0|-1"}, {2, "0"}, {2, "|1|"}, {2, "0 0"}, {2, "1|1"}, {2, "0 1|0"}, {2, "0|1|1"}, {2, "2|0"}, {2, "0 1 2"}, {3, "2|0"}, {3, "2|0 2"}, {3, "2|0 3"}, {3, "2 2 2"}, {3, "2|0 1|2"}, {3, "2|0 1|3"}, {3, "0 1 2 0 1 2"}, {3, "-1|0|1|2"}, {3, "0 1 2|-1"},
		{9, "9 8 7|0 1 2|3 4 5 6"}, {10, "9 8 7|0 1 2|3 4 5"}, {10, "9 8 7|0 1 2|3 4 5 5"}, {10, "9 8 7|0 1 2|3 4 5 10"}, {10, "9 8 7|0 1 2|3 4 5 6|10"}, {2, "0 9223372036854775807"}, {2, "-9223372036854775808|0"},
	} {
		failed(t, "CallGroups", c.n, c.groups)(impl.CallGroups(c.n, groupsOf(c.groups)))
	}
	long := slices.Repeat([]int{0}, 1<<20)
	for n := 1; n <= impl.MaxPlaneRows; n++ {
		failed(t, "no groups", n)(impl.CallGroups(n, nil))
		failed(t, "no groups", n)(impl.CallGroups(n, [][]int{}))
		failed(t, "empty groups", n)(impl.CallGroups(n, make([][]int, 1000)))
		// So many numbers would have no room, and cannot be rows.
		failed(t, "long groups", n)(impl.CallGroups(n, slices.Repeat([][]int{long}, 1<<20)))
		for _, order := range badEnterings(n) {
			failed(t, "CallGroups", n, "a bad list")(impl.CallGroups(n, [][]int{order}))
			half := len(order) / 2
			failed(t, "CallGroups", n, "halves of a bad list")(impl.CallGroups(n, [][]int{order[:half], order[half:]}))
		}
	}
}

// TestGroupsOfAnEntering cuts enterings in two, at all places.
func TestGroupsOfAnEntering(t *testing.T) {
	for n := 1; n <= impl.MaxPlaneRows; n++ {
		for _, order := range enterings(n) {
			for cut := range n + 1 {
				if called, ok := impl.CallGroups(n, [][]int{order[:cut], order[cut:]}); !slices.Equal(called, order) || !ok {
					t.Errorf("CallGroups(%d) of %v, cut at %d: %v, %v", n, order, cut, called, ok)
				}
			}
		}
	}
}

func TestTimesOfAll(t *testing.T) {
	for _, c := range []struct {
		n, s, worst int
		first, mean string
		best        int
	}{
		{1, 1, 2, "0", "2/1", 1}, {1, 4, 5, "0", "5/1", 1}, {1, 5, 6, "0", "6/1", 1}, {2, 1, 4, "0 1", "7/2", 1}, {2, 2, 6, "0 1", "5/1", 1}, {2, 5, 12, "0 1", "19/2", 1}, {3, 1, 6, "0 1 2", "31/6", 1}, {3, 2, 9, "0 1 2", "43/6", 1},
	} {
		if worst, first, ok := impl.WorstTime(c.n, c.s); worst != c.worst || !slices.Equal(first, numbers(c.first)) || !ok {
			t.Errorf("WorstTime(%d, %d) = %d, %v, %v", c.n, c.s, worst, first, ok)
		}
		if mean, ok := impl.MeanTime(c.n, c.s); mean != fractions(c.mean)[0] || !ok {
			t.Errorf("MeanTime(%d, %d) = %v, %v", c.n, c.s, mean, ok)
		}
		if best, ok := impl.CountBest(c.n, c.s); best != c.best || !ok {
			t.Errorf("CountBest(%d, %d) = %d, %v", c.n, c.s, best, ok)
		}
	}
}

// TestAllEnterings checks promise 7: the boarding times of all enterings lie between n + s and WorstTime, whose entering is the first one that has it, and agree with MeanTime and CountBest.
func TestAllEnterings(t *testing.T) {
	for n := 1; n <= impl.MaxAll; n++ {
		for s := 1; s <= impl.MaxStow; s++ {
			worst, first, ok := impl.WorstTime(n, s)
			mean, fine := impl.MeanTime(n, s)
			best, good := impl.CountBest(n, s)
			if !ok || !fine || !good || worst < n*s+n {
				t.Errorf("WorstTime(%d, %d) = %d, %v, %v, %v", n, s, worst, ok, fine, good)
			}
			sum, many, least, greatest := 0, 0, 0, 0
			var has []int
			for _, order := range enterings(n) {
				time, _ := impl.BoardTime(n, s, order)
				if time < n+s || time > worst || time != boardingOf(s, order).time() {
					t.Errorf("BoardTime(%d, %d, %v) = %d, not in %d..%d", n, s, order, time, n+s, worst)
				}
				sum += time
				many++
				if time == n+s {
					least++
				}
				if time > greatest {
					greatest, has = time, order
				}
			}
			if worst != greatest || !slices.Equal(first, has) {
				t.Errorf("WorstTime(%d, %d) = %d, %v, not %d, %v", n, s, worst, first, greatest, has)
			}
			if mean != fractionOf(big.NewRat(int64(sum), int64(many))) {
				t.Errorf("MeanTime(%d, %d) = %v, not %d of %d", n, s, mean, sum, many)
			}
			if best != least || best < 1 {
				t.Errorf("CountBest(%d, %d) = %d, not %d", n, s, best, least)
			}
		}
	}
}

func TestSwapGain(t *testing.T) {
	for _, c := range []struct {
		s     int
		order string
		i     int
		want  int
	}{
		{1, "0 1", 0, 1}, {1, "1 0", 0, -1}, {5, "0 1", 0, 5}, {5, "1 0", 0, -5}, {2, "0 1 2", 0, 1}, {2, "0 1 2", 1, 2}, {2, "1 0 2", 1, 1}, {2, "2 1 0", 0, -2}, {2, "2 1 0", 1, -2}, {2, "1 2 0", 0, 2}, {2, "2 0 1", 0, 0}, {1, "0 1 2", 0, 0}, {1, "0 2 1", 0, 0},
	} {
		order := numbers(c.order)
		if gain, ok := impl.SwapGain(len(order), c.s, order, c.i); gain != c.want || !ok {
			t.Errorf("SwapGain(%d, %d, %v, %d) = %d, %v", len(order), c.s, order, c.i, gain, ok)
		}
	}
}

// TestSwapsOfAllEnterings checks promise 7: SwapGain is the difference of two boarding times, for each i of an entering, and it fails for all others.
func TestSwapsOfAllEnterings(t *testing.T) {
	someBoardings(func(n int, s int, order []int) {
		time, _ := impl.BoardTime(n, s, order)
		for i := range n - 1 {
			other := slices.Concat(order[:i], []int{order[i+1], order[i]}, order[i+2:])
			later, _ := impl.BoardTime(n, s, other)
			gain, ok := impl.SwapGain(n, s, order, i)
			back, fine := impl.SwapGain(n, s, other, i)
			if gain != time-later || back != -gain || !ok || !fine {
				t.Errorf("SwapGain(%d, %d, %v, %d) = %d, %v, of %d and %d; back: %d, %v", n, s, order, i, gain, ok, time, later, back, fine)
			}
		}
		for _, i := range append(noSeats(n), n-1) {
			failed(t, "SwapGain", n, s, order, i)(impl.SwapGain(n, s, order, i))
		}
	})
}

// checkNoBoarding expects that all functions fail that have a number of rows, a stowing time, and a list.
func checkNoBoarding(t *testing.T, n int, s int, order []int) {
	t.Helper()
	name := fmt.Sprintf("n = %d, s = %d, %d numbers: %v", n, s, len(order), order[:min(len(order), 30)])
	failed(t, name, "BoardTime")(impl.BoardTime(n, s, order))
	failed(t, name, "SitTimes")(impl.SitTimes(n, s, order))
	failed(t, name, "EnterTimes")(impl.EnterTimes(n, s, order))
	failed(t, name, "WaitTimes")(impl.WaitTimes(n, s, order))
	for _, number := range []int{0, 1, n - 2, n - 1, n, -1} {
		failed(t, name, "AisleAt", number)(impl.AisleAt(n, s, order, number))
		failed(t, name, "SwapGain", number)(impl.SwapGain(n, s, order, number))
	}
}

func TestBadEnterings(t *testing.T) {
	for n := 1; n <= impl.MaxPlaneRows; n++ {
		for _, order := range badEnterings(n) {
			if is, ok := impl.IsEntering(n, order); is || !ok {
				t.Errorf("IsEntering(%d, %v) = %v, %v", n, order, is, ok)
			}
			checkNoBoarding(t, n, 1, order)
			checkNoBoarding(t, n, impl.MaxStow, order)
		}
	}
}

func TestBadStowingTimes(t *testing.T) {
	for _, s := range []int{0, -1, -2, -impl.MaxStow, impl.MaxStow + 1, impl.MaxStow + 2, 100, math.MinInt, math.MaxInt, math.MinInt + 1, math.MaxInt - 1, 1 << 32, 1<<32 + 1} {
		for n := 1; n <= impl.MaxPlaneRows; n++ {
			checkNoBoarding(t, n, s, ascending(n))
			failed(t, "WorstTime", n, s)(impl.WorstTime(n, s))
			failed(t, "MeanTime", n, s)(impl.MeanTime(n, s))
			failed(t, "CountBest", n, s)(impl.CountBest(n, s))
		}
	}
}

// TestBadNumbersOfRows calls each function with a number of rows that is not valid, and other arguments that would do.
func TestBadNumbersOfRows(t *testing.T) {
	for _, n := range []int{0, -1, -2, -impl.MaxPlaneRows, impl.MaxPlaneRows + 1, impl.MaxPlaneRows + 2, 2 * impl.MaxPlaneRows, 64, math.MinInt, math.MaxInt, math.MinInt + 1, math.MaxInt - 1, 1 << 32, 1<<32 + 3} {
		for _, order := range [][]int{nil, {0}, {1, 0}, {2, 0, 1}, ascending(min(max(n, 0), 70)), ascending(impl.MaxPlaneRows)} {
			failed(t, "IsEntering", n, order)(impl.IsEntering(n, order))
			failed(t, "CallGroups", n, order)(impl.CallGroups(n, [][]int{order}))
			for s := range impl.MaxStow + 2 {
				checkNoBoarding(t, n, s, order)
			}
		}
		failed(t, "CallGroups", n)(impl.CallGroups(n, nil))
		failed(t, "BackToFront", n)(impl.BackToFront(n))
		failed(t, "FrontToBack", n)(impl.FrontToBack(n))
		for g := -1; g <= impl.MaxPlaneRows+2; g++ {
			failed(t, "GroupOrder", n, g)(impl.GroupOrder(n, g))
		}
		failed(t, "GroupOrder", n, n)(impl.GroupOrder(n, n))
		for s := range impl.MaxStow + 2 {
			checkNotAll(t, n, s)
		}
	}
}

func checkNotAll(t *testing.T, n int, s int) {
	t.Helper()
	failed(t, "WorstTime", n, s)(impl.WorstTime(n, s))
	failed(t, "MeanTime", n, s)(impl.MeanTime(n, s))
	failed(t, "CountBest", n, s)(impl.CountBest(n, s))
}

// TestTooManyRowsForAll calls the functions that are for at most MaxAll rows with more of them.
func TestTooManyRowsForAll(t *testing.T) {
	for n := impl.MaxAll + 1; n <= impl.MaxPlaneRows; n++ {
		for s := 1; s <= impl.MaxStow; s++ {
			checkNotAll(t, n, s)
		}
	}
}

func TestUnitsBelowZero(t *testing.T) {
	for n := 1; n <= impl.MaxPlaneRows; n++ {
		for s := 1; s <= impl.MaxStow; s++ {
			for _, unit := range []int{-1, -2, -n, -n - s, -1000, math.MinInt, math.MinInt + 1} {
				failed(t, "AisleAt", n, s, unit)(impl.AisleAt(n, s, ascending(n), unit))
			}
		}
	}
}

// boardingCalls returns the results of all functions of chapter 7.
func boardingCalls(n int, s int, order []int, groups [][]int, number int) []string {
	return []string{
		told(impl.IsEntering(n, order)), told(impl.BoardTime(n, s, order)), told(impl.SitTimes(n, s, order)), told(impl.EnterTimes(n, s, order)), told(impl.WaitTimes(n, s, order)), told(impl.AisleAt(n, s, order, number)), told(impl.BackToFront(n)),
		told(impl.FrontToBack(n)), told(impl.GroupOrder(n, number)), told(impl.CallGroups(n, groups)), told(impl.WorstTime(n, s)), told(impl.MeanTime(n, s)), told(impl.CountBest(n, s)), told(impl.SwapGain(n, s, order, number)),
	}
}

// TestEnteringsAreNotModified calls all functions with lists that are the middle of longer slices, the lists within a list, too, twice, with the same results.
func TestEnteringsAreNotModified(t *testing.T) {
	for _, c := range []struct {
		n, s          int
		order, groups string
	}{
		{1, 1, "0", "0"}, {2, 5, "1 0", "1|0"}, {3, 2, "1 0 2", "|2||0 1|"}, {3, 2, "1 1 2", "2|0 1|2"}, {3, 6, "2 0 1", "2 1|0"}, {4, 3, "3 0 2 1", "3 1|2 0"}, {5, 4, "0 1 2 3 4", "4|0|3|1|2"}, {3, 1, "2 1", "2 1"}, {2, 1, "5 -1", "7|-2"}, {0, 1, "", ""}, {10, 5, "9 1 7 3 5 4 6 2 8 0", "9 8 7|0 1 2|3 4 5 6"}, {11, 5, "9 1 7 3 5 4 6 2 8 0 10", "10 9 8 7|0 1 2|3 4 5 6"}, {10, 1, "0 1 2 3 4 5 6 7 8 9", "9 9 9|1|0"},
	} {
		order, whole := inside(numbers(c.order))
		outer := [][]int{{90, 91}}
		var wholes [][]int
		for _, group := range groupsOf(c.groups) {
			middle, all := inside(group)
			outer, wholes = append(outer, middle), append(wholes, all)
		}
		outer = append(outer, []int{92, 93}, []int{94})
		groups := outer[1 : len(outer)-2]
		kept := told(whole, wholes, outer)
		for number := -1; number <= c.n+1; number++ {
			first := boardingCalls(c.n, c.s, order, groups, number)
			if again := boardingCalls(c.n, c.s, numbers(c.order), groupsOf(c.groups), number); !slices.Equal(first, again) {
				t.Errorf("other results the second time: %v and %v", first, again)
			}
			if told(whole, wholes, outer) != kept {
				t.Fatalf("a call with %d, %d, %q, %q changed its arguments: %v %v %v", c.n, c.s, c.order, c.groups, whole, wholes, outer)
			}
		}
	}
}

// TestBoardingsShareNoMemory changes what the functions gave out, and expects that nothing else changes: neither the arguments, nor another result, nor what they give out later.
func TestBoardingsShareNoMemory(t *testing.T) {
	for n := 1; n <= impl.MaxPlaneRows; n++ {
		for s := 1; s <= impl.MaxStow; s++ {
			order := enterings(n)[0]
			// A single group is all of the entering, and might be given out as it is.
			groups := [][]int{order}
			kept, calls := told(order, groups), boardingCalls(n, s, order, groups, 1)
			var lists [][]int
			for range 2 {
				sat, _ := impl.SitTimes(n, s, order)
				entered, _ := impl.EnterTimes(n, s, order)
				waited, _ := impl.WaitTimes(n, s, order)
				aisle, _ := impl.AisleAt(n, s, order, 1)
				back, _ := impl.BackToFront(n)
				front, _ := impl.FrontToBack(n)
				some, _ := impl.GroupOrder(n, 1+n/2)
				called, _ := impl.CallGroups(n, groups)
				_, first, _ := impl.WorstTime(n, s)
				lists = append(lists, sat, entered, waited, aisle, back, front, some, called, first)
			}
			checkOwnMemory(t, fmt.Sprintf("n = %d, s = %d", n, s), lists, func(i int) int { return -i - 1 })
			if told(order, groups) != kept || !slices.Equal(boardingCalls(n, s, order, groups, 1), calls) {
				t.Errorf("n = %d, s = %d: a result shares memory with an argument, or with a later one", n, s)
			}
		}
	}
}
