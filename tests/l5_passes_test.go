package tests

import (
	"fmt"
	"math"
	"math/big"
	"slices"
	"strings"
	"testing"

	"loop.example/g01167/impl"
)

// planes returns all n up to a greatest one, each with all k in 0..n.
func planes(most int) [][2]int {
	var list [][2]int
	for n := 1; n <= most; n++ {
		for k := 0; k <= n; k++ {
			list = append(list, [2]int{n, k})
		}
	}
	return list
}

// taking is a seating that can come about, and its chance.
type taking struct {
	seats  []int
	chance *big.Rat
}

// seatsToTake returns the seats of which the next traveler takes one, when these are taken.
func seatsToTake(n int, k int, taken []int) []int {
	var free []int
	for seat := range n {
		if !slices.Contains(taken, seat) {
			free = append(free, seat)
		}
	}
	if next := len(taken); next >= k && slices.Contains(free, next) {
		return []int{next}
	}
	return free
}

// takings returns all seatings that can come about, found traveler by traveler.
func takings(n int, k int) []taking {
	list := []taking{{nil, big.NewRat(1, 1)}}
	for range n {
		var longer []taking
		for _, way := range list {
			free := seatsToTake(n, k, way.seats)
			for _, seat := range free {
				chance := new(big.Rat).Mul(way.chance, big.NewRat(1, int64(len(free))))
				longer = append(longer, taking{append(slices.Clone(way.seats), seat), chance})
			}
		}
		list = longer
	}
	return list
}

// flow tells of all ways in which the seats of a plane can be taken: how many they are, and the chance of each traveler to have the own seat, and of the last one to have each seat.
type flow struct {
	ways int
	own  []*big.Rat
	last []*big.Rat
}

// zeros returns so many sums to add to.
func zeros(n int) []*big.Rat {
	var list []*big.Rat
	for range n {
		list = append(list, new(big.Rat))
	}
	return list
}

// flowOf goes from traveler to traveler over the sets of taken seats, each a number with a binary digit for each seat, so that it can be used for all n.
func flowOf(n int, k int) flow {
	f := flow{own: zeros(n), last: zeros(n)}
	chances := map[int]*big.Rat{0: big.NewRat(1, 1)}
	ways := map[int]int{0: 1}
	for i := range n {
		nextChances, nextWays := map[int]*big.Rat{}, map[int]int{}
		for taken, chance := range chances {
			var free []int
			for seat := range n {
				if taken>>seat&1 == 0 {
					free = append(free, seat)
				}
			}
			if i >= k && taken>>i&1 == 0 {
				free = []int{i}
			}
			part := new(big.Rat).Mul(chance, big.NewRat(1, int64(len(free))))
			for _, seat := range free {
				next := taken | 1<<seat
				if nextChances[next] == nil {
					nextChances[next] = new(big.Rat)
				}
				nextChances[next].Add(nextChances[next], part)
				nextWays[next] += ways[taken]
				if seat == i {
					f.own[i].Add(f.own[i], part)
				}
				if i == n-1 {
					f.last[seat].Add(f.last[seat], part)
				}
			}
		}
		chances, ways = nextChances, nextWays
	}
	f.ways = ways[1<<n-1]
	return f
}

// digits reads a word as the list of its digits, of which a and b are 10 and 11.
func digits(word string) []int {
	list := []int{}
	for _, c := range word {
		list = append(list, strings.IndexRune("0123456789ab", c))
	}
	return list
}

// ascending returns the list 0, 1, ... of so many numbers.
func ascending(n int) []int {
	list := []int{}
	for i := range n {
		list = append(list, i)
	}
	return list
}

// longSeatings returns some possible seatings for n and k, each traveler taking a seat by another short rule.
func longSeatings(n int, k int) []taking {
	var list []taking
	for rule := range 40 {
		way := taking{nil, big.NewRat(1, 1)}
		for i := range n {
			free := seatsToTake(n, k, way.seats)
			at := (rule*(i+3) + rule/5*i*i) % len(free)
			if rule == 0 {
				at = len(free) - 1
			}
			way.seats = append(way.seats, free[at])
			way.chance.Mul(way.chance, big.NewRat(1, int64(len(free))))
		}
		list = append(list, way)
	}
	return list
}

// someSeatings calls a function with all possible seatings of small planes, and some of each greater one.
func someSeatings(each func(n int, k int, way taking)) {
	for _, p := range planes(impl.MaxTravelers) {
		list := longSeatings(p[0], p[1])
		if p[0] <= 6 {
			list = takings(p[0], p[1])
		}
		for _, way := range list {
			each(p[0], p[1], way)
		}
	}
}

func TestOwnChance(t *testing.T) {
	for _, c := range []struct {
		n, k int
		want string
	}{
		{1, 0, "1"}, {1, 1, "1"}, {2, 0, "1 1"}, {2, 1, "1/2 1/2"}, {2, 2, "1/2 1/2"}, {3, 0, "1 1 1"}, {3, 1, "1/3 2/3 1/2"}, {3, 2, "1/3 1/3 1/3"}, {3, 3, "1/3 1/3 1/3"}, {4, 1, "1/4 3/4 2/3 1/2"}, {4, 2, "1/4 1/4 1/2 1/3"},
		{7, 0, "1 1 1 1 1 1 1"}, {7, 1, "1/7 6/7 5/6 4/5 3/4 2/3 1/2"}, {7, 2, "1/7 1/7 5/7 2/3 3/5 1/2 1/3"}, {7, 5, "1/7 1/7 1/7 1/7 1/7 2/7 1/6"}, {7, 6, "1/7 1/7 1/7 1/7 1/7 1/7 1/7"}, {7, 7, "1/7 1/7 1/7 1/7 1/7 1/7 1/7"},
		{8, 0, "1 1 1 1 1 1 1 1"}, {8, 3, "1/8 1/8 1/8 5/8 4/7 1/2 2/5 1/4"}, {8, 8, "1/8 1/8 1/8 1/8 1/8 1/8 1/8 1/8"}, {12, 0, "1 1 1 1 1 1 1 1 1 1 1 1"}, {12, 1, "1/12 11/12 10/11 9/10 8/9 7/8 6/7 5/6 4/5 3/4 2/3 1/2"},
		{12, 4, "1/12 1/12 1/12 1/12 2/3 7/11 3/5 5/9 1/2 3/7 1/3 1/5"}, {12, 11, strings.Repeat("1/12 ", 12)}, {12, 12, strings.Repeat("1/12 ", 12)},
	} {
		for i, want := range fractions(c.want) {
			if chance, ok := impl.OwnChance(c.n, c.k, i); chance != want || !ok {
				t.Errorf("OwnChance(%d, %d, %d) = %v, %v", c.n, c.k, i, chance, ok)
			}
		}
		if table, ok := impl.OwnTable(c.n, c.k); c.n > impl.MaxTraced {
			failed(t, "OwnTable", c.n, c.k)(table, ok)
		} else if !slices.Equal(table, fractions(c.want)) || !ok {
			t.Errorf("OwnTable(%d, %d) = %v, %v", c.n, c.k, table, ok)
		}
	}
}

func TestWrongMean(t *testing.T) {
	for _, c := range []struct {
		n, k int
		want string
	}{
		{1, 0, "0"}, {1, 1, "0"}, {2, 0, "0"}, {2, 1, "1"}, {2, 2, "1"}, {3, 0, "0"}, {3, 1, "3/2"}, {3, 2, "2"}, {3, 3, "2"}, {4, 2, "8/3"}, {7, 0, "0"}, {7, 1, "49/20"}, {7, 7, "6"}, {8, 0, "0"}, {8, 1, "363/140"}, {8, 8, "7"}, {12, 0, "0"}, {12, 1, "83711/27720"}, {12, 11, "11"}, {12, 12, "11"},
	} {
		if mean, ok := impl.WrongMean(c.n, c.k); mean != fractions(c.want)[0] || !ok {
			t.Errorf("WrongMean(%d, %d) = %v, %v", c.n, c.k, mean, ok)
		}
	}
}

func TestCountSeatings(t *testing.T) {
	for _, c := range []struct{ n, k, want int }{
		{1, 0, 1}, {1, 1, 1}, {2, 0, 1}, {2, 1, 2}, {2, 2, 2}, {3, 0, 1}, {3, 1, 4}, {3, 2, 6}, {3, 3, 6}, {4, 1, 8}, {4, 2, 18}, {4, 3, 24}, {7, 0, 1}, {7, 1, 64}, {7, 2, 486}, {7, 3, 1536}, {7, 6, 5040}, {7, 7, 5040},
		{8, 0, 1}, {8, 1, 128}, {8, 4, 15000}, {8, 8, 40320}, {12, 0, 1}, {12, 1, 2048}, {12, 2, 118098}, {12, 6, 84707280}, {12, 10, 439084800}, {12, 11, 479001600}, {12, 12, 479001600},
	} {
		if count, ok := impl.CountSeatings(c.n, c.k); count != c.want || !ok {
			t.Errorf("CountSeatings(%d, %d) = %d, %v", c.n, c.k, count, ok)
		}
	}
}

func TestLastSeats(t *testing.T) {
	for _, c := range []struct {
		n, k int
		want string
	}{
		{1, 0, "1"}, {1, 1, "1"}, {2, 0, "0 1"}, {2, 1, "1/2 1/2"}, {2, 2, "1/2 1/2"}, {3, 0, "0 0 1"}, {3, 1, "1/2 0 1/2"}, {3, 2, "1/3 1/3 1/3"}, {3, 3, "1/3 1/3 1/3"}, {4, 2, "1/3 1/3 0 1/3"}, {7, 0, "0 0 0 0 0 0 1"}, {7, 1, "1/2 0 0 0 0 0 1/2"},
		{7, 5, "1/6 1/6 1/6 1/6 1/6 0 1/6"}, {7, 6, strings.Repeat("1/7 ", 7)}, {7, 7, strings.Repeat("1/7 ", 7)}, {8, 0, "0 0 0 0 0 0 0 1"}, {8, 3, "1/4 1/4 1/4 0 0 0 0 1/4"}, {8, 8, strings.Repeat("1/8 ", 8)},
		{12, 0, strings.Repeat("0 ", 11) + "1"}, {12, 1, "1/2 " + strings.Repeat("0 ", 10) + "1/2"}, {12, 10, strings.Repeat("1/11 ", 10) + "0 1/11"}, {12, 11, strings.Repeat("1/12 ", 12)}, {12, 12, strings.Repeat("1/12 ", 12)},
	} {
		if last, ok := impl.LastSeats(c.n, c.k); !slices.Equal(last, fractions(c.want)) || !ok {
			t.Errorf("LastSeats(%d, %d) = %v, %v", c.n, c.k, last, ok)
		}
	}
}

// TestChancesOfAllWays checks promise 5 for all n and k: all chances, and the number of seatings, are those of all ways in which the seats can be taken.
func TestChancesOfAllWays(t *testing.T) {
	one := big.NewRat(1, 1)
	for _, p := range planes(impl.MaxTravelers) {
		n, k := p[0], p[1]
		f := flowOf(n, k)
		table, ok := impl.OwnTable(n, k)
		if ok != (n <= impl.MaxTraced) || ok && len(table) != n {
			t.Fatalf("OwnTable(%d, %d) = %v, %v", n, k, table, ok)
		}
		wrong := new(big.Rat)
		for i, own := range f.own {
			chance, ok := impl.OwnChance(n, k, i)
			if !ok || ratOf(t, chance).Cmp(own) != 0 {
				t.Errorf("OwnChance(%d, %d, %d) = %v, %v", n, k, i, chance, ok)
			}
			if n <= impl.MaxTraced && table[i] != chance {
				t.Errorf("OwnTable(%d, %d) = %v, but traveler %d has the chance %v", n, k, table, i, chance)
			}
			wrong.Add(wrong, new(big.Rat).Sub(one, ratOf(t, chance)))
		}
		if mean, ok := impl.WrongMean(n, k); !ok || ratOf(t, mean).Cmp(wrong) != 0 {
			t.Errorf("WrongMean(%d, %d) = %v, %v", n, k, mean, ok)
		}
		if count, ok := impl.CountSeatings(n, k); count != f.ways || !ok {
			t.Errorf("CountSeatings(%d, %d) = %d, %v", n, k, count, ok)
		}
		last, ok := impl.LastSeats(n, k)
		if !ok || len(last) != n {
			t.Fatalf("LastSeats(%d, %d) = %v, %v", n, k, last, ok)
		}
		sum := new(big.Rat)
		for seat, chance := range last {
			sum.Add(sum, ratOf(t, chance))
			if ratOf(t, chance).Cmp(f.last[seat]) != 0 {
				t.Errorf("LastSeats(%d, %d) = %v", n, k, last)
			}
		}
		if own, _ := impl.OwnChance(n, k, n-1); last[n-1] != own || sum.Cmp(one) != 0 {
			t.Errorf("LastSeats(%d, %d) = %v, with the sum %v", n, k, last, sum)
		}
	}
}

func TestAllSeatings(t *testing.T) {
	for _, c := range []struct {
		n, k int
		want string
	}{
		{1, 0, "0"}, {1, 1, "0"}, {2, 0, "01"}, {2, 1, "01 10"}, {2, 2, "01 10"}, {3, 0, "012"}, {3, 1, "012 102 120 210"}, {3, 2, "012 021 102 120 201 210"}, {3, 3, "012 021 102 120 201 210"}, {4, 1, "0123 1023 1203 1230 1320 2103 2130 3120"}, {7, 0, "0123456"},
		{4, 2, "0123 0213 0231 0321 1023 1203 1230 1320 2013 2031 2103 2130 2301 2310 3021 3120 3201 3210"},
	} {
		var want [][]int
		for _, word := range strings.Fields(c.want) {
			want = append(want, digits(word))
		}
		if all, ok := impl.AllSeatings(c.n, c.k); !slices.EqualFunc(all, want, slices.Equal) || !ok {
			t.Errorf("AllSeatings(%d, %d) = %v, %v", c.n, c.k, all, ok)
		}
	}
}

// TestSeatingsOfAllWays checks promise 5 for all seatings: AllSeatings has each one that can come about, in lexicographic order, as many as CountSeatings says, and their chances have the sum 1 and give those of own seats.
func TestSeatingsOfAllWays(t *testing.T) {
	for _, p := range planes(impl.MaxTraced) {
		n, k := p[0], p[1]
		want := takings(n, k)
		all, ok := impl.AllSeatings(n, k)
		if count, _ := impl.CountSeatings(n, k); !ok || len(all) != len(want) || len(all) != count {
			t.Fatalf("AllSeatings(%d, %d) has %d seatings, %v, and CountSeatings tells %d", n, k, len(all), ok, count)
		}
		if !slices.IsSortedFunc(all, slices.Compare) {
			t.Errorf("AllSeatings(%d, %d) is not in order: %v", n, k, all)
		}
		slices.SortFunc(want, func(a taking, b taking) int { return slices.Compare(a.seats, b.seats) })
		sum, own := new(big.Rat), zeros(n)
		for at, seats := range all {
			is, ok := impl.IsPossible(n, k, seats)
			if !slices.Equal(seats, want[at].seats) || !is || !ok {
				t.Fatalf("AllSeatings(%d, %d) has %v, which is possible: %v, %v", n, k, seats, is, ok)
			}
			got, ok := impl.SeatingChance(n, k, seats)
			chance := ratOf(t, got)
			if !ok || chance.Cmp(want[at].chance) != 0 {
				t.Errorf("SeatingChance(%d, %d, %v) = %v, %v", n, k, seats, got, ok)
			}
			sum.Add(sum, chance)
			for i, seat := range seats {
				if seat == i {
					own[i].Add(own[i], chance)
				}
			}
		}
		if sum.Cmp(big.NewRat(1, 1)) != 0 {
			t.Errorf("the seatings of %d and %d have the chances %v", n, k, sum)
		}
		for i := range n {
			if got, ok := impl.OwnChance(n, k, i); got != fractionOf(own[i]) || !ok {
				t.Errorf("OwnChance(%d, %d, %d) = %v, %v, but its seatings have %v", n, k, i, got, ok, own[i])
			}
		}
	}
}

// listsOf calls a function with all lists of so many numbers in least..most.
func listsOf(length int, least int, most int, each func([]int)) {
	list := slices.Repeat([]int{least}, length)
	for {
		each(list)
		at := length - 1
		for at >= 0 && list[at] == most {
			list[at] = least
			at--
		}
		if at < 0 {
			return
		}
		list[at]++
	}
}

// checkPossible holds IsPossible against what is right, and expects that all other functions fail for a list that is not possible.
func checkPossible(t *testing.T, n int, k int, seats []int, right bool) {
	t.Helper()
	name := fmt.Sprintf("%d, %d, %.80s", n, k, fmt.Sprint(seats))
	if is, ok := impl.IsPossible(n, k, seats); is != right || !ok {
		t.Errorf("IsPossible(%s) = %v, %v", name, is, ok)
	}
	if right {
		return
	}
	failed(t, "SeatingChance", name)(impl.SeatingChance(n, k, seats))
	failed(t, "MovesOf", name)(impl.MovesOf(n, k, seats))
	failed(t, "FullCycles", name)(impl.FullCycles(n, k, seats))
	for _, i := range []int{0, k, n - 1} {
		failed(t, "TrailOf", name, i)(impl.TrailOf(n, k, seats, i))
		failed(t, "FreeWhen", name, i)(impl.FreeWhen(n, k, seats, i))
	}
}

// TestNoOtherListIsPossible goes over all short lists, also too short and too long ones and those with numbers that are no seats, and over all orders of more seats.
func TestNoOtherListIsPossible(t *testing.T) {
	for _, p := range planes(impl.MaxTraced) {
		n, k := p[0], p[1]
		right := map[string]bool{}
		for _, way := range takings(n, k) {
			right[fmt.Sprint(way.seats)] = true
		}
		check := func(list []int) { checkPossible(t, n, k, list, right[fmt.Sprint(list)]) }
		if n <= 4 {
			for length := range n + 2 {
				listsOf(length, -1, n, check)
			}
		} else if n == 5 {
			listsOf(n, 0, n-1, check)
		} else {
			orders(n, nil, check)
		}
	}
}

func TestIsPossible(t *testing.T) {
	for _, c := range []struct {
		n, k  int
		seats string
		want  bool
	}{
		{1, 0, "0", true}, {1, 1, "0", true}, {1, 1, "1", false}, {1, 0, "", false}, {1, 0, "00", false}, {1, 0, "01", false}, {2, 0, "10", false}, {2, 1, "10", true}, {2, 2, "10", true}, {2, 1, "11", false}, {2, 1, "00", false}, {3, 1, "201", false}, {3, 1, "021", false}, {3, 2, "021", true}, {3, 2, "201", true},
		{7, 1, "1234560", true}, {7, 1, "6123450", true}, {7, 1, "6123405", false}, {7, 1, "1234506", true}, {7, 1, "2130456", true}, {7, 1, "2310456", false}, {7, 2, "2013456", true}, {7, 2, "2301456", true}, {7, 2, "2310465", false}, {7, 7, "6543210", true}, {7, 6, "6543210", true}, {7, 5, "6543201", true}, {7, 5, "6432105", false}, {7, 5, "6432150", true},
		{7, 0, "0123456", true}, {7, 0, "0123465", false}, {7, 7, "654321", false}, {7, 7, "65432107", false}, {7, 7, "6543211", false}, {7, 7, "7543210", false}, {8, 1, "12345670", true}, {8, 1, "72345601", false}, {8, 1, "71234560", true}, {8, 1, "71234506", false}, {8, 8, "76543210", true}, {12, 12, "ba9876543210", true}, {12, 11, "ba9876543210", true}, {12, 10, "ba9876543210", true}, {12, 1, "ba9876543210", false},
		{12, 10, "ba9876543201", true}, {12, 1, "123456789ab0", true}, {12, 1, "b123456789a0", true}, {12, 1, "b1234567890a", false}, {12, 0, "0123456789ab", true}, {12, 0, "0123456789ba", false}, {12, 12, "ba987654321", false}, {12, 12, "ba98765432100", false}, {12, 12, "ba9876543211", false}, {12, 3, "543012867a9b", false}, {12, 3, "543012678b9a", false},
	} {
		checkPossible(t, c.n, c.k, digits(c.seats), c.want)
	}
	for _, k := range []int{0, 1, 2, 3} {
		for _, seats := range [][]int{nil, {}, {0, 1, 3}, {0, 1, -1}, {-1, 1, 2}, {3, 1, 2}, {0, 1, math.MinInt}, {math.MaxInt, 1, 2}, {math.MinInt, math.MinInt, math.MinInt}, {0, 1, 2, 3}, {0, 1, 2, -1}, {1, 1, 1}, {2, 2, 0}, {0, 1}, make([]int, 1000000)} {
			checkPossible(t, 3, k, seats, false)
		}
	}
}

// TestLeftSeatIsNotPossible moves a traveler with a pass, whose own seat is free, to each other free seat.
func TestLeftSeatIsNotPossible(t *testing.T) {
	someSeatings(func(n int, k int, way taking) {
		for i := k; i < n; i++ {
			if way.seats[i] != i {
				continue
			}
			for j := i + 1; j < n; j++ {
				other := slices.Clone(way.seats)
				other[i], other[j] = other[j], other[i]
				checkPossible(t, n, k, other, false)
			}
		}
	})
}

func TestSeatingChance(t *testing.T) {
	for _, c := range []struct {
		n, k        int
		seats, want string
	}{
		{1, 0, "0", "1"}, {1, 1, "0", "1"}, {2, 0, "01", "1"}, {2, 1, "01", "1/2"}, {2, 1, "10", "1/2"}, {2, 2, "10", "1/2"}, {3, 1, "120", "1/6"}, {3, 1, "012", "1/3"}, {3, 1, "210", "1/3"}, {3, 1, "102", "1/6"}, {3, 2, "120", "1/6"}, {3, 3, "120", "1/6"}, {4, 2, "0123", "1/12"}, {4, 2, "2301", "1/24"},
		{7, 0, "0123456", "1"}, {7, 1, "0123456", "1/7"}, {7, 1, "6123450", "1/7"}, {7, 1, "1234560", "1/5040"}, {7, 2, "0123456", "1/42"}, {7, 7, "0123456", "1/5040"}, {8, 1, "12345670", "1/40320"}, {8, 8, "76543210", "1/40320"}, {8, 2, "01234567", "1/56"}, {12, 0, "0123456789ab", "1"},
		{12, 1, "123456789ab0", "1/479001600"}, {12, 1, "b123456789a0", "1/12"}, {12, 12, "ba9876543210", "1/479001600"}, {12, 11, "ba9876543210", "1/479001600"}, {12, 6, "0123456789ab", "1/665280"},
	} {
		if chance, ok := impl.SeatingChance(c.n, c.k, digits(c.seats)); chance != fractions(c.want)[0] || !ok {
			t.Errorf("SeatingChance(%d, %d, %s) = %v, %v", c.n, c.k, c.seats, chance, ok)
		}
	}
	someSeatings(func(n int, k int, way taking) {
		checkPossible(t, n, k, way.seats, true)
		if chance, ok := impl.SeatingChance(n, k, way.seats); chance != fractionOf(way.chance) || !ok {
			t.Errorf("SeatingChance(%d, %d, %v) = %v, %v", n, k, way.seats, chance, ok)
		}
	})
}

func TestMovesOf(t *testing.T) {
	for _, c := range []struct {
		n, k  int
		seats string
		want  [][2]int
	}{
		{1, 0, "0", nil}, {1, 1, "0", nil}, {2, 1, "01", nil}, {2, 1, "10", [][2]int{{0, 1}, {1, 0}}}, {3, 1, "120", [][2]int{{0, 1}, {1, 2}, {2, 0}}}, {3, 1, "210", [][2]int{{0, 2}, {2, 0}}}, {3, 3, "012", nil}, {7, 0, "0123456", nil}, {7, 3, "0213456", [][2]int{{1, 2}, {2, 1}}},
		{7, 7, "0123465", [][2]int{{5, 6}, {6, 5}}}, {12, 1, "b123456789a0", [][2]int{{0, 11}, {11, 0}}}, {12, 2, "a123456789b0", [][2]int{{0, 10}, {10, 11}, {11, 0}}},
	} {
		if moves, ok := impl.MovesOf(c.n, c.k, digits(c.seats)); !slices.Equal(moves, c.want) || !ok {
			t.Errorf("MovesOf(%d, %d, %s) = %v, %v", c.n, c.k, c.seats, moves, ok)
		}
	}
	someSeatings(func(n int, k int, way taking) {
		moves, ok := impl.MovesOf(n, k, way.seats)
		rest := ascending(n)
		for at, move := range moves {
			if at > 0 && moves[at-1][0] >= move[0] || move[0] == move[1] {
				t.Errorf("MovesOf(%d, %d, %v) = %v", n, k, way.seats, moves)
			}
			rest[move[0]] = move[1]
		}
		if !ok || !slices.Equal(rest, way.seats) {
			t.Errorf("MovesOf(%d, %d, %v) = %v, %v", n, k, way.seats, moves, ok)
		}
	})
}

func TestTrailOf(t *testing.T) {
	for _, c := range []struct {
		n, k  int
		seats string
		seat  int
		want  string
	}{
		{1, 0, "0", 0, "0"}, {1, 1, "0", 0, "0"}, {2, 1, "10", 0, "10"}, {2, 1, "10", 1, "0"}, {2, 2, "10", 0, "1"}, {2, 2, "10", 1, "0"}, {2, 0, "01", 1, "1"}, {3, 1, "120", 0, "210"}, {3, 1, "120", 1, "0"}, {3, 1, "120", 2, "10"}, {3, 2, "120", 0, "21"}, {3, 3, "120", 0, "2"}, {3, 1, "012", 0, "0"}, {3, 1, "012", 2, "2"},
		{7, 1, "1234560", 0, "6543210"}, {7, 1, "1234560", 6, "543210"}, {7, 1, "1234560", 1, "0"}, {7, 4, "1234560", 0, "6543"}, {7, 7, "1234560", 0, "6"}, {7, 1, "6123450", 0, "60"}, {7, 1, "6123450", 3, "3"}, {12, 1, "123456789ab0", 0, "ba9876543210"}, {12, 12, "123456789ab0", 0, "b"}, {12, 1, "b123456789a0", 11, "0"},
		{12, 2, "a123456789b0", 0, "ba0"}, {12, 2, "a123456789b0", 11, "a0"}, {12, 2, "a123456789b0", 1, "1"},
	} {
		if trail, ok := impl.TrailOf(c.n, c.k, digits(c.seats), c.seat); !slices.Equal(trail, digits(c.want)) || !ok {
			t.Errorf("TrailOf(%d, %d, %s, %d) = %v, %v", c.n, c.k, c.seats, c.seat, trail, ok)
		}
	}
}

// TestTrailsEnd follows all trails: each traveler took the seat, or the own seat of the one before, and only the last one had lost the pass or took the own seat.
func TestTrailsEnd(t *testing.T) {
	someSeatings(func(n int, k int, way taking) {
		for seat := range n {
			trail, ok := impl.TrailOf(n, k, way.seats, seat)
			if !ok || len(trail) == 0 {
				t.Fatalf("TrailOf(%d, %d, %v, %d) = %v, %v", n, k, way.seats, seat, trail, ok)
			}
			wanted := seat
			for at, i := range trail {
				ends := i < k || way.seats[i] == i
				if way.seats[i] != wanted || ends != (at == len(trail)-1) {
					t.Errorf("TrailOf(%d, %d, %v, %d) = %v", n, k, way.seats, seat, trail)
				}
				wanted = i
			}
		}
	})
}

func TestFreeWhen(t *testing.T) {
	for _, c := range []struct {
		n, k  int
		seats string
		i     int
		want  string
	}{
		{1, 0, "0", 0, "0"}, {1, 1, "0", 0, "0"}, {2, 1, "10", 0, "01"}, {2, 1, "10", 1, "0"}, {2, 0, "01", 1, "1"}, {3, 1, "120", 0, "012"}, {3, 1, "120", 1, "02"}, {3, 1, "120", 2, "0"}, {4, 2, "3210", 1, "012"}, {4, 2, "3201", 2, "01"}, {4, 2, "3210", 3, "0"}, {7, 7, "6543210", 0, "0123456"}, {7, 7, "6543210", 6, "0"}, {7, 7, "6543210", 3, "0123"},
		{7, 3, "6423510", 3, "0135"}, {7, 3, "6423510", 4, "015"}, {7, 3, "6423510", 5, "01"}, {12, 1, "b123456789a0", 0, "0123456789ab"}, {12, 1, "b123456789a0", 1, "0123456789a"}, {12, 1, "b123456789a0", 11, "0"}, {12, 0, "0123456789ab", 6, "6789ab"},
	} {
		if free, ok := impl.FreeWhen(c.n, c.k, digits(c.seats), c.i); !slices.Equal(free, digits(c.want)) || !ok {
			t.Errorf("FreeWhen(%d, %d, %s, %d) = %v, %v", c.n, c.k, c.seats, c.i, free, ok)
		}
	}
}

// TestFreeSeatsOfLateTravelers checks the guarantee of chapter 5: what is free for a traveler with a pass, but the seats of those who come later or just then, are at most k seats of those who lost their passes.
func TestFreeSeatsOfLateTravelers(t *testing.T) {
	someSeatings(func(n int, k int, way taking) {
		for i := range n {
			free, ok := impl.FreeWhen(n, k, way.seats, i)
			rest := slices.Sorted(slices.Values(way.seats[i:]))
			if !ok || !slices.Equal(free, rest) {
				t.Errorf("FreeWhen(%d, %d, %v, %d) = %v, %v", n, k, way.seats, i, free, ok)
			}
			early := slices.DeleteFunc(free, func(seat int) bool { return seat >= i })
			if i >= k && (len(early) > k || slices.ContainsFunc(early, func(seat int) bool { return seat >= k })) {
				t.Errorf("FreeWhen(%d, %d, %v, %d) has %v", n, k, way.seats, i, early)
			}
		}
	})
}

func TestFullCycles(t *testing.T) {
	for _, c := range []struct {
		n, k  int
		seats string
		want  int
	}{
		{1, 0, "0", 0}, {1, 1, "0", 0}, {2, 0, "01", 0}, {2, 1, "10", 1}, {2, 2, "10", 1}, {2, 2, "01", 0}, {3, 1, "120", 1}, {3, 1, "210", 1}, {3, 1, "012", 0}, {4, 2, "2301", 2}, {4, 2, "1023", 1}, {4, 4, "1032", 2}, {4, 4, "1230", 1}, {7, 7, "1032546", 3}, {7, 3, "3451206", 1}, {7, 3, "3450126", 3}, {7, 7, "1204536", 2},
		{7, 0, "0123456", 0}, {12, 12, "1032547698ba", 6}, {12, 6, "6789ab012345", 6}, {12, 1, "123456789ab0", 1}, {12, 12, "120453786ab9", 4}, {12, 12, "ba9876543210", 6}, {12, 12, "0123456789ab", 0},
	} {
		if cycles, ok := impl.FullCycles(c.n, c.k, digits(c.seats)); cycles != c.want || !ok {
			t.Errorf("FullCycles(%d, %d, %s) = %d, %v", c.n, c.k, c.seats, cycles, ok)
		}
	}
	someSeatings(func(n int, k int, way taking) {
		want := 0
		for i := range n {
			// A cycle is counted at the least of its travelers.
			least, j := i, way.seats[i]
			for ; j != i; j = way.seats[j] {
				least = min(least, j)
			}
			if least == i && way.seats[i] != i {
				want++
			}
		}
		if cycles, ok := impl.FullCycles(n, k, way.seats); cycles != want || cycles > k || !ok {
			t.Errorf("FullCycles(%d, %d, %v) = %d, %v", n, k, way.seats, cycles, ok)
		}
	})
}

// badPlanes returns pairs of which n or k is not valid.
func badPlanes() [][2]int {
	var list [][2]int
	for _, n := range []int{0, -1, -2, -impl.MaxTravelers, impl.MaxTravelers + 1, impl.MaxTravelers + 2, 24, 64, math.MinInt, math.MaxInt, math.MinInt + 1, math.MaxInt - 1} {
		for _, k := range []int{0, 1, 2, n - 1, n, n + 1, -1, impl.MaxTravelers, math.MinInt, math.MaxInt} {
			list = append(list, [2]int{n, k})
		}
	}
	for n := 1; n <= impl.MaxTravelers; n++ {
		for _, k := range []int{-1, -2, -n, -n - 1, n + 1, n + 2, 2*n + 1, impl.MaxTravelers + 1, math.MinInt, math.MaxInt, math.MinInt + 1, math.MaxInt - 1} {
			list = append(list, [2]int{n, k})
		}
	}
	return list
}

// TestBadPlanes calls each function with n and k that are not valid, and other arguments that would do.
func TestBadPlanes(t *testing.T) {
	for _, p := range badPlanes() {
		n, k := p[0], p[1]
		name := fmt.Sprintf("n = %d, k = %d", n, k)
		failed(t, name, "OwnTable")(impl.OwnTable(n, k))
		failed(t, name, "WrongMean")(impl.WrongMean(n, k))
		failed(t, name, "CountSeatings")(impl.CountSeatings(n, k))
		failed(t, name, "AllSeatings")(impl.AllSeatings(n, k))
		failed(t, name, "LastSeats")(impl.LastSeats(n, k))
		for _, i := range []int{0, 1, n - 1, k, k - 1, -1, n} {
			failed(t, name, "OwnChance", i)(impl.OwnChance(n, k, i))
		}
		for _, seats := range [][]int{ascending(min(max(n, 0), 70)), {0}, {1, 0}, nil} {
			failed(t, name, "IsPossible", seats)(impl.IsPossible(n, k, seats))
			failed(t, name, "SeatingChance", seats)(impl.SeatingChance(n, k, seats))
			failed(t, name, "MovesOf", seats)(impl.MovesOf(n, k, seats))
			failed(t, name, "FullCycles", seats)(impl.FullCycles(n, k, seats))
			for _, i := range []int{0, 1, n - 1, -1, n} {
				failed(t, name, "TrailOf", seats, i)(impl.TrailOf(n, k, seats, i))
				failed(t, name, "FreeWhen", seats, i)(impl.FreeWhen(n, k, seats, i))
			}
		}
	}
}

// TestUntracedPlanes calls the functions that are for at most MaxTraced travelers with more of them.
func TestUntracedPlanes(t *testing.T) {
	for _, p := range planes(impl.MaxTravelers) {
		n, k := p[0], p[1]
		table, fine := impl.OwnTable(n, k)
		all, ok := impl.AllSeatings(n, k)
		if n > impl.MaxTraced {
			failed(t, "OwnTable", n, k)(table, fine)
			failed(t, "AllSeatings", n, k)(all, ok)
		} else if !fine || !ok {
			t.Errorf("OwnTable(%d, %d) or AllSeatings fails", n, k)
		}
	}
}

func TestOtherTravelersAndSeats(t *testing.T) {
	for _, p := range planes(impl.MaxTravelers) {
		n, k := p[0], p[1]
		seats := longSeatings(n, k)[7].seats
		for _, i := range append(noSeats(n), impl.MaxTravelers, impl.MaxTravelers+1) {
			if i >= 0 && i < n {
				t.Fatalf("%d is a traveler of %d", i, n)
			}
			failed(t, "OwnChance", n, k, i)(impl.OwnChance(n, k, i))
			failed(t, "TrailOf", n, k, seats, i)(impl.TrailOf(n, k, seats, i))
			failed(t, "FreeWhen", n, k, seats, i)(impl.FreeWhen(n, k, seats, i))
		}
	}
}

// passCalls returns the results of all functions of chapter 5.
func passCalls(n int, k int, seats []int, i int) []string {
	return []string{
		told(impl.OwnChance(n, k, i)), told(impl.OwnTable(n, k)), told(impl.WrongMean(n, k)), told(impl.IsPossible(n, k, seats)), told(impl.SeatingChance(n, k, seats)), told(impl.CountSeatings(n, k)), told(impl.AllSeatings(n, k)),
		told(impl.LastSeats(n, k)), told(impl.MovesOf(n, k, seats)), told(impl.TrailOf(n, k, seats, i)), told(impl.FreeWhen(n, k, seats, i)), told(impl.FullCycles(n, k, seats)),
	}
}

// TestSeatingsAreNotModified calls all functions with lists that are the middle of longer slices, twice, with the same results.
func TestSeatingsAreNotModified(t *testing.T) {
	for _, c := range []struct {
		n, k  int
		seats []int
	}{
		{3, 1, []int{1, 2, 0}}, {3, 1, []int{2, 0, 1}}, {1, 1, []int{0}}, {4, 2, []int{2, 3, 0, 1}}, {7, 7, digits("1032546")}, {7, 3, digits("3450126")}, {12, 12, digits("ba9876543210")}, {12, 1, digits("123456789ab0")}, {8, 8, digits("76543210")}, {3, 1, []int{3, 2, 1}}, {3, 1, []int{1, 2}}, {0, 0, []int{}}, {3, 4, []int{2, 1, 0}},
	} {
		seats, whole := inside(c.seats)
		kept := told(whole)
		for i := -1; i <= c.n; i++ {
			first := passCalls(c.n, c.k, seats, i)
			if again := passCalls(c.n, c.k, c.seats, i); !slices.Equal(first, again) {
				t.Errorf("other results the second time: %v and %v", first, again)
			}
			if told(whole) != kept {
				t.Fatalf("a call with %d, %d, %v, %d changed its arguments: %v", c.n, c.k, c.seats, i, whole)
			}
		}
	}
}

// checkOwnMemory writes another mark into each list, up to its capacity, and expects to find it there behind all others.
func checkOwnMemory[T comparable](t *testing.T, name string, lists [][]T, mark func(i int) T) {
	t.Helper()
	for i, list := range lists {
		for j := range list[:cap(list)] {
			list[:cap(list)][j] = mark(i)
		}
	}
	for i, list := range lists {
		if slices.ContainsFunc(list[:cap(list)], func(x T) bool { return x != mark(i) }) {
			t.Errorf("%s: the result %d shares memory with another one", name, i)
		}
	}
}

// TestSeatingsShareNoMemory changes what the functions gave out, and expects that nothing else changes: neither the arguments, nor another result, nor another seating of the same one, nor what they give out later.
func TestSeatingsShareNoMemory(t *testing.T) {
	for _, p := range planes(impl.MaxTraced) {
		n, k := p[0], p[1]
		name := fmt.Sprintf("n = %d, k = %d", n, k)
		seats := longSeatings(n, k)[7].seats
		kept, calls := told(seats), passCalls(n, k, seats, n-1)
		var lists [][]int
		var pairs [][][2]int
		for range 2 {
			all, _ := impl.AllSeatings(n, k)
			trail, _ := impl.TrailOf(n, k, seats, 0)
			free, _ := impl.FreeWhen(n, k, seats, 0)
			lists = append(append(lists, all...), trail, free)
			moves, _ := impl.MovesOf(n, k, seats)
			last, _ := impl.LastSeats(n, k)
			table, _ := impl.OwnTable(n, k)
			pairs = append(pairs, moves, last, table)
		}
		checkOwnMemory(t, name, lists, func(i int) int { return -i - 1 })
		checkOwnMemory(t, name, pairs, func(i int) [2]int { return [2]int{-i - 1, i} })
		if told(seats) != kept || !slices.Equal(passCalls(n, k, seats, n-1), calls) {
			t.Errorf("%s: a result shares memory with the argument, or with a later one", name)
		}
	}
}

// TestSeatingsCanBeAppendedTo appends to each seating, and expects that no other one has what was appended.
func TestSeatingsCanBeAppendedTo(t *testing.T) {
	for _, p := range planes(impl.MaxTraced) {
		all, _ := impl.AllSeatings(p[0], p[1])
		var longer [][]int
		for i, seats := range all {
			longer = append(longer, append(seats, i))
		}
		for i, seats := range longer {
			if seats[p[0]] != i || !slices.Equal(seats[:p[0]], all[i]) {
				t.Fatalf("n = %d, k = %d: the seating %d has %v appended", p[0], p[1], i, seats)
			}
		}
	}
}
