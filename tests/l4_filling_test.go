package tests

import (
	"fmt"
	"math"
	"math/big"
	"slices"
	"strconv"
	"strings"
	"testing"

	"loop.example/g01167/impl"
)

// lonelyOf returns the free seats without a taken neighbor.
func lonelyOf(r impl.Row) []int {
	var list []int
	for _, p := range theSeats(r, false) {
		if !slices.ContainsFunc(neighborsOf(r, p), func(q int) bool { return slices.Contains(r.Taken, q) }) {
			list = append(list, p)
		}
	}
	return list
}

// afterLonely returns the Rows that come next with neighbors kept free.
func afterLonely(r impl.Row) []impl.Row {
	var list []impl.Row
	for _, p := range lonelyOf(r) {
		list = append(list, with(r, p))
	}
	return list
}

// afterPairs returns the Rows that come next with pairs.
func afterPairs(r impl.Row) []impl.Row {
	var list []impl.Row
	for _, p := range theSeats(r, false) {
		for _, q := range neighborsOf(r, p) {
			if p < q && !slices.Contains(r.Taken, q) {
				list = append(list, with(r, p, q))
			}
		}
	}
	return list
}

// chances gives the chance of each text.
type chances map[string]*big.Rat

func (c chances) add(text string, chance *big.Rat) {
	if c[text] == nil {
		c[text] = new(big.Rat)
	}
	c[text].Add(c[text], chance)
}

// ends tells the chances of all ends of a Row, from those of the Rows that come next. It keeps what it has told.
type ends struct {
	next func(impl.Row) []impl.Row
	kept map[string]chances
}

func (e ends) of(r impl.Row) chances {
	name := shown(r)
	if e.kept[name] != nil {
		return e.kept[name]
	}
	found := chances{}
	next := e.next(r)
	for _, s := range next {
		for end, chance := range e.of(s) {
			found.add(end, new(big.Rat).Mul(chance, big.NewRat(1, int64(len(next)))))
		}
	}
	if len(next) == 0 {
		found.add(name, big.NewRat(1, 1))
	}
	e.kept[name] = found
	return found
}

var (
	lonelyEnds = ends{afterLonely, map[string]chances{}}
	pairEnds   = ends{afterPairs, map[string]chances{}}
)

// fractionOf returns a number as the program writes it.
func fractionOf(x *big.Rat) [2]int { return [2]int{int(x.Num().Int64()), int(x.Denom().Int64())} }

// ratOf returns the number that a fraction is, and tells of fractions that are not in lowest terms.
func ratOf(t *testing.T, f [2]int) *big.Rat {
	t.Helper()
	if f[1] < 1 {
		t.Fatalf("the denominator of %v", f)
	}
	x := big.NewRat(int64(f[0]), int64(f[1]))
	if fractionOf(x) != f {
		t.Errorf("%v is not in lowest terms", f)
	}
	return x
}

// countsOf returns the chance of each number of steps, from 0 up to the greatest one, and their mean, if a step takes so many seats.
func countsOf(r impl.Row, all chances, each int) ([][2]int, [2]int) {
	var sums []*big.Rat
	mean := new(big.Rat)
	for text, chance := range all {
		steps := (strings.Count(text, "x") - len(r.Taken)) / each
		for len(sums) <= steps {
			sums = append(sums, new(big.Rat))
		}
		sums[steps].Add(sums[steps], chance)
		mean.Add(mean, new(big.Rat).Mul(chance, big.NewRat(int64(steps), 1)))
	}
	var list [][2]int
	for _, sum := range sums {
		list = append(list, fractionOf(sum))
	}
	return list, fractionOf(mean)
}

// finalsOf returns all final Rows, found among all Rows with the same seats.
func finalsOf(r impl.Row) []impl.Row {
	var list []impl.Row
	for _, s := range allRows(r.Seats) {
		if s.Ring == r.Ring && endsAs(r, s) {
			list = append(list, s)
		}
	}
	slices.SortFunc(list, func(a impl.Row, b impl.Row) int { return slices.Compare(a.Taken, b.Taken) })
	return list
}

// endsAs reports whether a Row s with the same seats is a final one of r: it has no lonely seats and all taken seats of r, and no added one has a taken neighbor.
func endsAs(r impl.Row, s impl.Row) bool {
	for _, p := range r.Taken {
		if !slices.Contains(s.Taken, p) {
			return false
		}
	}
	for _, p := range s.Taken {
		for _, q := range neighborsOf(s, p) {
			if slices.Contains(s.Taken, q) && !(slices.Contains(r.Taken, p) && slices.Contains(r.Taken, q)) {
				return false
			}
		}
	}
	return len(lonelyOf(s)) == 0
}

// fillRows returns all valid Rows of few seats, and some of as many as can be filled, or nearly.
func fillRows() []impl.Row {
	var list []impl.Row
	for seats := 2; seats <= 7; seats++ {
		list = append(list, allRows(seats)...)
	}
	for _, signs := range []string{
		dots(8), dots(9), dots(10), dots(11), dots(12), crosses(12), "x" + dots(11), dots(11) + "x", dots(5) + "x" + dots(6), "x" + dots(10) + "x", "..x....xx...", ".x..x..x..x.", "x.x.x.x.x.x.",
		crosses(11) + ".", "xxxx........", "....xxxx....", "..xx", "x...x...x...", "...x.x......", "......x...", ".x.......", "xx......xx", "...x...x...",
	} {
		list = append(list, row("line "+signs), row("ring "+signs))
	}
	return list
}

// fractions reads a text as "0 1/3 2/3".
func fractions(text string) [][2]int {
	var list [][2]int
	for _, word := range strings.Fields(text) {
		above, below, broken := strings.Cut(word, "/")
		f := [2]int{0, 1}
		f[0], _ = strconv.Atoi(above)
		if broken {
			f[1], _ = strconv.Atoi(below)
		}
		list = append(list, f)
	}
	return list
}

func TestBlocksOf(t *testing.T) {
	for _, c := range []struct {
		text string
		want [][2]int
	}{
		{"line ...", [][2]int{{0, 3}}}, {"line ..", [][2]int{{0, 2}}}, {"line x.", nil}, {"line xx", nil}, {"line ..x", [][2]int{{0, 1}}}, {"line x..", [][2]int{{2, 1}}}, {"line ..x..", [][2]int{{0, 1}, {4, 1}}}, {"line x..x", nil},
		{"line x...x", [][2]int{{2, 1}}}, {"line ...x....x", [][2]int{{0, 2}, {5, 2}}}, {"line x...x.....", [][2]int{{2, 1}, {6, 4}}}, {"line x...x...x...", [][2]int{{2, 1}, {6, 1}, {10, 2}}}, {"line " + dots(12), [][2]int{{0, 12}}}, {"line " + crosses(12), nil},
		{"ring ...", [][2]int{{0, 3}}}, {"ring x..", nil}, {"ring xxx", nil}, {"ring x...", [][2]int{{2, 1}}}, {"ring ..x.", [][2]int{{0, 1}}}, {"ring .x..", [][2]int{{3, 1}}}, {"ring x....", [][2]int{{2, 2}}}, {"ring ..x....", [][2]int{{4, 4}}},
		{"ring ...x...", [][2]int{{5, 4}}}, {"ring ...x...x....", [][2]int{{5, 1}, {9, 5}}}, {"ring ....x...x...", [][2]int{{6, 1}, {10, 5}}}, {"ring ..x...x.....", [][2]int{{4, 1}, {8, 5}}}, {"ring " + dots(12), [][2]int{{0, 12}}}, {"ring " + crosses(12), nil},
	} {
		if blocks, ok := impl.BlocksOf(row(c.text)); !slices.Equal(blocks, c.want) || !ok {
			t.Errorf("BlocksOf(%q) = %v, %v", c.text, blocks, ok)
		}
	}
}

// TestBlocksAreOfLonelySeats goes over all blocks: their seats are the lonely ones, each one once, and no block goes on beyond its ends.
func TestBlocksAreOfLonelySeats(t *testing.T) {
	for _, r := range fillRows() {
		lonely := lonelyOf(r)
		blocks, ok := impl.BlocksOf(r)
		if !ok || !slices.IsSortedFunc(blocks, func(a [2]int, b [2]int) int { return a[0] - b[0] }) {
			t.Errorf("BlocksOf(%q) = %v, %v", shown(r), blocks, ok)
		}
		var seats []int
		for _, b := range blocks {
			for i := range b[1] {
				if p := b[0] + i; r.Ring {
					seats = append(seats, p%r.Seats)
				} else {
					seats = append(seats, p)
				}
			}
			if b == [2]int{0, r.Seats} {
				continue
			}
			for _, p := range []int{b[0] - 1, b[0] + b[1]} {
				if r.Ring {
					p = (p + r.Seats) % r.Seats
				}
				if slices.Contains(lonely, p) {
					t.Errorf("BlocksOf(%q) = %v, but the seat %d is lonely", shown(r), blocks, p)
				}
			}
		}
		slices.Sort(seats)
		if !slices.Equal(seats, lonely) {
			t.Errorf("BlocksOf(%q) = %v, but %v are lonely", shown(r), blocks, lonely)
		}
	}
}

func TestFillCounts(t *testing.T) {
	for _, c := range []struct{ text, counts, mean string }{
		{"line ..", "0 1", "1"}, {"line ...", "0 1/3 2/3", "5/3"}, {"line ....", "0 0 1", "2"}, {"line .....", "0 0 8/15 7/15", "37/15"}, {"line ......", "0 0 1/9 8/9", "26/9"}, {"line .......", "0 0 0 71/105 34/105", "349/105"}, {"line ........", "0 0 0 11/45 34/45", "169/45"},
		{"line " + dots(9), "0 0 0 1/27 2092/2835 638/2835", "11873/2835"}, {"line " + dots(11), "0 0 0 0 14/135 4615/6237 4876/31185", "157567/31185"}, {"line " + dots(12), "0 0 0 0 1/81 20851/42525 21149/42525", "233249/42525"},
		{"ring ...", "0 1", "1"}, {"ring ....", "0 0 1", "2"}, {"ring .....", "0 0 1", "2"}, {"ring ......", "0 0 1/3 2/3", "8/3"}, {"ring .......", "0 0 0 1", "3"}, {"ring ........", "0 0 0 8/15 7/15", "52/15"}, {"ring " + dots(11), "0 0 0 0 11/45 34/45", "214/45"},
		{"ring " + dots(12), "0 0 0 0 1/27 2092/2835 638/2835", "14708/2835"}, {"line x.", "1", "0"}, {"line xx", "1", "0"}, {"line .x", "1", "0"}, {"line x..x", "1", "0"}, {"ring x..", "1", "0"}, {"ring xxx", "1", "0"}, {"line " + crosses(12), "1", "0"}, {"ring " + crosses(12), "1", "0"},
		{"line ..x", "0 1", "1"}, {"line x...x", "0 1", "1"}, {"ring x...", "0 1", "1"}, {"ring x.....", "0 1/3 2/3", "5/3"}, {"line ...x....x", "0 0 1", "2"}, {"line x.....x...xx", "0 0 1/3 2/3", "8/3"}, {"line x.....x.....", "0 0 0 1/3 2/3", "11/3"},
		{"line ....x.x....", "0 0 1/9 4/9 4/9", "10/3"}, {"ring x" + dots(11), "0 0 0 1/27 2092/2835 638/2835", "11873/2835"}, {"ring .x.x........", "0 0 0 71/105 34/105", "349/105"},
	} {
		if counts, ok := impl.FillCounts(row(c.text)); !slices.Equal(counts, fractions(c.counts)) || !ok {
			t.Errorf("FillCounts(%q) = %v, %v", c.text, counts, ok)
		}
		if mean, ok := impl.FillMean(row(c.text)); mean != fractions(c.mean)[0] || !ok {
			t.Errorf("FillMean(%q) = %v, %v", c.text, mean, ok)
		}
	}
}

func TestFewestFilled(t *testing.T) {
	for _, c := range []struct {
		text         string
		fewest, most int
	}{
		{"line ..", 1, 1}, {"line ...", 1, 2}, {"line ....", 2, 2}, {"line .....", 2, 3}, {"line ......", 2, 3}, {"line .......", 3, 4}, {"line " + dots(12), 4, 6}, {"line " + dots(11), 4, 6}, {"line xx", 0, 0}, {"line x.", 0, 0}, {"line ..x", 1, 1},
		{"ring ...", 1, 1}, {"ring ....", 2, 2}, {"ring .....", 2, 2}, {"ring ......", 2, 3}, {"ring .......", 3, 3}, {"ring " + dots(11), 4, 5}, {"ring " + dots(12), 4, 6}, {"ring xxx", 0, 0}, {"ring x..", 0, 0}, {"ring x...", 1, 1}, {"ring x.....", 1, 2},
		{"line ..x..", 2, 2}, {"line ....x....", 2, 4}, {"line x....x....x", 2, 2}, {"ring ...x.......", 3, 4}, {"ring ....x....x..", 3, 3}, {"line " + crosses(12), 0, 0}, {"ring x" + dots(11), 3, 5}, {"line x" + dots(11), 4, 5},
	} {
		if fewest, most, ok := impl.FewestFilled(row(c.text)); fewest != c.fewest || most != c.most || !ok {
			t.Errorf("FewestFilled(%q) = %d, %d, %v", c.text, fewest, most, ok)
		}
	}
}

// TestFillings holds the chances of all fillings with neighbors kept free against those of all final Rows, added up step by step.
func TestFillings(t *testing.T) {
	for _, r := range fillRows() {
		all := lonelyEnds.of(r)
		counts, mean := countsOf(r, all, 1)
		if got, ok := impl.FillCounts(r); !slices.Equal(got, counts) || !ok {
			t.Errorf("FillCounts(%q) = %v, %v", shown(r), got, ok)
		}
		if got, ok := impl.FillMean(r); got != mean || !ok {
			t.Errorf("FillMean(%q) = %v, %v", shown(r), got, ok)
		}
		least := slices.IndexFunc(counts, func(f [2]int) bool { return f[0] > 0 })
		if fewest, most, ok := impl.FewestFilled(r); fewest != least || most != len(counts)-1 || !ok {
			t.Errorf("FewestFilled(%q) = %d, %d, %v", shown(r), fewest, most, ok)
		}
		for p := range r.Seats {
			sum := new(big.Rat)
			for end, chance := range all {
				if slices.Contains(row(end).Taken, p) {
					sum.Add(sum, chance)
				}
			}
			if got, ok := impl.SeatChance(r, p); got != fractionOf(sum) || !ok {
				t.Errorf("SeatChance(%q, %d) = %v, %v", shown(r), p, got, ok)
			}
		}
		for end, chance := range all {
			if got, ok := impl.ChanceOfFinal(r, row(end)); got != fractionOf(chance) || !ok {
				t.Errorf("ChanceOfFinal(%q, %q) = %v, %v", shown(r), end, got, ok)
			}
		}
	}
}

func TestSeatChance(t *testing.T) {
	for _, c := range []struct{ text, want string }{
		{"line ..", "1/2 1/2"}, {"line ...", "2/3 1/3 2/3"}, {"line ....", "5/8 3/8 3/8 5/8"}, {"line xx", "1 1"}, {"line x.", "1 0"}, {"line x..", "1 0 1"}, {"line x..x", "1 0 0 1"}, {"line x...x.", "1 0 1 0 1 0"},
		{"ring ...", "1/3 1/3 1/3"}, {"ring x..", "1 0 0"}, {"ring xxx", "1 1 1"}, {"ring ....", "1/2 1/2 1/2 1/2"}, {"ring .....", "2/5 2/5 2/5 2/5 2/5"}, {"ring x...", "1 0 1 0"}, {"ring .x....", "0 1 0 2/3 1/3 2/3"}, {"ring x....", "1 0 1/2 1/2 0"},
		{"ring " + dots(12), strings.Repeat("3677/8505 ", 12)},
	} {
		for p, want := range fractions(c.want) {
			if chance, ok := impl.SeatChance(row(c.text), p); chance != want || !ok {
				t.Errorf("SeatChance(%q, %d) = %v, %v", c.text, p, chance, ok)
			}
		}
	}
}

// TestChancesAddUp checks promise 4: the chances of all final Rows and those of all numbers have the sum 1, and those of all free seats have the sum FillMean, as the numbers have.
func TestChancesAddUp(t *testing.T) {
	one := big.NewRat(1, 1)
	for _, r := range fillRows() {
		finals, ok := impl.FinalRows(r)
		sum := new(big.Rat)
		for _, s := range finals {
			chance, fine := impl.ChanceOfFinal(r, s)
			if !fine || chance[0] < 1 {
				t.Errorf("ChanceOfFinal(%q, %q) = %v, %v", shown(r), shown(s), chance, fine)
			}
			sum.Add(sum, ratOf(t, chance))
		}
		if !ok || sum.Cmp(one) != 0 {
			t.Errorf("the final Rows of %q have the chances %v, %v", shown(r), sum, ok)
		}
		free := new(big.Rat)
		for _, p := range theSeats(r, false) {
			chance, fine := impl.SeatChance(r, p)
			if !fine {
				t.Fatalf("SeatChance(%q, %d) fails", shown(r), p)
			}
			free.Add(free, ratOf(t, chance))
		}
		mean, ok := impl.FillMean(r)
		if !ok || free.Cmp(ratOf(t, mean)) != 0 {
			t.Errorf("the free seats of %q have the chances %v, and the mean is %v, %v", shown(r), free, mean, ok)
		}
		counts, ok := impl.FillCounts(r)
		pairs, fine := impl.PairCounts(r)
		couples, sure := impl.PairMean(r)
		if !ok || !fine || !sure {
			t.Fatalf("the counts of %q fail", shown(r))
		}
		checkCounts(t, shown(r), counts, mean)
		checkCounts(t, shown(r)+" with pairs", pairs, couples)
	}
}

// checkCounts expects chances with the sum 1 and this mean, the last one greater than 0.
func checkCounts(t *testing.T, name string, counts [][2]int, mean [2]int) {
	t.Helper()
	sum, weighed := new(big.Rat), new(big.Rat)
	for n, chance := range counts {
		x := ratOf(t, chance)
		if x.Sign() == 0 && chance != [2]int{0, 1} {
			t.Errorf("%s: no chance is %v", name, chance)
		}
		sum.Add(sum, x)
		weighed.Add(weighed, new(big.Rat).Mul(x, big.NewRat(int64(n), 1)))
	}
	if sum.Cmp(big.NewRat(1, 1)) != 0 || weighed.Cmp(ratOf(t, mean)) != 0 || counts[len(counts)-1][0] == 0 {
		t.Errorf("%s: the chances are %v and the mean %v", name, counts, mean)
	}
}

// TestFewestAndMost checks promise 4 for numbers: FillCounts end with the greatest one of FewestFilled, and all before the least one have the chance 0.
func TestFewestAndMost(t *testing.T) {
	for _, r := range fillRows() {
		counts, ok := impl.FillCounts(r)
		fewest, most, fine := impl.FewestFilled(r)
		if !ok || !fine || len(counts) != most+1 || counts[fewest][0] == 0 {
			t.Errorf("%q: %v, but from %d to %d", shown(r), counts, fewest, most)
		}
		for n := range fewest {
			if counts[n] != [2]int{0, 1} {
				t.Errorf("%q: %v, but at least %d", shown(r), counts, fewest)
			}
		}
	}
}

func TestFillBy(t *testing.T) {
	for _, c := range []struct {
		text  string
		order []int
		want  string
	}{
		{"line ...", []int{1, 0, 2}, "line .x."}, {"line ...", []int{0, 1, 2}, "line x.x"}, {"line ...", []int{2, 1, 0}, "line x.x"}, {"line ..", []int{1, 0}, "line .x"}, {"line ..", []int{0, 1}, "line x."}, {"line xx", []int{1, 0}, "line xx"}, {"line x.", []int{1, 0}, "line x."},
		{"line ......", []int{1, 4, 0, 2, 3, 5}, "line .x..x."}, {"line ..x...", []int{4, 3, 5, 2, 1, 0}, "line x.x.x."}, {"line ..x...", []int{5, 4, 3, 2, 1, 0}, "line x.x..x"}, {"ring ...", []int{2, 0, 1}, "ring ..x"}, {"ring ...", []int{1, 2, 0}, "ring .x."},
		{"ring xxx", []int{0, 1, 2}, "ring xxx"}, {"ring .x..", []int{0, 1, 2, 3}, "ring .x.x"}, {"ring .....", []int{4, 0, 3, 1, 2}, "ring .x..x"}, {"line xx....", []int{5, 4, 3, 2, 1, 0}, "line xx.x.x"}, {"ring xx....", []int{5, 4, 3, 2, 1, 0}, "ring xx..x."},
		{"line " + dots(12), []int{0, 1, 2, 3, 4, 5, 6, 7, 8, 9, 10, 11}, "line " + strings.Repeat("x.", 6)}, {"ring " + dots(12), []int{11, 10, 9, 8, 7, 6, 5, 4, 3, 2, 1, 0}, "ring " + strings.Repeat(".x", 6)}, {"line " + crosses(12), []int{11, 10, 9, 8, 7, 6, 5, 4, 3, 2, 1, 0}, "line " + crosses(12)},
	} {
		if filled, ok := impl.FillBy(row(c.text), c.order); !sameRow(filled, row(c.want)) || !ok {
			t.Errorf("FillBy(%q, %v) = %v, %v", c.text, c.order, filled, ok)
		}
	}
}

// orders gives all lists of each of so many seats once.
func orders(seats int, chosen []int, each func([]int)) {
	if len(chosen) == seats {
		each(chosen)
		return
	}
	for p := range seats {
		if !slices.Contains(chosen, p) {
			orders(seats, append(chosen[:len(chosen):len(chosen)], p), each)
		}
	}
}

// TestAllOrders fills by all orders, and checks promise 4: each order makes a final Row, and so many orders make it as its chance tells.
func TestAllOrders(t *testing.T) {
	var list []impl.Row
	for seats := 2; seats <= 5; seats++ {
		list = append(list, allRows(seats)...)
	}
	for _, text := range []string{"line ......", "ring ......", "line .......", "ring .......", "line ...x...", "ring ...x...", "line x.....x"} {
		list = append(list, row(text))
	}
	for _, r := range list {
		many, made := 0, map[string]int{}
		orders(r.Seats, nil, func(order []int) {
			filled, ok := impl.FillBy(r, order)
			if !ok || !endsAs(r, filled) {
				t.Fatalf("FillBy(%q, %v) = %v, %v", shown(r), order, filled, ok)
			}
			many++
			made[shown(filled)]++
		})
		finals, ok := impl.FinalRows(r)
		if !ok || len(finals) != len(made) {
			t.Errorf("%q: %v, but by orders %v", shown(r), finals, made)
		}
		for text, n := range made {
			if is, ok := impl.IsFinal(r, row(text)); !is || !ok {
				t.Errorf("IsFinal(%q, %q) = %v, %v", shown(r), text, is, ok)
			}
			if chance, ok := impl.ChanceOfFinal(r, row(text)); chance != fractionOf(big.NewRat(int64(n), int64(many))) || !ok {
				t.Errorf("ChanceOfFinal(%q, %q) = %v, %v", shown(r), text, chance, ok)
			}
		}
	}
}

// TestLongOrdersMakeFinalRows fills long Rows by some orders, which step over the seats, up and down.
func TestLongOrdersMakeFinalRows(t *testing.T) {
	for _, r := range fillRows() {
		for step := 1; step < r.Seats; step++ {
			if new(big.Int).GCD(nil, nil, big.NewInt(int64(step)), big.NewInt(int64(r.Seats))).Int64() != 1 {
				continue
			}
			var order []int
			for i := range r.Seats {
				order = append(order, (3+i*step)%r.Seats)
			}
			want := r
			for _, p := range order {
				if slices.Contains(lonelyOf(want), p) {
					want = with(want, p)
				}
			}
			filled, ok := impl.FillBy(r, order)
			if is, fine := impl.IsFinal(r, filled); !ok || !sameRow(filled, want) || !is || !fine {
				t.Errorf("FillBy(%q, %v) = %v, %v", shown(r), order, filled, ok)
			}
		}
	}
}

func TestBadOrders(t *testing.T) {
	for _, c := range []struct {
		text  string
		order []int
	}{
		{"line ...", nil}, {"line ...", []int{0}}, {"line ...", []int{0, 1}}, {"line ...", []int{0, 1, 2, 3}}, {"line ...", []int{0, 1, 2, 2}}, {"line ...", []int{0, 1, 2, 0}}, {"line ...", []int{0, 1, 1}}, {"line ...", []int{0, 0, 2}}, {"line ...", []int{2, 2, 2}}, {"line ...", []int{1, 2, 3}},
		{"line ...", []int{0, 1, 3}}, {"line ...", []int{-1, 0, 1}}, {"line ...", []int{0, -1, 2}}, {"line ...", []int{0, 1, math.MinInt}}, {"line ...", []int{math.MaxInt, 1, 2}}, {"line ...", []int{0, 1, 2, 0, 1, 2}}, {"line xx", []int{0, 0}}, {"line xx", nil}, {"line ..", []int{1, 2}},
		{"ring ...", []int{0, 1, 3}}, {"ring ...", []int{0, 1}}, {"ring ...", []int{-1, 0, 1}}, {"ring xxx", []int{0, 1, 2, 3}}, {"ring xxx", []int{0, 1, 1}}, {"ring x..", []int{1, 2}}, {"line " + dots(12), []int{0, 1, 2, 3, 4, 5, 6, 7, 8, 9, 10, 12}}, {"line ...", make([]int, 1000000)},
	} {
		failed(t, fmt.Sprintf("FillBy(%q, %.80s)", c.text, fmt.Sprint(c.order)))(impl.FillBy(row(c.text), c.order))
	}
}

func TestFinalRows(t *testing.T) {
	for _, c := range []struct{ text, want string }{
		{"line ...", "x.x .x."}, {"line ..", "x. .x"}, {"line xx", "xx"}, {"line x.", "x."}, {"line ....", "x.x. x..x .x.x"}, {"line x..", "x.x"}, {"line x....", "x.x.x x..x."}, {"line .x....", ".x.x.x .x..x."},
		{"ring ...", "x.. .x. ..x"}, {"ring xxx", "xxx"}, {"ring x..", "x.."}, {"ring ....", "x.x. .x.x"}, {"ring .....", "x.x.. x..x. .x.x. .x..x ..x.x"}, {"ring x...", "x.x."}, {"ring xx....", "xx.x.. xx..x."}, {"ring ......", "x.x.x. x..x.. .x.x.x .x..x. ..x..x"},
	} {
		form := c.text[:len("line ")]
		want := strings.Fields(c.want)
		finals, ok := impl.FinalRows(row(c.text))
		var got []string
		for _, s := range finals {
			got = append(got, strings.TrimPrefix(shown(s), form))
		}
		if !slices.Equal(got, want) || !ok {
			t.Errorf("FinalRows(%q) = %v, %v", c.text, finals, ok)
		}
	}
	for _, r := range fillRows() {
		want := finalsOf(r)
		if finals, ok := impl.FinalRows(r); !slices.EqualFunc(finals, want, sameRow) || !ok {
			t.Errorf("FinalRows(%q) = %v, %v", shown(r), finals, ok)
		}
	}
}

func TestIsFinal(t *testing.T) {
	for _, c := range []struct {
		text, other string
		want        bool
	}{
		{"line ...", "line x.x", true}, {"line ...", "line .x.", true}, {"line ...", "line x..", false}, {"line ...", "line ...", false}, {"line ...", "line xx.", false}, {"line ...", "line xxx", false}, {"line ..", "line ..", false}, {"line ..", "line x.", true}, {"line ..", "line xx", false},
		{"line xx", "line xx", true}, {"line xx", "line x.", false}, {"line xx", "line ..", false}, {"line x.", "line x.", true}, {"line x.", "line .x", false}, {"line x.", "line xx", false}, {"line xx...", "line xx.x.", true}, {"line xx...", "line xx..x", true},
		{"line xx...", "line xx...", false}, {"line xx...", "line x..x.", false}, {"line xx...", "line xxx.x", false}, {"line xx...", "line .x.x.", false}, {"line xx...", "line xx.xx", false}, {"line x...x", "line x.x.x", true}, {"line x...x", "line x...x", false},
		{"ring ...", "ring x..", true}, {"ring ...", "ring xx.", false}, {"ring ...", "ring x.x", false}, {"ring ...", "ring ...", false}, {"ring xxx", "ring xxx", true}, {"ring xxx", "ring xx.", false}, {"ring ....", "ring x.x.", true}, {"ring ....", "ring x..x", false}, {"ring ....", "ring x...", false},
		{"ring x..x", "ring x..x", true}, {"ring x....x", "ring x.x..x", true}, {"ring x....x", "ring x.x...", false}, {"line " + crosses(12), "line " + crosses(12), true}, {"line " + dots(12), "line " + strings.Repeat(".x.", 4), true}, {"ring " + dots(12), "ring " + strings.Repeat("x.", 6), true},
		{"ring " + dots(12), "ring x.x.x.x.x..x", false}, {"line " + dots(12), "line x.x.x.x.x..x", true}, {"line .x..x.", "line .x..x.", true}, {"line .x..x.", "line x.x..x", false},
	} {
		r, s := row(c.text), row(c.other)
		if is, ok := impl.IsFinal(r, s); is != c.want || !ok {
			t.Errorf("IsFinal(%q, %q) = %v, %v", c.text, c.other, is, ok)
		}
		if chance, ok := impl.ChanceOfFinal(r, s); !c.want {
			failed(t, "ChanceOfFinal", c.text, c.other)(chance, ok)
		} else if !ok || chance[0] < 1 || chance[1] < chance[0] {
			t.Errorf("ChanceOfFinal(%q, %q) = %v, %v", c.text, c.other, chance, ok)
		}
	}
	for seats := 2; seats <= 6; seats++ {
		for _, r := range allRows(seats) {
			for _, s := range allRows(seats) {
				is, ok := impl.IsFinal(r, s)
				chance, fine := impl.ChanceOfFinal(r, s)
				if r.Ring != s.Ring {
					failed(t, "IsFinal", shown(r), shown(s))(is, ok)
				} else if is != endsAs(r, s) || !ok {
					t.Errorf("IsFinal(%q, %q) = %v, %v", shown(r), shown(s), is, ok)
				}
				if r.Ring != s.Ring || !endsAs(r, s) {
					failed(t, "ChanceOfFinal", shown(r), shown(s))(chance, fine)
				}
			}
		}
	}
}

// TestUnlikeRows compares Rows of which one alone is a ring, or that have not as many seats.
func TestUnlikeRows(t *testing.T) {
	for _, c := range [][2]string{
		{"line ...", "ring x.."}, {"ring ...", "line .x."}, {"line ...", "ring .x."}, {"line xxx", "ring xxx"}, {"line ..", "line x.x"}, {"line ..", "ring x.."}, {"line ...", "line x."}, {"ring ...", "ring x.x."}, {"ring ....", "ring x.."}, {"line xx", "line xxx"}, {"line xxx", "line xx"},
		{"line " + dots(12), "line " + strings.Repeat(".x.", 4) + "."}, {"line " + dots(11), "line " + strings.Repeat("x.", 6)}, {"line " + dots(12), "ring " + strings.Repeat("x.", 6)}, {"line x.x.", "line x.x"},
	} {
		failed(t, "IsFinal", c)(impl.IsFinal(row(c[0]), row(c[1])))
		failed(t, "ChanceOfFinal", c)(impl.ChanceOfFinal(row(c[0]), row(c[1])))
	}
}

func TestChanceOfFinal(t *testing.T) {
	for _, c := range []struct{ text, other, want string }{
		{"line ...", "line .x.", "1/3"}, {"line ...", "line x.x", "2/3"}, {"line ..", "line .x", "1/2"}, {"line xx", "line xx", "1"}, {"line ....", "line x..x", "1/4"}, {"line ....", "line x.x.", "3/8"}, {"line x..", "line x.x", "1"}, {"line ..x..", "line x.x.x", "1"},
		{"ring ...", "ring ..x", "1/3"}, {"ring ....", "ring x.x.", "1/2"}, {"ring .....", "ring x.x..", "1/5"}, {"ring xxx", "ring xxx", "1"}, {"ring ......", "ring x..x..", "1/9"}, {"ring ......", "ring x.x.x.", "1/3"}, {"line x...x...xx..", "line x.x.x.x.xx.x", "1"},
		{"line .....", "line x.x.x", "7/15"}, {"line ......", "line .x..x.", "1/9"},
	} {
		if chance, ok := impl.ChanceOfFinal(row(c.text), row(c.other)); chance != fractions(c.want)[0] || !ok {
			t.Errorf("ChanceOfFinal(%q, %q) = %v, %v", c.text, c.other, chance, ok)
		}
	}
}

func TestPairCounts(t *testing.T) {
	for _, c := range []struct{ text, counts, mean string }{
		{"line ..", "0 1", "1"}, {"line ...", "0 1", "1"}, {"line ....", "0 1/3 2/3", "5/3"}, {"line .....", "0 0 1", "2"}, {"line ......", "0 0 8/15 7/15", "37/15"}, {"line .......", "0 0 1/9 8/9", "26/9"}, {"line ........", "0 0 0 71/105 34/105", "349/105"},
		{"line " + dots(11), "0 0 0 0 598/1575 977/1575", "7277/1575"}, {"line " + dots(12), "0 0 0 0 14/135 4615/6237 4876/31185", "157567/31185"}, {"ring ...", "0 1", "1"}, {"ring ....", "0 0 1", "2"}, {"ring .....", "0 0 1", "2"}, {"ring ......", "0 0 1/3 2/3", "8/3"},
		{"ring .......", "0 0 0 1", "3"}, {"ring " + dots(12), "0 0 0 0 1/27 2092/2835 638/2835", "14708/2835"}, {"line x.", "1", "0"}, {"line xx", "1", "0"}, {"line .x.", "1", "0"}, {"ring xxx", "1", "0"}, {"ring .xx", "1", "0"}, {"ring ..x", "0 1", "1"}, {"ring .x.", "0 1", "1"},
		{"ring .x.x.", "0 1", "1"}, {"line .x.x.", "1", "0"}, {"line x..x...xx", "0 0 1", "2"}, {"line ....x....", "0 0 1/9 4/9 4/9", "10/3"}, {"ring ..x....x..", "0 0 1/9 4/9 4/9", "10/3"}, {"line x....x", "0 1/3 2/3", "5/3"}, {"line " + crosses(12), "1", "0"}, {"ring x" + dots(11), "0 0 0 0 598/1575 977/1575", "7277/1575"},
	} {
		if counts, ok := impl.PairCounts(row(c.text)); !slices.Equal(counts, fractions(c.counts)) || !ok {
			t.Errorf("PairCounts(%q) = %v, %v", c.text, counts, ok)
		}
		if mean, ok := impl.PairMean(row(c.text)); mean != fractions(c.mean)[0] || !ok {
			t.Errorf("PairMean(%q) = %v, %v", c.text, mean, ok)
		}
	}
	for _, r := range fillRows() {
		counts, mean := countsOf(r, pairEnds.of(r), 2)
		if got, ok := impl.PairCounts(r); !slices.Equal(got, counts) || !ok {
			t.Errorf("PairCounts(%q) = %v, %v", shown(r), got, ok)
		}
		if got, ok := impl.PairMean(r); got != mean || !ok {
			t.Errorf("PairMean(%q) = %v, %v", shown(r), got, ok)
		}
	}
}

// runLengths returns the numbers of seats of all runs of a line, sorted, as a text.
func runLengths(r impl.Row) string {
	var list []int
	for _, run := range strings.FieldsFunc(shown(r), func(c rune) bool { return c != '.' }) {
		list = append(list, len(run))
	}
	slices.Sort(list)
	return fmt.Sprint(list)
}

// TestPairsDependOnRunsOnly checks promise 4 for pairs: lines whose runs have the same numbers of seats, in any order, have the same PairCounts.
func TestPairsDependOnRunsOnly(t *testing.T) {
	found := map[string]string{}
	for seats := 2; seats <= 9; seats++ {
		for _, r := range allRows(seats) {
			if r.Ring {
				continue
			}
			counts, ok := impl.PairCounts(r)
			if !ok {
				t.Fatalf("PairCounts(%q) fails", shown(r))
			}
			runs := runLengths(r)
			if found[runs] == "" {
				found[runs] = fmt.Sprint(counts)
			}
			if fmt.Sprint(counts) != found[runs] {
				t.Errorf("PairCounts(%q) = %v, but another line with the runs %s has %s", shown(r), counts, runs, found[runs])
			}
		}
	}
	for _, c := range [][2]string{{"line ...x....x..", "line ....x..x..."}, {"line x.....x.....", "line .....xx....."}, {"line ......x....", "line ....x......x"}, {"line .x..x...x..x", "line ..x...x..x.x"}} {
		if runLengths(row(c[0])) != runLengths(row(c[1])) {
			t.Fatalf("other runs: %v", c)
		}
		if a, b := told(impl.PairCounts(row(c[0]))), told(impl.PairCounts(row(c[1]))); a != b {
			t.Errorf("PairCounts of %v are %s and %s", c, a, b)
		}
	}
}

// unfilledRows returns Rows that are not valid, and valid ones with more seats than can be filled.
func unfilledRows() []impl.Row {
	list := badRows()
	for _, signs := range []string{dots(13), crosses(13), "x" + dots(12), crosses(12) + ".", dots(14), dots(24), crosses(24), strings.Repeat("x.", 12)} {
		list = append(list, row("line "+signs), row("ring "+signs))
	}
	return list
}

// TestBadFillRows calls each function with Rows that cannot be filled, and other arguments that would do.
func TestBadFillRows(t *testing.T) {
	for _, r := range unfilledRows() {
		name := fmt.Sprintf("of %.80s: ", fmt.Sprint(r))
		failed(t, name, "BlocksOf")(impl.BlocksOf(r))
		failed(t, name, "FillCounts")(impl.FillCounts(r))
		failed(t, name, "FillMean")(impl.FillMean(r))
		failed(t, name, "FewestFilled")(impl.FewestFilled(r))
		failed(t, name, "FinalRows")(impl.FinalRows(r))
		failed(t, name, "PairCounts")(impl.PairCounts(r))
		failed(t, name, "PairMean")(impl.PairMean(r))
		for _, p := range []int{0, 1, 3, 12, 13, 23, 24, -1, math.MinInt, math.MaxInt} {
			failed(t, name, "SeatChance", p)(impl.SeatChance(r, p))
		}
		var order []int
		for p := range min(max(r.Seats, 0), 30) {
			order = append(order, p)
		}
		failed(t, name, "FillBy")(impl.FillBy(r, order))
		failed(t, name, "FillBy nothing")(impl.FillBy(r, nil))
		for _, s := range []impl.Row{r, row("line x."), row("line x..x"), row("line x.x."), row("ring x.x."), row("line " + strings.Repeat(".x.", 4))} {
			failed(t, name, "IsFinal", s.Seats)(impl.IsFinal(r, s))
			failed(t, name, "IsFinal behind", s.Seats)(impl.IsFinal(s, r))
			failed(t, name, "ChanceOfFinal", s.Seats)(impl.ChanceOfFinal(r, s))
			failed(t, name, "ChanceOfFinal behind", s.Seats)(impl.ChanceOfFinal(s, r))
		}
	}
}

func TestSeatChanceOfOtherSeats(t *testing.T) {
	for _, r := range fillRows() {
		for _, p := range append(noSeats(r.Seats), impl.MaxFilled, impl.MaxFilled+1) {
			if p < 0 || p >= r.Seats {
				failed(t, "SeatChance", shown(r), p)(impl.SeatChance(r, p))
			}
		}
	}
}

// fillCalls returns the results of all functions of chapter 4 for two Rows, a seat and an order.
func fillCalls(r impl.Row, s impl.Row, p int, order []int) []string {
	return []string{
		told(impl.BlocksOf(r)), told(impl.FillCounts(r)), told(impl.FillMean(r)), told(impl.SeatChance(r, p)), told(impl.FewestFilled(r)), told(impl.FillBy(r, order)),
		told(impl.FinalRows(r)), told(impl.IsFinal(r, s)), told(impl.ChanceOfFinal(r, s)), told(impl.PairCounts(r)), told(impl.PairMean(r)),
	}
}

// inside returns a list as the middle of a longer slice, and that slice.
func inside(list []int) (middle []int, whole []int) {
	whole = slices.Concat([]int{90, 91}, list, []int{92, 93, 94, 95})
	return whole[2 : 2+len(list)], whole
}

// TestFillArgumentsAreNotModified calls all functions with lists that are the middle of longer slices, twice, with the same results.
func TestFillArgumentsAreNotModified(t *testing.T) {
	for _, c := range []struct {
		r, s  impl.Row
		order []int
	}{
		{row("line .x....."), row("line .x.x.x."), []int{6, 5, 4, 3, 2, 1, 0}}, {row("ring .x...."), row("ring .x.x.x"), []int{2, 4, 0, 1, 5, 3}}, {row("ring xxx"), row("ring xxx"), []int{2, 1, 0}}, {row("line ...."), row("line x.x."), []int{3, 3, 1, 0}},
		{row("line xx...x"), row("line xx.x.x"), []int{5, 4, 3, 2, 1, 0}}, {row("line xx...x"), row("line xx...x"), []int{5, 4, 3}}, {impl.Row{Seats: 5, Taken: []int{3, 1}}, impl.Row{Seats: 5, Taken: []int{4, 3, 1}}, []int{4, 3, 2, 1, 0}}, {},
	} {
		taken, one := inside(c.r.Taken)
		others, two := inside(c.s.Taken)
		order, three := inside(c.order)
		kept := told(one, two, three)
		r := impl.Row{Seats: c.r.Seats, Ring: c.r.Ring, Taken: taken}
		s := impl.Row{Seats: c.s.Seats, Ring: c.s.Ring, Taken: others}
		for p := -1; p <= 3; p++ {
			first := fillCalls(r, s, p, order)
			if again := fillCalls(c.r, c.s, p, c.order); !slices.Equal(first, again) {
				t.Errorf("other results the second time: %v and %v", first, again)
			}
			if told(one, two, three) != kept {
				t.Fatalf("a call with %v, %v, %v changed its arguments: %v %v %v", c.r, c.s, c.order, one, two, three)
			}
		}
	}
}

// TestFilledRowsShareNoMemory changes what the functions gave out, and expects that nothing else changes: neither the arguments nor another result.
func TestFilledRowsShareNoMemory(t *testing.T) {
	for _, text := range []string{"ring x...x..x", "ring xxxxxx", "ring ......", "line x......", "line .x.x", "line ...x", "line xx"} {
		r := row(text)
		order := []int{}
		for p := range r.Seats {
			order = append(order, p)
		}
		kept := told(r, order)
		var lists [][]int
		for range 2 {
			filled, _ := impl.FillBy(r, order)
			lists = append(lists, filled.Taken)
			finals, _ := impl.FinalRows(r)
			for _, s := range finals {
				lists = append(lists, s.Taken)
			}
		}
		for i, list := range lists {
			for j := range list[:cap(list)] {
				list[:cap(list)][j] = -i - 1
			}
		}
		for i, list := range lists {
			if slices.ContainsFunc(list, func(p int) bool { return p != -i-1 }) {
				t.Errorf("%q: the result %d shares memory with another one", text, i)
			}
		}
		if told(r, order) != kept {
			t.Errorf("%q: a result shares memory with an argument", text)
		}
	}
}
