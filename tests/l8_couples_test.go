package tests

import (
	"fmt"
	"math"
	"slices"
	"strings"
	"testing"

	"loop.example/g01167/impl"
)

// rule returns the Rule whose lines of Near a text shows, one for each kind.
func rule(text string) impl.Rule {
	lines := strings.Split(text, "/")
	return impl.Rule{Kinds: len(lines), Near: digits(strings.Join(lines, ""))}
}

// may tells whether the kinds a and b may be neighbors.
func may(u impl.Rule, a int, b int) bool { return u.Near[u.Kinds*a+b] == 1 }

// allRules returns all valid Rules of so many kinds.
func allRules(kinds int) []impl.Rule {
	var list []impl.Rule
	pairs := kinds * (kinds + 1) / 2
	for set := range 1 << pairs {
		near := make([]int, kinds*kinds)
		for a := range kinds {
			for b := range a + 1 {
				bit := set & 1
				set >>= 1
				near[a*kinds+b], near[b*kinds+a] = bit, bit
			}
		}
		list = append(list, impl.Rule{Kinds: kinds, Near: near})
	}
	return list
}

// oneRule returns the Rule of so many kinds by which all pairs of neighbors are as told.
func oneRule(kinds int, near int) impl.Rule {
	return impl.Rule{Kinds: kinds, Near: slices.Repeat([]int{near}, kinds*kinds)}
}

// someRules returns Rules of all numbers of kinds.
func someRules() []impl.Rule {
	list := slices.Concat(allRules(1), allRules(2))
	for _, text := range []string{"111/111/111", "000/000/000", "011/101/110", "110/111/011", "010/101/010", "100/010/001", "001/011/111", "010/100/001", "101/000/101"} {
		list = append(list, rule(text))
	}
	return list
}

// badRules returns Rules that are not valid.
func badRules() []impl.Rule {
	list := []impl.Rule{
		{}, {Near: []int{1}}, {Kinds: 1}, {Kinds: 2}, {Kinds: 3}, oneRule(impl.MaxKinds+1, 1), oneRule(impl.MaxKinds+1, 0), oneRule(4, 1), oneRule(10, 1), {Kinds: -1, Near: []int{1}}, {Kinds: -2, Near: []int{1, 1, 1, 1}}, {Kinds: -3, Near: slices.Repeat([]int{1}, 9)},
		{Kinds: math.MinInt}, {Kinds: math.MaxInt}, {Kinds: 1 << 32}, {Kinds: 1<<32 + 1, Near: []int{1}}, {Kinds: math.MinInt, Near: []int{0}}, {Kinds: math.MaxInt, Near: []int{1}}, {Kinds: 1, Near: make([]int, 100000)}, {Kinds: 3, Near: make([]int, 100000)},
		rule("01/00"), rule("00/10"), rule("11/01"), rule("010/000/000"), rule("001/000/000"), rule("000/001/000"), rule("111/110/111"), rule("110/111/111"), rule("101/111/111"),
	}
	for kinds := 1; kinds <= impl.MaxKinds; kinds++ {
		many := kinds * kinds
		list = append(list, impl.Rule{Kinds: kinds, Near: slices.Repeat([]int{1}, many-1)}, impl.Rule{Kinds: kinds, Near: slices.Repeat([]int{1}, many+1)}, impl.Rule{Kinds: kinds, Near: slices.Repeat([]int{0}, 2*many)}, impl.Rule{Kinds: kinds + 1, Near: slices.Repeat([]int{1}, many)})
		for a := range kinds {
			for b := range kinds {
				for _, other := range []int{2, -1, 3, 10, math.MinInt, math.MaxInt, 1 << 32, 1<<32 + 1} {
					u := oneRule(kinds, 1)
					u.Near[a*kinds+b], u.Near[b*kinds+a] = other, other
					list = append(list, u)
				}
			}
		}
	}
	return list
}

// fits tells whether a list of kinds fits, from the kinds of all seats: -1 for those that are taken.
func fits(r impl.Row, u impl.Rule, kinds []int) bool {
	at := slices.Repeat([]int{-1}, r.Seats)
	for i, p := range theSeats(r, false) {
		at[p] = kinds[i]
	}
	for p := range r.Seats {
		for _, q := range neighborsOf(r, p) {
			if at[p] >= 0 && at[q] >= 0 && !may(u, at[p], at[q]) {
				return false
			}
		}
	}
	return true
}

// countsIn tells how often a list has each kind.
func countsIn(kinds int, list []int) []int {
	counts := make([]int, kinds)
	for _, kind := range list {
		counts[kind]++
	}
	return counts
}

// sums calls a function with all lists of so many numbers of at least 0 that have a sum.
func sums(length int, sum int, each func([]int)) {
	listsOf(length, 0, sum, func(list []int) {
		all := 0
		for _, n := range list {
			all += n
		}
		if all == sum {
			each(list)
		}
	})
}

// tallies tells for all counts how many lists of kinds fit.
type tallies map[[impl.MaxKinds]int]int

// times tells the tallies of seats that do not matter to each other.
func (t tallies) times(others tallies) tallies {
	all := tallies{}
	for a, m := range t {
		for b, n := range others {
			all[[impl.MaxKinds]int{a[0] + b[0], a[1] + b[1], a[2] + b[2]}] += m * n
		}
	}
	return all
}

// anything is in the place of a kind that may be any.
const anything = -1

// chain tells the tallies of seats that follow one another, with the first one also beside the last one on a ring, when each one has a kind that it must have, or may have anything.
func chain(u impl.Rule, must []int, ring bool) tallies {
	all := tallies{}
	for first := range u.Kinds {
		if must[0] != anything && must[0] != first {
			continue
		}
		ends := make([]tallies, u.Kinds)
		var one [impl.MaxKinds]int
		one[first] = 1
		ends[first] = tallies{one: 1}
		for _, own := range must[1:] {
			longer := make([]tallies, u.Kinds)
			for kind := range longer {
				longer[kind] = tallies{}
				for before, lists := range ends {
					if own != anything && own != kind || !may(u, before, kind) {
						continue
					}
					for counts, n := range lists {
						counts[kind]++
						longer[kind][counts] += n
					}
				}
			}
			ends = longer
		}
		for last, lists := range ends {
			if ring && !may(u, last, first) {
				continue
			}
			for counts, n := range lists {
				all[counts] += n
			}
		}
	}
	return all
}

// talliesOf tells the tallies of a Row, run by run, when the first free seats must have the kinds of a list.
func talliesOf(r impl.Row, u impl.Rule, began []int) tallies {
	must := slices.Repeat([]int{anything}, r.Seats)
	for i, kind := range began {
		must[theSeats(r, false)[i]] = kind
	}
	if len(r.Taken) == 0 {
		return chain(u, must, r.Ring)
	}
	// On a ring one begins behind a taken seat, so that no run goes on at its other end.
	start := 0
	if r.Ring {
		start = r.Taken[0]
	}
	all := tallies{{}: 1}
	var run []int
	for i := range r.Seats {
		p := (start + i) % r.Seats
		if !slices.Contains(r.Taken, p) {
			run = append(run, must[p])
		}
		if len(run) > 0 && (i == r.Seats-1 || slices.Contains(r.Taken, (p+1)%r.Seats)) {
			all = all.times(chain(u, run, false))
			run = nil
		}
	}
	return all
}

func TestIsRule(t *testing.T) {
	for kinds := 1; kinds <= impl.MaxKinds; kinds++ {
		for _, u := range allRules(kinds) {
			if !impl.IsRule(u) {
				t.Errorf("no Rule: %v", u)
			}
		}
	}
	for _, u := range badRules() {
		if impl.IsRule(u) {
			t.Errorf("a Rule: %.100s", fmt.Sprint(u))
		}
	}
}

// TestRulesOfAllLists tries all lists of 0, 1 and 2 for one and for two kinds, and all of 0 and 1 for three.
func TestRulesOfAllLists(t *testing.T) {
	check := func(kinds int, near []int) {
		want := len(near) == kinds*kinds && !slices.Contains(near, 2)
		for a := 0; want && a < kinds; a++ {
			for b := range kinds {
				want = want && near[a*kinds+b] == near[b*kinds+a]
			}
		}
		if impl.IsRule(impl.Rule{Kinds: kinds, Near: near}) != want {
			t.Errorf("IsRule of %d kinds, %v is not %v", kinds, near, want)
		}
	}
	for length := range 7 {
		listsOf(length, 0, 2, func(near []int) { check(1, near); check(2, near) })
	}
	for length := 8; length <= 10; length++ {
		listsOf(length, 0, 1, func(near []int) { check(3, near) })
	}
}

func TestKindsFit(t *testing.T) {
	for _, c := range []struct {
		row, rule, kinds string
		want             bool
	}{
		{"line ...", "11/10", "1 1 0", false}, {"line ...", "11/10", "1 0 1", true}, {"ring ...", "11/10", "1 0 1", false}, {"ring ...", "11/10", "1 0 0", true}, {"line ...", "11/10", "0 1 1", false}, {"line ...", "11/10", "0 0 0", true}, {"line x..", "11/10", "1 1", false}, {"line .x.", "11/10", "1 1", true}, {"ring .x.", "11/10", "1 1", false}, {"ring .x.", "11/10", "1 0", true},
		{"ring x..", "11/10", "1 1", false}, {"ring ..x", "11/10", "1 1", false}, {"line ..x", "11/10", "1 1", false}, {"line ..x..", "01/10", "0 1 1 0", true}, {"line ..x..", "01/10", "0 1 0 1", true}, {"line ..x..", "01/10", "0 0 1 0", false}, {"ring ..x..", "01/10", "0 1 0 1", true}, {"ring ..x..", "01/10", "0 1 1 0", false}, {"ring ..x..", "01/10", "1 0 1 0", true},
		{"line .x.x.", "0", "0 0 0", true}, {"ring .x.x.", "0", "0 0 0", false}, {"ring .x.x.x", "0", "0 0 0", true}, {"line ..", "0", "0 0", false}, {"line ..", "1", "0 0", true}, {"line xx", "0", "", true}, {"line xx", "1", "", true}, {"ring xxx", "000/000/000", "", true}, {"line .x", "0", "0", true}, {"line x.", "00/00", "1", true}, {"ring .xx", "0", "0", true}, {"ring x.x", "000/000/000", "2", true}, {"ring xx.", "000/000/000", "1", true},
		{"line ...", "011/101/110", "0 1 2", true}, {"ring ...", "011/101/110", "0 1 2", true}, {"ring ...", "011/101/110", "0 1 0", false}, {"line ...", "010/101/010", "0 1 2", true}, {"ring ...", "010/101/010", "0 1 2", false}, {"line ...", "010/101/010", "0 2 1", false}, {"line ....", "001/010/100", "1 1 1 1", true}, {"line ....", "001/010/100", "0 2 0 2", true}, {"line ....", "001/010/100", "2 0 1 1", false},
		{"line ........................", "01/10", "0 1 0 1 0 1 0 1 0 1 0 1 0 1 0 1 0 1 0 1 0 1 0 1", true}, {"ring ........................", "01/10", "0 1 0 1 0 1 0 1 0 1 0 1 0 1 0 1 0 1 0 1 0 1 0 1", true}, {"ring .......................", "01/10", "0 1 0 1 0 1 0 1 0 1 0 1 0 1 0 1 0 1 0 1 0 1 0", false}, {"line .......................", "01/10", "0 1 0 1 0 1 0 1 0 1 0 1 0 1 0 1 0 1 0 1 0 1 0", true},
	} {
		if fit, ok := impl.KindsFit(row(c.row), rule(c.rule), numbers(c.kinds)); fit != c.want || !ok {
			t.Errorf("KindsFit(%q, %q, %q) = %v, %v", c.row, c.rule, c.kinds, fit, ok)
		}
	}
}

// twos returns two kinds by turns, as a text.
func twos(one string, other string, many int) string {
	return strings.Join(slices.Repeat([]string{one, other}, many)[:many], " ")
}

// blocks returns each kind so often as a list tells, in ascending order.
func blocks(counts ...int) string {
	text := ""
	for kind, many := range counts {
		text += strings.Repeat(fmt.Sprint(" ", kind), many)
	}
	return text
}

func TestCountKinds(t *testing.T) {
	for _, c := range []struct {
		row, rule, counts string
		want              int
		first             string
	}{
		{"line ...", "11/10", "2 1", 3, "0 0 1"}, {"line ...", "11/10", "1 2", 1, "1 0 1"}, {"line ...", "11/10", "3 0", 1, "0 0 0"}, {"line ...", "11/10", "0 3", 0, ""}, {"ring ...", "11/10", "2 1", 3, "0 0 1"}, {"ring ...", "11/10", "1 2", 0, ""}, {"ring ....", "11/10", "2 2", 2, "0 1 0 1"}, {"line ....", "11/10", "2 2", 3, "0 1 0 1"}, {"line ....", "01/10", "2 2", 2, "0 1 0 1"}, {"line ....", "10/01", "2 2", 0, ""}, {"line ....", "10/01", "0 4", 1, "1 1 1 1"},
		{"line ..x..", "10/01", "2 2", 2, "0 0 1 1"}, {"ring ..x..", "10/01", "2 2", 0, ""}, {"ring .x..x.", "10/01", "2 2", 2, "0 1 1 0"}, {"line .x..x.", "10/01", "2 2", 2, "0 1 1 0"}, {"line .x..x.", "10/01", "3 1", 2, "0 0 0 1"}, {"line .x..x.", "10/01", "1 3", 2, "0 1 1 1"}, {"ring .x..x.", "10/01", "3 1", 0, ""}, {"line .x.", "00/00", "1 1", 2, "0 1"}, {"ring .x.", "00/00", "1 1", 0, ""}, {"ring .x.", "01/10", "1 1", 2, "0 1"},
		{"line x.x", "00/00", "0 1", 1, "1"}, {"ring x.x", "0", "1", 1, "0"}, {"line .x", "00/00", "1 0", 1, "0"}, {"line ..", "0", "2", 0, ""}, {"line ..", "1", "2", 1, "0 0"}, {"line xx", "0", "0", 1, ""}, {"line xx", "1", "0", 1, ""}, {"ring xxx", "11/11", "0 0", 1, ""}, {"ring xxxx", "000/000/000", "0 0 0", 1, ""},
		{"ring ...", "011/101/110", "1 1 1", 6, "0 1 2"}, {"ring ...", "011/101/110", "2 1 0", 0, ""}, {"line ...", "011/101/110", "2 1 0", 1, "0 1 0"}, {"line ...", "010/101/010", "1 1 1", 2, "0 1 2"}, {"ring ...", "010/101/010", "1 1 1", 0, ""}, {"line .....", "010/101/010", "2 2 1", 3, "0 1 0 1 2"}, {"line ....", "001/010/100", "1 2 1", 0, ""}, {"line ..x..", "001/010/100", "1 2 1", 4, "0 2 1 1"}, {"line ....", "111/111/111", "1 2 1", 12, "0 1 1 2"}, {"ring ....", "111/111/111", "0 1 3", 4, "1 2 2 2"},
		{"line " + dots(24), "01/10", "12 12", 2, twos("0", "1", 24)}, {"ring " + dots(24), "01/10", "12 12", 2, twos("0", "1", 24)}, {"line " + dots(24), "01/10", "13 11", 0, ""}, {"line " + dots(23), "01/10", "12 11", 1, twos("0", "1", 23)}, {"line " + dots(23), "01/10", "11 12", 1, twos("1", "0", 23)}, {"ring " + dots(23), "01/10", "12 11", 0, ""}, {"line " + dots(24), "11/10", "14 10", 3003, "0 0 0 0 0 " + twos("1", "0", 19)}, {"ring " + dots(24), "11/10", "14 10", 1716, "0 0 0 0 0 " + twos("1", "0", 19)}, {"line " + dots(24), "11/10", "12 12", 13, twos("0", "1", 24)}, {"ring " + dots(24), "11/10", "12 12", 2, twos("0", "1", 24)}, {"line " + dots(24), "11/10", "11 13", 0, ""},
		{"line " + dots(24), "111/111/111", "8 8 8", 9465511770, blocks(8, 8, 8)}, {"ring " + dots(24), "111/111/111", "8 8 8", 9465511770, blocks(8, 8, 8)}, {"ring " + dots(24), "111/111/111", "0 1 23", 24, blocks(0, 1, 23)}, {"line " + dots(24), "1", "24", 1, blocks(24)}, {"ring " + dots(24), "0", "24", 0, ""}, {"line " + strings.Repeat(".x", 12), "000/000/000", "4 4 4", 34650, blocks(4, 4, 4)}, {"ring " + strings.Repeat("x.", 12), "000/000/000", "4 4 4", 34650, blocks(4, 4, 4)}, {"line " + crosses(24), "000/000/000", "0 0 0", 1, ""},
	} {
		r, u, counts := row(c.row), rule(c.rule), numbers(c.counts)
		if count, ok := impl.CountKinds(r, u, counts); count != c.want || !ok {
			t.Errorf("CountKinds(%q, %q, %v) = %d, %v", c.row, c.rule, counts, count, ok)
		}
		first, ok := impl.FirstKinds(r, u, counts)
		if !slices.Equal(first, numbers(c.first)) || ok != (c.want > 0) {
			t.Errorf("FirstKinds(%q, %q, %v) = %v, %v", c.row, c.rule, counts, first, ok)
		}
	}
}

func TestCountFitting(t *testing.T) {
	for _, c := range []struct {
		row, rule string
		want      int
	}{
		{"line ...", "11/10", 5}, {"ring ...", "11/10", 4}, {"line ..x..", "11/10", 9}, {"ring ..x..", "11/10", 8}, {"line ..", "01/10", 2}, {"ring ...", "01/10", 0}, {"ring ....", "01/10", 2}, {"line xx", "0", 1}, {"ring xxx", "111/111/111", 1}, {"line .x", "000/000/000", 3}, {"line .x.", "00/00", 4}, {"ring .x.", "00/00", 0}, {"ring .x.", "10/01", 2}, {"line ..", "0", 0}, {"line ..", "1", 1},
		{"line ..", "010/101/010", 4}, {"line ...", "010/101/010", 6}, {"line ....", "010/101/010", 8}, {"ring ...", "010/101/010", 0}, {"ring ....", "010/101/010", 8}, {"ring ...", "011/101/110", 6}, {"ring ....", "011/101/110", 18},
		{"line " + dots(24), "11/10", 121393}, {"ring " + dots(24), "11/10", 103682}, {"ring " + dots(24), "011/101/110", 16777218}, {"ring " + dots(23), "011/101/110", 8388606}, {"line " + dots(24), "011/101/110", 25165824}, {"line " + dots(24), "111/111/111", 282429536481}, {"ring " + dots(24), "111/111/111", 282429536481}, {"line " + dots(24), "000/000/000", 0}, {"line " + strings.Repeat("x.", 12), "000/000/000", 531441}, {"ring " + strings.Repeat("x.", 12), "000/000/000", 531441}, {"ring " + dots(24), "11/11", 16777216}, {"ring " + dots(23) + "x", "100/010/001", 3}, {"line " + dots(12) + "x" + dots(11), "100/010/001", 9}, {"ring " + dots(12) + "x" + dots(11), "100/010/001", 3},
	} {
		if count, ok := impl.CountFitting(row(c.row), rule(c.rule)); count != c.want || !ok {
			t.Errorf("CountFitting(%q, %q) = %d, %v", c.row, c.rule, count, ok)
		}
	}
}

// tried holds all functions of kinds against all lists of kinds for a Row, tried one by one: it checks promise 8.
func tried(t *testing.T, r impl.Row, u impl.Rule) {
	t.Helper()
	name := fmt.Sprintf("%q, %v", shown(r), u)
	free := len(theSeats(r, false))
	all := 0
	many := map[string]int{}
	firsts := map[string][]int{}
	listsOf(free, 0, u.Kinds-1, func(kinds []int) {
		want := fits(r, u, kinds)
		if fit, ok := impl.KindsFit(r, u, kinds); fit != want || !ok {
			t.Errorf("KindsFit(%s, %v) = %v, %v", name, kinds, fit, ok)
		}
		if !want {
			return
		}
		all++
		counts := fmt.Sprint(countsIn(u.Kinds, kinds))
		if many[counts]++; many[counts] == 1 {
			firsts[counts] = slices.Clone(kinds)
		}
	})
	sum := 0
	sums(u.Kinds, free, func(counts []int) {
		want := many[fmt.Sprint(counts)]
		count, ok := impl.CountKinds(r, u, counts)
		if count != want || !ok {
			t.Errorf("CountKinds(%s, %v) = %d, %v, not %d", name, counts, count, ok, want)
		}
		sum += count
		first, ok := impl.FirstKinds(r, u, counts)
		if !slices.Equal(first, firsts[fmt.Sprint(counts)]) || ok != (want > 0) {
			t.Errorf("FirstKinds(%s, %v) = %v, %v, not %v", name, counts, first, ok, firsts[fmt.Sprint(counts)])
		}
	})
	if count, ok := impl.CountFitting(r, u); count != all || sum != all || !ok {
		t.Errorf("CountFitting(%s) = %d, %v, not %d, and the sum is %d", name, count, ok, all, sum)
	}
}

// TestAllListsOfKinds tries all lists for all Rows of few seats by all Rules, and for some Rows of more by some.
func TestAllListsOfKinds(t *testing.T) {
	for kinds := 1; kinds <= impl.MaxKinds; kinds++ {
		for _, u := range allRules(kinds) {
			for seats := 2; seats <= 5; seats++ {
				for _, r := range allRows(seats) {
					tried(t, r, u)
				}
			}
		}
	}
	for _, u := range someRules() {
		for _, r := range allRows(6) {
			tried(t, r, u)
		}
		for _, text := range []string{"line ........", "ring ........", "ring ...x....", "line ..x...x..", "ring ..x...x..", "ring .xx.....x", "line x.......x", "ring .........x", "line ....xxx....", "ring ....xxx....", "ring .x.x.x.x.x.x.x.", "ring " + crosses(17) + ".......", "line .." + crosses(20) + "..", "ring .." + crosses(20) + ".."} {
			tried(t, row(text), u)
		}
	}
}

// longRows returns Rows of many seats.
func longRows() []impl.Row {
	var list []impl.Row
	for _, signs := range []string{
		dots(24), dots(23) + "x", "x" + dots(23), dots(12) + "x" + dots(11), "..x....x.xx.....x....xx.", "............x..........x", strings.Repeat(".x", 12), strings.Repeat("...x", 6), dots(16), dots(15), "......x.......", ".x" + dots(14),
	} {
		list = append(list, row("line "+signs), row("ring "+signs))
	}
	return list
}

// TestKindsOfLongRows holds the counts for Rows of many seats, which are too many lists to be tried, against those that are found run by run.
func TestKindsOfLongRows(t *testing.T) {
	for _, r := range longRows() {
		free := len(theSeats(r, false))
		for _, u := range someRules() {
			want := talliesOf(r, u, nil)
			all := 0
			for _, n := range want {
				all += n
			}
			if count, ok := impl.CountFitting(r, u); count != all || !ok {
				t.Errorf("CountFitting(%q, %v) = %d, %v, not %d", shown(r), u, count, ok, all)
			}
			met := 0
			sums(u.Kinds, free, func(counts []int) {
				// Three kinds have so many counts that only some of them are taken.
				if met++; u.Kinds == impl.MaxKinds && met%23 != 7 {
					return
				}
				var key [impl.MaxKinds]int
				copy(key[:], counts)
				if count, ok := impl.CountKinds(r, u, counts); count != want[key] || !ok {
					t.Errorf("CountKinds(%q, %v, %v) = %d, %v, not %d", shown(r), u, counts, count, ok, want[key])
				}
				first, ok := impl.FirstKinds(r, u, counts)
				if ok != (want[key] > 0) || ok && (!slices.Equal(countsIn(u.Kinds, first), counts) || !fits(r, u, first)) {
					t.Errorf("FirstKinds(%q, %v, %v) = %v, %v, of %d", shown(r), u, counts, first, ok, want[key])
				}
			})
		}
	}
}

// TestNoListBeforeTheFirst checks promise 8 for Rows of many seats: if one place of FirstKinds has a lesser kind, there is no end with which the list fits and has its counts.
func TestNoListBeforeTheFirst(t *testing.T) {
	for _, c := range []struct{ row, rule, counts string }{
		{"line " + dots(16), "110/111/011", "5 6 5"}, {"ring " + dots(16), "110/111/011", "5 6 5"}, {"ring " + dots(15), "011/101/110", "5 5 5"}, {"ring " + dots(15), "011/101/110", "7 6 2"}, {"ring " + dots(16), "010/101/010", "3 8 5"}, {"line .." + dots(14), "001/011/111", "4 4 8"}, {"ring .." + dots(14), "001/011/111", "4 4 8"}, {"ring ......x..xx......", "110/111/011", "4 6 4"}, {"line ......x..xx......", "100/010/001", "6 2 6"}, {"ring ......x..xx......", "100/010/001", "2 0 12"}, {"line ....x....x....x....", "011/101/110", "8 4 4"}, {"ring ....x....x....x....", "011/101/110", "7 1 8"}, {"ring ..x....x.xx.....x....xx.", "011/101/110", "8 9 0"}, {"ring ..x....x.xx.....x....xx.", "001/011/111", "6 3 8"}, {"line " + dots(20), "11/10", "11 9"}, {"ring " + dots(20), "11/10", "11 9"}, {"ring " + dots(20), "01/11", "8 12"},
	} {
		r, u, counts := row(c.row), rule(c.rule), numbers(c.counts)
		first, ok := impl.FirstKinds(r, u, counts)
		if !ok {
			t.Errorf("FirstKinds(%q, %q, %v) fails", c.row, c.rule, counts)
		}
		key := [impl.MaxKinds]int{}
		copy(key[:], counts)
		for i := range first {
			for lesser := range first[i] {
				if n := talliesOf(r, u, append(slices.Clone(first[:i]), lesser))[key]; n > 0 {
					t.Errorf("FirstKinds(%q, %q, %v) = %v, but the place %d may have %d, in %d ways", c.row, c.rule, counts, first, i, lesser, n)
				}
			}
		}
	}
}

// TestAllKindsMayBeNeighbors checks promise 8: then there are as many lists as the power of the number of kinds; and if none may be, all free seats must be alone.
func TestAllKindsMayBeNeighbors(t *testing.T) {
	for _, r := range manyRows() {
		free := theSeats(r, false)
		alone := !slices.ContainsFunc(free, func(p int) bool {
			return slices.ContainsFunc(neighborsOf(r, p), func(q int) bool { return slices.Contains(free, q) })
		})
		for kinds := 1; kinds <= impl.MaxKinds; kinds++ {
			want := 1
			for range free {
				want *= kinds
			}
			if count, ok := impl.CountFitting(r, oneRule(kinds, 1)); count != want || !ok {
				t.Errorf("CountFitting(%q), all of %d kinds: %d, %v", shown(r), kinds, count, ok)
			}
			if !alone {
				want = 0
			}
			if count, ok := impl.CountFitting(r, oneRule(kinds, 0)); count != want || !ok {
				t.Errorf("CountFitting(%q), none of %d kinds: %d, %v", shown(r), kinds, count, ok)
			}
		}
	}
}

// briefly shows only the beginning of what may be long, and only when it is shown.
type briefly struct{ whole any }

func (b briefly) String() string { return fmt.Sprintf("%.80s", fmt.Sprint(b.whole)) }

// checkNoKinds expects that all functions of kinds fail that have a Row, a Rule, and a list.
func checkNoKinds(t *testing.T, r impl.Row, u impl.Rule, list []int) {
	t.Helper()
	failed(t, briefly{r}, briefly{u}, briefly{list}, "KindsFit")(impl.KindsFit(r, u, list))
	checkNoCounts(t, r, u, list)
}

func checkNoCounts(t *testing.T, r impl.Row, u impl.Rule, counts []int) {
	t.Helper()
	failed(t, briefly{r}, briefly{u}, briefly{counts}, "CountKinds")(impl.CountKinds(r, u, counts))
	failed(t, briefly{r}, briefly{u}, briefly{counts}, "FirstKinds")(impl.FirstKinds(r, u, counts))
}

// TestBadRules calls all functions of kinds with Rules that are not valid, and lists that would do for valid ones.
func TestBadRules(t *testing.T) {
	for _, u := range badRules() {
		for _, r := range []impl.Row{row("line xx"), row("line .x"), row("line .."), row("ring ..."), row("ring .x.."), row("line " + dots(24))} {
			free := len(theSeats(r, false))
			failed(t, briefly{r}, briefly{u}, "CountFitting")(impl.CountFitting(r, u))
			checkNoKinds(t, r, u, nil)
			checkNoKinds(t, r, u, make([]int, free))
			for length := range 6 {
				counts := make([]int, length)
				checkNoKinds(t, r, u, counts)
				for at := range counts {
					counts := slices.Clone(counts)
					counts[at] = free
					checkNoKinds(t, r, u, counts)
				}
			}
		}
	}
}

func TestRulesForBadRows(t *testing.T) {
	for _, r := range badRows() {
		for _, u := range someRules() {
			failed(t, briefly{r}, briefly{u}, "CountFitting")(impl.CountFitting(r, u))
			free := r.Seats - len(r.Taken)
			for _, list := range [][]int{nil, {0}, {1}, {0, 0}, {0, 0, 0}, {0, 1, 0, 1}, make([]int, u.Kinds), make([]int, min(max(free, 0), 30))} {
				checkNoKinds(t, r, u, list)
			}
			for at := range u.Kinds {
				for _, sum := range []int{free, r.Seats} {
					counts := make([]int, u.Kinds)
					counts[at] = sum
					checkNoCounts(t, r, u, counts)
				}
			}
		}
	}
}

// TestNoListsOfKinds calls KindsFit with lists that are too short, too long, or have a kind that there is not.
func TestNoListsOfKinds(t *testing.T) {
	for _, r := range manyRows() {
		free := len(theSeats(r, false))
		for kinds := 1; kinds <= impl.MaxKinds; kinds++ {
			u := oneRule(kinds, 1)
			for _, length := range []int{0, 1, free - 1, free + 1, r.Seats, r.Seats + 1, 2 * free, 300} {
				if length >= 0 && length != free {
					failed(t, shown(r), u, length, "KindsFit")(impl.KindsFit(r, u, make([]int, length)))
				}
			}
			for at := range free {
				for _, other := range append(noSeats(kinds), 1<<32, 10) {
					list := make([]int, free)
					list[at] = other
					failed(t, shown(r), u, list, "KindsFit")(impl.KindsFit(r, u, list))
				}
			}
		}
	}
}

// TestNoCounts calls CountKinds and FirstKinds with lists that have not a number of at least 0 for each kind, or another sum.
func TestNoCounts(t *testing.T) {
	for _, r := range manyRows() {
		free := len(theSeats(r, false))
		for kinds := 1; kinds <= impl.MaxKinds; kinds++ {
			u := oneRule(kinds, 1)
			checkNoCounts(t, r, u, nil)
			for _, length := range []int{kinds - 1, kinds + 1, kinds + 2, 100} {
				for _, at := range []int{0, length - 1} {
					counts := make([]int, length)
					if length > 0 {
						counts[at] = free
					}
					checkNoCounts(t, r, u, counts)
				}
			}
			for at := range kinds {
				for _, other := range append(noSeats(free), free-1, 2*free+1, -free-1) {
					counts := make([]int, kinds)
					if counts[at] = other; other != free {
						checkNoCounts(t, r, u, counts)
					}
					// The sum is right, also where it is one modulo 2 to the power of 64, but one of both numbers is less than 0.
					if next := (at + 1) % kinds; next != at && (other < 0 || other > free) {
						counts[next] = free - other
						checkNoCounts(t, r, u, counts)
					}
				}
			}
			if kinds == 3 {
				checkNoCounts(t, r, u, []int{math.MaxInt, math.MaxInt, free + 2})
				checkNoCounts(t, r, u, []int{math.MinInt, math.MinInt, free})
				checkNoCounts(t, r, u, []int{free, -1, 1})
			}
		}
	}
}

// hasParties tells for which numbers of couples there are parties.
func hasParties(k int, ring bool) bool { return k >= 1 && k <= impl.MaxCouples && !(ring && k == 1) }

// noCouples returns numbers of couples for which there are no parties; with some, 2 k is a small number modulo 2 to the power of 64.
func noCouples() []int {
	return []int{0, -1, -2, -impl.MaxCouples, impl.MaxCouples + 1, impl.MaxCouples + 2, 2 * impl.MaxCouples, 100, math.MinInt, math.MaxInt, math.MinInt + 1, math.MinInt + 2, math.MaxInt - 1, math.MaxInt/2 + 1, math.MaxInt/2 + 3, 1 << 32, 1<<32 + 2}
}

// eachTable calls a function with all numbers of couples for which there are parties, in a line and on a ring.
func eachTable(most int, each func(k int, ring bool)) {
	for k := 1; k <= most; k++ {
		for _, ring := range []bool{false, true} {
			if hasParties(k, ring) {
				each(k, ring)
			}
		}
	}
}

// areNeighbors tells whether two of so many seats are neighbors.
func areNeighbors(seats int, ring bool, a int, b int) bool {
	steps := max(a, b) - min(a, b)
	return steps == 1 || ring && steps == seats-1
}

// couplesOf counts the couples of a party that sit together, couple by couple.
func couplesOf(k int, ring bool, party []int) int {
	count := 0
	for i := range k {
		if areNeighbors(2*k, ring, slices.Index(party, 2*i), slices.Index(party, 2*i+1)) {
			count++
		}
	}
	return count
}

// isMenage tells whether nobody on a ring sits beside somebody of the same couple, nor beside a number that is even or odd as the own one.
func isMenage(party []int) bool {
	for p, person := range party {
		next := party[(p+1)%len(party)]
		if person/2 == next/2 || person%2 == next%2 {
			return false
		}
	}
	return true
}

// pairedSeats calls a function with all ways to make pairs of seats.
func pairedSeats(left []int, pairs [][2]int, each func([][2]int)) {
	if len(left) == 0 {
		each(pairs)
		return
	}
	for i := 1; i < len(left); i++ {
		others := slices.Delete(slices.Clone(left), i, i+1)[1:]
		pairedSeats(others, append(pairs[:len(pairs):len(pairs)], [2]int{left[0], left[i]}), each)
	}
}

// allOrders returns the number of orders of so many people.
func allOrders(people int) int {
	count := 1
	for n := 2; n <= people; n++ {
		count *= n
	}
	return count
}

// someParties returns all parties of at most 3 couples, and some of more.
func someParties(k int) [][]int {
	var list [][]int
	if k <= 3 {
		orders(2*k, nil, func(order []int) { list = append(list, order) })
		return list
	}
	for _, way := range longSeatings(2*k, 2*k) {
		list = append(list, way.seats)
	}
	return list
}

func TestIsParty(t *testing.T) {
	for _, c := range []struct {
		k     int
		party string
		want  bool
	}{
		{1, "0 1", true}, {1, "1 0", true}, {1, "0 0", false}, {1, "1 1", false}, {1, "0", false}, {1, "", false}, {1, "0 1 2", false}, {1, "0 2", false}, {1, "-1 0", false}, {1, "1 2", false}, {2, "0 1 2", false}, {2, "0 2 1 3", true}, {2, "3 2 1 0", true}, {2, "0 1 2 3", true}, {2, "0 1 2 4", false}, {2, "1 2 3 4", false}, {2, "0 1 2 2", false}, {2, "0 1", false}, {2, "0 1 2 3 4", false}, {2, "0 1 2 3 3", false}, {2, "-1 0 1 2", false}, {3, "5 0 4 1 3 2", true}, {3, "5 0 4 1 3", false}, {3, "5 0 4 1 3 3", false}, {3, "1 1 1 4 4 4", false}, {3, "6 0 4 1 3 2", false},
		{6, "11 0 10 1 9 2 8 3 7 4 6 5", true}, {6, "11 0 10 1 9 2 8 3 7 4 6 6", false}, {6, "11 0 10 1 9 2 8 3 7 4 6", false}, {6, "11 0 10 1 9 2 8 3 7 4 6 5 12", false}, {6, "12 0 10 1 9 2 8 3 7 4 6 5", false}, {5, "11 0 10 1 9 2 8 3 7 4 6 5", false},
	} {
		for _, ring := range []bool{false, true} {
			if !hasParties(c.k, ring) {
				continue
			}
			if is, ok := impl.IsParty(c.k, ring, numbers(c.party)); is != c.want || !ok {
				t.Errorf("IsParty(%d, %v, %q) = %v, %v", c.k, ring, c.party, is, ok)
			}
		}
	}
}

// TestPartiesOfAllLists tries all short lists: those are parties that are found as such.
func TestPartiesOfAllLists(t *testing.T) {
	eachTable(2, func(k int, ring bool) {
		all := map[string]bool{}
		orders(2*k, nil, func(order []int) { all[fmt.Sprint(order)] = true })
		for length := range 2*k + 2 {
			listsOf(length, -1, 2*k, func(list []int) {
				want := all[fmt.Sprint(list)]
				if is, ok := impl.IsParty(k, ring, list); is != want || !ok {
					t.Errorf("IsParty(%d, %v, %v) = %v, %v", k, ring, list, is, ok)
				}
				if together, ok := impl.CouplesTogether(k, ring, list); ok != want || !ok && together != 0 {
					t.Errorf("CouplesTogether(%d, %v, %v) = %d, %v", k, ring, list, together, ok)
				}
			})
		}
	})
}

func TestCouplesTogether(t *testing.T) {
	for _, c := range []struct {
		k          int
		party      string
		line, ring int
	}{
		{2, "0 2 1 3", 0, 0}, {2, "0 1 2 3", 2, 2}, {2, "1 0 3 2", 2, 2}, {2, "0 2 3 1", 1, 2}, {2, "1 3 2 0", 1, 2}, {2, "2 1 0 3", 1, 2}, {2, "2 0 3 1", 0, 0}, {3, "0 1 2 3 4 5", 3, 3}, {3, "1 2 3 4 5 0", 2, 3}, {3, "0 2 4 1 3 5", 0, 0}, {3, "0 2 4 3 5 1", 0, 1}, {3, "1 2 3 4 0 5", 1, 1}, {3, "4 0 1 2 3 5", 2, 3}, {3, "1 2 4 5 3 0", 1, 2}, {3, "2 1 4 3 0 5", 0, 0}, {3, "5 1 2 3 0 4", 1, 2},
		{6, "0 1 2 3 4 5 6 7 8 9 10 11", 6, 6}, {6, "1 2 3 4 5 6 7 8 9 10 11 0", 5, 6}, {6, "0 2 1 3 4 6 5 7 8 10 9 11", 0, 0}, {6, "11 9 8 7 6 5 4 3 2 1 0 10", 5, 6}, {6, "11 8 9 6 7 1 4 5 2 3 0 10", 4, 5},
	} {
		if together, ok := impl.CouplesTogether(c.k, false, numbers(c.party)); together != c.line || !ok {
			t.Errorf("CouplesTogether(%d, in a line, %q) = %d, %v", c.k, c.party, together, ok)
		}
		if together, ok := impl.CouplesTogether(c.k, true, numbers(c.party)); together != c.ring || !ok {
			t.Errorf("CouplesTogether(%d, on a ring, %q) = %d, %v", c.k, c.party, together, ok)
		}
	}
	for _, party := range []string{"0 1", "1 0"} {
		if together, ok := impl.CouplesTogether(1, false, numbers(party)); together != 1 || !ok {
			t.Errorf("CouplesTogether(1, in a line, %q) = %d, %v", party, together, ok)
		}
	}
}

func TestCoupleCounts(t *testing.T) {
	for _, c := range []struct {
		k          int
		line, ring string
	}{
		{1, "0 2", ""}, {2, "8 8 8", "8 0 16"}, {3, "240 288 144 48", "192 288 144 96"},
	} {
		if counts, ok := impl.CoupleCounts(c.k, false); !slices.Equal(counts, numbers(c.line)) || !ok {
			t.Errorf("CoupleCounts(%d, in a line) = %v, %v", c.k, counts, ok)
		}
		if counts, ok := impl.CoupleCounts(c.k, true); !slices.Equal(counts, numbers(c.ring)) || ok != (c.k > 1) {
			t.Errorf("CoupleCounts(%d, on a ring) = %v, %v", c.k, counts, ok)
		}
	}
}

// TestAllParties tries all parties of few couples one by one, and checks promise 8: they are counted by the couples that sit together, and the first one with none is FirstApart.
func TestAllParties(t *testing.T) {
	eachTable(4, func(k int, ring bool) {
		counts := make([]int, k+1)
		menages := 0
		var apart []int
		orders(2*k, nil, func(party []int) {
			want := couplesOf(k, ring, party)
			counts[want]++
			if want == 0 && apart == nil {
				apart = party
			}
			if ring && isMenage(party) {
				menages++
			}
			if is, ok := impl.IsParty(k, ring, party); !is || !ok {
				t.Errorf("IsParty(%d, %v, %v) = %v, %v", k, ring, party, is, ok)
			}
			if together, ok := impl.CouplesTogether(k, ring, party); together != want || !ok {
				t.Errorf("CouplesTogether(%d, %v, %v) = %d, %v", k, ring, party, together, ok)
			}
		})
		if all, ok := impl.CoupleCounts(k, ring); !slices.Equal(all, counts) || !ok {
			t.Errorf("CoupleCounts(%d, %v) = %v, %v, not %v", k, ring, all, ok, counts)
		}
		if first, ok := impl.FirstApart(k, ring); !slices.Equal(first, apart) || ok != (counts[0] > 0) {
			t.Errorf("FirstApart(%d, %v) = %v, %v, not %v", k, ring, first, ok, apart)
		}
		if !ring {
			return
		}
		if count, ok := impl.MenageCount(k); count != menages || !ok {
			t.Errorf("MenageCount(%d) = %d, %v, not %d", k, count, ok, menages)
		}
	})
}

// TestPairedSeats checks promise 8 for all numbers of couples: each way to make pairs of seats is that of as many parties as there are ways to give the pairs to couples, and the seats of a pair to both.
func TestPairedSeats(t *testing.T) {
	eachTable(impl.MaxCouples, func(k int, ring bool) {
		want := make([]int, k+1)
		menages := 0
		pairedSeats(ascending(2*k), nil, func(pairs [][2]int) {
			together := 0
			mixed := true
			for _, pair := range pairs {
				if areNeighbors(2*k, ring, pair[0], pair[1]) {
					together++
				}
				mixed = mixed && (pair[0]+pair[1])%2 == 1
			}
			want[together] += allOrders(k) << k
			if mixed && together == 0 {
				// Those with even numbers have all even seats, or all odd ones.
				menages += 2 * allOrders(k)
			}
		})
		counts, ok := impl.CoupleCounts(k, ring)
		sum := 0
		for _, n := range counts {
			sum += n
		}
		if !slices.Equal(counts, want) || sum != allOrders(2*k) || !ok {
			t.Errorf("CoupleCounts(%d, %v) = %v, %v, not %v", k, ring, counts, ok, want)
		}
		if !ring {
			return
		}
		if count, ok := impl.MenageCount(k); count != menages || !ok {
			t.Errorf("MenageCount(%d) = %d, %v, not %d", k, count, ok, menages)
		}
	})
}

// canEndApart tells whether a beginning can go on to a party in which no couple sits together.
func canEndApart(k int, ring bool, began []int) bool {
	for p := 1; p < len(began); p++ {
		if began[p]/2 == began[p-1]/2 {
			return false
		}
	}
	if len(began) == 2*k {
		return couplesOf(k, ring, began) == 0
	}
	for person := range 2 * k {
		if !slices.Contains(began, person) && canEndApart(k, ring, append(slices.Clone(began), person)) {
			return true
		}
	}
	return false
}

// TestFirstApart checks promise 8: no couple sits together, no place can have a lesser person, and it fails exactly if the first number of CoupleCounts is 0.
func TestFirstApart(t *testing.T) {
	for _, c := range []struct {
		k    int
		want string
	}{
		{2, "0 2 1 3"}, {3, "0 2 1 4 3 5"}, {4, "0 2 1 3 4 6 5 7"}, {5, "0 2 1 3 4 6 5 8 7 9"}, {6, "0 2 1 3 4 6 5 7 8 10 9 11"},
	} {
		for _, ring := range []bool{false, true} {
			if party, ok := impl.FirstApart(c.k, ring); !slices.Equal(party, numbers(c.want)) || !ok {
				t.Errorf("FirstApart(%d, %v) = %v, %v", c.k, ring, party, ok)
			}
		}
	}
	failed(t, "FirstApart", 1)(impl.FirstApart(1, false))
	eachTable(impl.MaxCouples, func(k int, ring bool) {
		party, ok := impl.FirstApart(k, ring)
		counts, _ := impl.CoupleCounts(k, ring)
		if ok != (counts[0] > 0) {
			t.Errorf("FirstApart(%d, %v) = %v, %v, but CoupleCounts are %v", k, ring, party, ok, counts)
		}
		together, fine := impl.CouplesTogether(k, ring, party)
		if together != 0 || fine != ok {
			t.Errorf("FirstApart(%d, %v) = %v has %d couples together, %v", k, ring, party, together, fine)
		}
		for p, person := range party {
			for lesser := range person {
				if !slices.Contains(party[:p], lesser) && canEndApart(k, ring, append(slices.Clone(party[:p]), lesser)) {
					t.Errorf("FirstApart(%d, %v) = %v, but the place %d may have %d", k, ring, party, p, lesser)
				}
			}
		}
	})
}

func TestMenageCount(t *testing.T) {
	for k, want := range []int{2: 0, 3: 12, 4: 96, 5: 3120, 6: 115200} {
		if k < 2 {
			continue
		}
		if count, ok := impl.MenageCount(k); count != want || !ok {
			t.Errorf("MenageCount(%d) = %d, %v", k, count, ok)
		}
	}
	for _, k := range append(noCouples(), 1) {
		failed(t, "MenageCount", k)(impl.MenageCount(k))
	}
}

func TestFamilyCount(t *testing.T) {
	for _, c := range []struct {
		sizes      string
		line, ring int
	}{
		{"2 1", 4, 6}, {"1 2", 4, 6}, {"3", 6, 6}, {"1 1 1", 6, 6}, {"4", 24, 24}, {"2 2", 8, 16}, {"1 3", 12, 24}, {"1 1 2", 12, 16}, {"2 1 1", 12, 16}, {"1 1 1 1", 24, 24}, {"5", 120, 120}, {"2 3", 24, 60}, {"2 2 1", 24, 40}, {"3 1 2", 72, 144}, {"1 4 1", 144, 288},
		{"12", 479001600, 479001600}, {"1 1 1 1 1 1 1 1 1 1 1 1", 479001600, 479001600}, {"6 6", 1036800, 6220800}, {"11 1", 79833600, 479001600}, {"1 11", 79833600, 479001600}, {"3 4 5", 103680, 414720}, {"2 2 2 2 2 2", 46080, 92160}, {"4 4 4", 82944, 331776}, {"2 1 1 1 1 1 1 1 1 1 1", 79833600, 87091200}, {"7 5", 1209600, 7257600},
	} {
		if count, ok := impl.FamilyCount(numbers(c.sizes), false); count != c.line || !ok {
			t.Errorf("FamilyCount(%q, in a line) = %d, %v", c.sizes, count, ok)
		}
		if count, ok := impl.FamilyCount(numbers(c.sizes), true); count != c.ring || !ok {
			t.Errorf("FamilyCount(%q, on a ring) = %d, %v", c.sizes, count, ok)
		}
	}
	for _, c := range []struct {
		sizes string
		want  int
	}{
		{"1", 1}, {"2", 2}, {"1 1", 2},
	} {
		if count, ok := impl.FamilyCount(numbers(c.sizes), false); count != c.want || !ok {
			t.Errorf("FamilyCount(%q, in a line) = %d, %v", c.sizes, count, ok)
		}
		failed(t, "FamilyCount", c.sizes)(impl.FamilyCount(numbers(c.sizes), true))
	}
}

// keepsTogether tells whether each family has seats that follow one another: only one of them has a next seat that is not of the family, or none has.
func keepsTogether(families []int, ring bool) bool {
	ends := map[int]int{}
	for p, family := range families {
		next := (p + 1) % len(families)
		if next == 0 && !ring || families[next] != family {
			ends[family]++
		}
	}
	for _, n := range ends {
		if n > 1 {
			return false
		}
	}
	return true
}

// TestAllFamilies tries all orders of few people for all sizes of families.
func TestAllFamilies(t *testing.T) {
	for people := 1; people <= 6; people++ {
		for parts := 1; parts <= people; parts++ {
			sums(parts, people-parts, func(more []int) {
				var sizes, familyOf []int
				for family, n := range more {
					sizes = append(sizes, n+1)
					familyOf = append(familyOf, slices.Repeat([]int{family}, n+1)...)
				}
				line, ring := 0, 0
				orders(people, nil, func(order []int) {
					families := make([]int, people)
					for p, person := range order {
						families[p] = familyOf[person]
					}
					if keepsTogether(families, false) {
						line++
					}
					if people >= 3 && keepsTogether(families, true) {
						ring++
					}
				})
				if count, ok := impl.FamilyCount(sizes, false); count != line || !ok {
					t.Errorf("FamilyCount(%v, in a line) = %d, %v, not %d", sizes, count, ok, line)
				}
				if count, ok := impl.FamilyCount(sizes, true); count != ring || ok != (people >= 3) {
					t.Errorf("FamilyCount(%v, on a ring) = %d, %v, not %d", sizes, count, ok, ring)
				}
			})
		}
	}
}

// TestFamiliesAndCouples checks promise 8: families of one are as many ways as orders, and so are all people of a single family; families of two sit together as all couples do.
func TestFamiliesAndCouples(t *testing.T) {
	for people := 1; people <= impl.MaxFamily; people++ {
		for _, sizes := range [][]int{slices.Repeat([]int{1}, people), {people}} {
			if count, ok := impl.FamilyCount(sizes, false); count != allOrders(people) || !ok {
				t.Errorf("FamilyCount(%v, in a line) = %d, %v", sizes, count, ok)
			}
			if people < 3 {
				failed(t, "FamilyCount", sizes)(impl.FamilyCount(sizes, true))
			} else if count, ok := impl.FamilyCount(sizes, true); count != allOrders(people) || !ok {
				t.Errorf("FamilyCount(%v, on a ring) = %d, %v", sizes, count, ok)
			}
		}
	}
	eachTable(impl.MaxCouples, func(k int, ring bool) {
		counts, _ := impl.CoupleCounts(k, ring)
		if count, ok := impl.FamilyCount(slices.Repeat([]int{2}, k), ring); count != counts[k] || !ok {
			t.Errorf("FamilyCount(%d families of 2, %v) = %d, %v, but CoupleCounts are %v", k, ring, count, ok, counts)
		}
	})
}

func TestNoFamilies(t *testing.T) {
	ones := slices.Repeat([]int{1}, impl.MaxFamily)
	for _, sizes := range [][]int{
		nil, {}, {0}, {-1}, {0, 0, 0}, {1, 0}, {0, 1}, {3, 0}, {0, 3}, {2, 0, 1}, {4, -1}, {-1, 4}, {2, -1, 2}, {12, 0}, {13}, {12, 1}, {1, 12}, {6, 7}, {5, 5, 3}, {13, -1}, {-1, 13}, {14, -2}, append(ones, 1), append(ones, 0), append([]int{2}, ones[1:]...),
		{math.MinInt}, {math.MaxInt}, {math.MinInt + 1}, {math.MaxInt - 1}, {math.MinInt, math.MinInt, 3}, {math.MaxInt, math.MaxInt, 5}, {3, math.MaxInt}, {3, math.MaxInt, math.MaxInt, 2}, {math.MaxInt, math.MinInt, 4}, {math.MinInt, math.MaxInt, 4}, {4, math.MinInt, math.MinInt}, {1 << 32}, {1<<32 + 3}, {1 << 62, 1 << 62, 1 << 62, 1 << 62, 3}, slices.Repeat([]int{1}, 100000), slices.Repeat([]int{0}, 100000), slices.Repeat([]int{1 << 48}, 1<<16),
	} {
		for _, ring := range []bool{false, true} {
			failed(t, "FamilyCount", briefly{sizes}, ring)(impl.FamilyCount(sizes, ring))
		}
	}
}

func TestTurnParty(t *testing.T) {
	for _, c := range []struct {
		party string
		by    int
		want  string
	}{
		{"0 1 2 3", 0, "0 1 2 3"}, {"0 1 2 3", 1, "3 0 1 2"}, {"0 1 2 3", 2, "2 3 0 1"}, {"0 1 2 3", 3, "1 2 3 0"}, {"3 1 0 2", 1, "2 3 1 0"}, {"5 3 1 0 2 4", 1, "4 5 3 1 0 2"}, {"5 3 1 0 2 4", 4, "1 0 2 4 5 3"}, {"5 3 1 0 2 4", 5, "3 1 0 2 4 5"}, {"0 1 2 3 4 5 6 7 8 9 10 11", 11, "1 2 3 4 5 6 7 8 9 10 11 0"}, {"0 1 2 3 4 5 6 7 8 9 10 11", 5, "7 8 9 10 11 0 1 2 3 4 5 6"},
	} {
		party := numbers(c.party)
		if turned, ok := impl.TurnParty(len(party)/2, party, c.by); !slices.Equal(turned, numbers(c.want)) || !ok {
			t.Errorf("TurnParty(%d, %v, %d) = %v, %v", len(party)/2, party, c.by, turned, ok)
		}
	}
}

// TestTurnedParties checks promise 8: everybody sits so many seats farther, and as many couples sit together.
func TestTurnedParties(t *testing.T) {
	for k := 2; k <= impl.MaxCouples; k++ {
		for _, party := range someParties(k) {
			together, _ := impl.CouplesTogether(k, true, party)
			for by := range 2 * k {
				turned, ok := impl.TurnParty(k, party, by)
				if len(turned) != 2*k || !ok {
					t.Fatalf("TurnParty(%d, %v, %d) = %v, %v", k, party, by, turned, ok)
				}
				for p, person := range party {
					if turned[(p+by)%(2*k)] != person {
						t.Errorf("TurnParty(%d, %v, %d) = %v", k, party, by, turned)
					}
				}
				if count, ok := impl.CouplesTogether(k, true, turned); count != together || !ok {
					t.Errorf("TurnParty(%d, %v, %d) = %v has %d couples together, not %d", k, party, by, turned, count, together)
				}
				if back, ok := impl.TurnParty(k, turned, (2*k-by)%(2*k)); !slices.Equal(back, party) || !ok {
					t.Errorf("TurnParty(%d, %v, %d), turned back: %v, %v", k, party, by, back, ok)
				}
			}
			for _, by := range append(noSeats(2*k), 4*k, 1<<32) {
				failed(t, "TurnParty", k, party, by)(impl.TurnParty(k, party, by))
			}
		}
	}
	failed(t, "TurnParty", 1)(impl.TurnParty(1, []int{0, 1}, 0))
	failed(t, "TurnParty", 1)(impl.TurnParty(1, []int{0, 1}, 1))
}

// TestBadParties calls the functions of a party with lists that are too short, too long, or have a person twice or one that there is not.
func TestBadParties(t *testing.T) {
	eachTable(impl.MaxCouples, func(k int, ring bool) {
		for _, party := range badEnterings(2 * k) {
			if is, ok := impl.IsParty(k, ring, party); is || !ok {
				t.Errorf("IsParty(%d, %v, %v) = %v, %v", k, ring, briefly{party}, is, ok)
			}
			failed(t, "CouplesTogether", k, ring, briefly{party})(impl.CouplesTogether(k, ring, party))
			for by := range 2 * k {
				failed(t, "TurnParty", k, briefly{party}, by)(impl.TurnParty(k, party, by))
			}
		}
	})
}

// TestBadNumbersOfCouples calls each function with a number of couples that is not valid, and other arguments that would do.
func TestBadNumbersOfCouples(t *testing.T) {
	check := func(k int, ring bool) {
		failed(t, "CoupleCounts", k, ring)(impl.CoupleCounts(k, ring))
		failed(t, "FirstApart", k, ring)(impl.FirstApart(k, ring))
		for people := range 2*impl.MaxCouples + 5 {
			party := ascending(people)
			failed(t, "IsParty", k, ring, party)(impl.IsParty(k, ring, party))
			failed(t, "CouplesTogether", k, ring, party)(impl.CouplesTogether(k, ring, party))
		}
	}
	for _, k := range noCouples() {
		check(k, false)
		check(k, true)
	}
	check(1, true)
	for _, k := range append(noCouples(), 1) {
		for people := range 2*impl.MaxCouples + 5 {
			for by := range max(people, 1) {
				failed(t, "TurnParty", k, people, by)(impl.TurnParty(k, ascending(people), by))
			}
		}
	}
}

// couplesCalls returns the results of all functions of chapter 8.
func couplesCalls(r impl.Row, u impl.Rule, list []int, k int, ring bool, number int) []string {
	return []string{
		told(impl.IsRule(u)), told(impl.KindsFit(r, u, list)), told(impl.CountKinds(r, u, list)), told(impl.FirstKinds(r, u, list)), told(impl.CountFitting(r, u)), told(impl.IsParty(k, ring, list)), told(impl.CouplesTogether(k, ring, list)),
		told(impl.CoupleCounts(k, ring)), told(impl.FirstApart(k, ring)), told(impl.MenageCount(k)), told(impl.FamilyCount(list, ring)), told(impl.TurnParty(k, list, number)),
	}
}

// TestCouplesAreNotModified calls all functions with lists that are the middle of longer slices, those within a Row and a Rule, too, twice, with the same results.
func TestCouplesAreNotModified(t *testing.T) {
	for _, c := range []struct {
		row, rule, list string
		k               int
	}{
		{"line ..x.", "11/10", "2 1", 1}, {"ring x...", "11/10", "1 0 0", 1}, {"line x....", "01/10", "1 3", 2}, {"ring x....", "01/10", "0 2 3 1", 2}, {"line ......", "011/101/110", "2 2 2", 3}, {"ring ......", "111/111/111", "5 0 1", 3}, {"ring .......", "111/111/111", "4 0 3", 2}, {"line .x.x..", "000/000/000", "1 0 2 2", 2}, {"ring xxx", "0", "0", 1}, {"line xx", "1", "0 1", 1}, {"line ..", "01/00", "1 1", 1}, {"line xx", "111/111/111", "0 0 0", 7},
		{"ring .......x......", "110/111/011", "11 3 5 0 2 8 1 7 9 4 10 6", 6}, {"line .......x......", "110/111/011", "3 4 6", 0}, {"line .......x......", "110/111/011", "0 0 0 0 1 0 1 2 2 2 2 1 2", 5}, {"ring ..", "2", "3 4 5", -1}, {"line ..", "1", "-1 3", 2},
	} {
		like, form := row(c.row), rule(c.rule)
		taken, one := inside(like.Taken)
		near, two := inside(form.Near)
		list, three := inside(numbers(c.list))
		kept := told(one, two, three)
		r := impl.Row{Seats: like.Seats, Ring: like.Ring, Taken: taken}
		u := impl.Rule{Kinds: form.Kinds, Near: near}
		for number := -1; number <= 2*c.k; number++ {
			for _, ring := range []bool{false, true} {
				first := couplesCalls(r, u, list, c.k, ring, number)
				if again := couplesCalls(like, form, numbers(c.list), c.k, ring, number); !slices.Equal(first, again) {
					t.Errorf("other results the second time: %v and %v", first, again)
				}
				if told(one, two, three) != kept {
					t.Fatalf("a call with %v changed its arguments: %v %v %v", c, one, two, three)
				}
			}
		}
	}
}

// TestCouplesShareNoMemory changes what the functions gave out, and expects that nothing else changes: neither the arguments, nor another result, nor what they give out later.
func TestCouplesShareNoMemory(t *testing.T) {
	eachTable(impl.MaxCouples, func(k int, ring bool) {
		r := impl.Row{Seats: 2*k + 2, Ring: ring, Taken: []int{k}}
		u := rule("11/10")
		counts := []int{k + 2, k - 1}
		party := someParties(k)[0]
		all := func() string {
			return told(couplesCalls(r, u, counts, k, ring, 1), couplesCalls(r, u, party, k, ring, 0))
		}
		kept, calls := told(r, u, counts, party), all()
		var lists [][]int
		for range 2 {
			kinds, _ := impl.FirstKinds(r, u, counts)
			numbers, _ := impl.CoupleCounts(k, ring)
			apart, _ := impl.FirstApart(k, ring)
			same, _ := impl.TurnParty(k, party, 0)
			turned, _ := impl.TurnParty(k, party, 1)
			lists = append(lists, kinds, numbers, apart, same, turned)
		}
		checkOwnMemory(t, fmt.Sprintf("%d couples, %v", k, ring), lists, func(i int) int { return -i - 1 })
		if told(r, u, counts, party) != kept || all() != calls {
			t.Errorf("%d couples, %v: a result shares memory with an argument, or with a later one", k, ring)
		}
	})
}
