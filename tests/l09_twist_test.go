package tests

import (
	"math"
	"slices"
	"testing"

	"loop.example/g03306/impl"
)

// twistBetween follows two puppets alone, and counts where they meet.
func twistBetween(list []impl.Cross, i int, k int) int {
	twist := 0
	for _, c := range list {
		if min(i, k) == c.At && max(i, k) == c.At+1 {
			twist += frontSign(c.Front)
		}
		i, k = placeAfter(i, []impl.Cross{c}), placeAfter(k, []impl.Cross{c})
	}
	return twist
}

func frontSign(front bool) int {
	if front {
		return 1
	}
	return -1
}

// twistRows has the twists that twistBetween finds.
func twistRows(n int, list []impl.Cross) [][]int {
	rows := make([][]int, n)
	for i := range rows {
		rows[i] = make([]int, n)
		for k := range rows[i] {
			if i != k {
				rows[i][k] = twistBetween(list, i, k)
			}
		}
	}
	return rows
}

// otherFronts are the same crossings, each with the other Front.
func otherFronts(list []impl.Cross) []impl.Cross {
	others := slices.Clone(list)
	for i := range others {
		others[i].Front = !others[i].Front
	}
	return others
}

// caughtByThrees winds three puppets so that each two of them are free, though
// no crossing undoes the one before it.
func caughtByThrees() []impl.Cross {
	return crosses("0+ 0+ 1+ 1+ 0- 0- 1- 1-")
}

func repeated(text string, count int) []impl.Cross {
	return slices.Repeat(crosses(text), count)
}

// knownTwists are crossings with the pairs that they wind: each one with its
// twist, as i, k and twist.
type knownTwists struct {
	name  string
	n     int
	list  []impl.Cross
	wound [][]int
	total int
	least int
	home  bool
}

func allKnownTwists() []knownTwists {
	return []knownTwists{
		{"one puppet", 1, nil, nil, 0, 0, true},
		{"one puppet, an empty list", 1, []impl.Cross{}, nil, 0, 0, true},
		{"two puppets, no crossings", 2, nil, nil, 0, 0, true},
		{"seven puppets, no crossings", 7, nil, nil, 0, 0, true},
		{"one crossing", 2, crosses("0+"), [][]int{{0, 1, 1}}, 1, 1, false},
		{"one crossing without Front", 2, crosses("0-"), [][]int{{0, 1, -1}}, -1, 1, false},
		{"there and back in front", 2, crosses("0+ 0-"), nil, 0, 0, true},
		{"there and back behind", 2, crosses("0- 0+"), nil, 0, 0, true},
		{"around each other", 2, crosses("0+ 0+"), [][]int{{0, 1, 2}}, 2, 2, true},
		{"around each other the other way", 2, crosses("0- 0-"), [][]int{{0, 1, -2}}, -2, 2, true},
		{"three times the same way", 2, crosses("0+ 0+ 0+"), [][]int{{0, 1, 3}}, 3, 3, false},
		{"three times without Front", 2, crosses("0- 0- 0-"), [][]int{{0, 1, -3}}, -3, 3, false},
		{"twice around each other", 2, crosses("0+ 0+ 0+ 0+"), [][]int{{0, 1, 4}}, 4, 4, true},
		{"twice around each other the other way", 2, crosses("0- 0- 0- 0-"), [][]int{{0, 1, -4}}, -4, 4, true},
		{"there, back in front and there again", 2, crosses("0+ 0- 0+"), [][]int{{0, 1, 1}}, 1, 1, false},
		{"around each other and back", 2, crosses("0+ 0+ 0- 0-"), nil, 0, 0, true},
		{"around each other, and one back", 2, crosses("0- 0- 0+"), [][]int{{0, 1, -1}}, -1, 1, false},
		{"the last two of three", 3, crosses("1- 1-"), [][]int{{1, 2, -2}}, -2, 2, true},
		{"the outer ones of three", 3, crosses("0- 1+ 1+ 0+"), [][]int{{0, 2, 2}}, 2, 2, true},
		{"the outer ones of three, the other way", 3, crosses("1- 0- 0- 1+"), [][]int{{0, 2, -2}}, -2, 2, true},
		{"0 moves to the right in front", 3, crosses("0+ 1+"), [][]int{{0, 1, 1}, {0, 2, 1}}, 2, 2, false},
		{"0 moves to the right behind", 3, crosses("0- 1-"), [][]int{{0, 1, -1}, {0, 2, -1}}, -2, 2, false},
		{"2 moves to the left in front", 3, crosses("1- 0-"), [][]int{{0, 2, -1}, {1, 2, -1}}, -2, 2, false},
		{"0 moves between the others", 3, crosses("0+ 1-"), [][]int{{0, 1, 1}, {0, 2, -1}}, 0, 2, false},
		{"reversed in front", 3, crosses("0+ 1+ 0+"), [][]int{{0, 1, 1}, {0, 2, 1}, {1, 2, 1}}, 3, 3, false},
		{"reversed behind", 3, crosses("1- 0- 1-"), [][]int{{0, 1, -1}, {0, 2, -1}, {1, 2, -1}}, -3, 3, false},
		{"one pair one way, one the other way", 4, crosses("0+ 0+ 2- 2-"), [][]int{{0, 1, 2}, {2, 3, -2}}, 0, 4, true},
		{"one pair one way, one the other way, in turn", 4, crosses("2- 0+ 2- 0+"), [][]int{{0, 1, 2}, {2, 3, -2}}, 0, 4, true},
		{"a crossing and two of others", 3, crosses("0+ 0+ 1-"), [][]int{{0, 1, 2}, {1, 2, -1}}, 1, 3, false},
		{"all around each other", 3, crosses("0+ 1+ 0+ 0+ 1+ 0+"), [][]int{{0, 1, 2}, {0, 2, 2}, {1, 2, 2}}, 6, 6, true},
		{"caught by threes", 3, caughtByThrees(), nil, 0, 0, true},
		{"caught by threes, and one crossing", 3, append(caughtByThrees(), crosses("1-")...), [][]int{{1, 2, -1}}, -1, 1, false},
		{"first and last of seven", 7, crosses("5- 4- 3- 2- 1- 0- 0- 1+ 2+ 3+ 4+ 5+"), [][]int{{0, 6, -2}}, -2, 2, true},
		{"6 moves to the left", 7, crosses("5- 4- 3+ 2- 1- 0-"), [][]int{{0, 6, -1}, {1, 6, -1}, {2, 6, -1}, {3, 6, 1}, {4, 6, -1}, {5, 6, -1}}, -4, 6, false},
		{"all neighbors of seven", 7, crosses("5+ 5+ 3- 3- 1+ 1+"), [][]int{{1, 2, 2}, {3, 4, -2}, {5, 6, 2}}, 2, 6, true},
		{"forty crossings", 2, repeated("0+", 40), [][]int{{0, 1, 40}}, 40, 40, true},
		{"forty crossings without Front", 7, repeated("5-", 40), [][]int{{5, 6, -40}}, -40, 40, true},
		{"thirty-nine crossings", 2, repeated("0+", 39), [][]int{{0, 1, 39}}, 39, 39, false},
		{"forty crossings, there and back", 7, repeated("3+ 3-", 20), nil, 0, 0, true},
		{"forty crossings, of three puppets", 3, repeated("0+ 0+ 1- 1-", 10), [][]int{{0, 1, 20}, {1, 2, -20}}, 0, 40, true},
	}
}

// rowsOf has the twists of some pairs in both of their cells, and else 0.
func rowsOf(n int, wound [][]int) [][]int {
	rows := make([][]int, n)
	for i := range rows {
		rows[i] = make([]int, n)
	}
	for _, w := range wound {
		rows[w[0]][w[1]], rows[w[1]][w[0]] = w[2], w[2]
	}
	return rows
}

func pairsIn(wound [][]int) [][]int {
	var pairs [][]int
	for _, w := range wound {
		pairs = append(pairs, slices.Clone(w[:2]))
	}
	return pairs
}

func TestTwistOf(t *testing.T) {
	for _, c := range allKnownTwists() {
		for i, row := range rowsOf(c.n, c.wound) {
			for k, want := range row {
				if got := impl.TwistOf(c.n, c.list, i, k); got != want {
					t.Errorf("%s: TwistOf %d and %d is %d, want %d", c.name, i, k, got, want)
				}
			}
		}
	}
}

func TestTwistTable(t *testing.T) {
	for _, c := range allKnownTwists() {
		if got, want := impl.TwistTable(c.n, c.list), rowsOf(c.n, c.wound); !equalPoses(got, want) {
			t.Errorf("%s: TwistTable is %v, want %v", c.name, got, want)
		}
	}
}

func TestTotalTwist(t *testing.T) {
	for _, c := range allKnownTwists() {
		if got := impl.TotalTwist(c.n, c.list); got != c.total {
			t.Errorf("%s: TotalTwist is %d, want %d", c.name, got, c.total)
		}
	}
}

func TestIsUntwisted(t *testing.T) {
	for _, c := range allKnownTwists() {
		if got := impl.IsUntwisted(c.n, c.list); got != (c.home && len(c.wound) == 0) {
			t.Errorf("%s: IsUntwisted is %v", c.name, got)
		}
		if home := slices.Equal(orderOf(c.n, c.list), sortedOrder(c.n)); home != c.home {
			t.Errorf("%s: the order is as before: %v", c.name, home)
		}
	}
}

func TestWoundPairs(t *testing.T) {
	for _, c := range allKnownTwists() {
		if got, want := impl.WoundPairs(c.n, c.list), pairsIn(c.wound); !equalPoses(got, want) {
			t.Errorf("%s: WoundPairs are %v, want %v", c.name, got, want)
		}
	}
}

func TestLeastUndoing(t *testing.T) {
	for _, c := range allKnownTwists() {
		if got := impl.LeastUndoing(c.n, c.list); got != c.least {
			t.Errorf("%s: LeastUndoing is %d, want %d", c.name, got, c.least)
		}
	}
}

// noPuppetsOf are numbers that are no puppets, also those that would be puppets
// if there were more of them.
func noPuppetsOf(n int) []int {
	return []int{math.MinInt, -7, -1, n, n + 1, 7, 8, math.MaxInt}
}

// TestTwistOfNoPair has one puppet twice, or something that is no puppet.
func TestTwistOfNoPair(t *testing.T) {
	check := func(n int, list []impl.Cross, i int, k int) {
		t.Helper()
		if got := impl.TwistOf(n, list, i, k); got != 0 {
			t.Errorf("TwistOf(%d, %v, %d, %d) is %d, want 0", n, list, i, k, got)
		}
	}
	for n := 1; n <= 7; n++ {
		list := inTurn(max(n, 2), 13)
		if n == 1 {
			list = nil
		}
		for _, no := range noPuppetsOf(n) {
			for puppet := range n {
				check(n, list, no, puppet)
				check(n, list, puppet, no)
			}
			for _, other := range noPuppetsOf(n) {
				check(n, list, no, other)
			}
		}
		for puppet := range n {
			check(n, list, puppet, puppet)
		}
	}
}

// TestTwistsOfAllCrosses compares all results with those of puppets that are
// followed two by two.
func TestTwistsOfAllCrosses(t *testing.T) {
	for _, c := range validCrosses() {
		rows := twistRows(c.n, c.list)
		if got := impl.TwistTable(c.n, c.list); !equalPoses(got, rows) {
			t.Errorf("TwistTable(%d, %v) is %v, want %v", c.n, c.list, got, rows)
		}
		var wound [][]int
		least := 0
		for i := range c.n {
			for k := range c.n {
				if got := impl.TwistOf(c.n, c.list, i, k); got != rows[i][k] {
					t.Errorf("TwistOf(%d, %v, %d, %d) is %d, want %d", c.n, c.list, i, k, got, rows[i][k])
				}
				if i < k && rows[i][k] != 0 {
					wound = append(wound, []int{i, k})
					least += max(rows[i][k], -rows[i][k])
				}
			}
		}
		if got := impl.WoundPairs(c.n, c.list); !equalPoses(got, wound) {
			t.Errorf("WoundPairs(%d, %v) are %v, want %v", c.n, c.list, got, wound)
		}
		if got := impl.LeastUndoing(c.n, c.list); got != least {
			t.Errorf("LeastUndoing(%d, %v) is %d, want %d", c.n, c.list, got, least)
		}
		home := slices.Equal(orderOf(c.n, c.list), sortedOrder(c.n))
		if got := impl.IsUntwisted(c.n, c.list); got != (home && len(wound) == 0) {
			t.Errorf("IsUntwisted(%d, %v) is %v", c.n, c.list, got)
		}
	}
}

// sumOfPairs adds up a table over all pairs i less than k.
func sumOfPairs(table [][]int) int {
	sum := 0
	for i, row := range table {
		sum += sumOf(row[i+1:])
	}
	return sum
}

// TestTwistsOfAllPairsAddUp checks promise 9.
func TestTwistsOfAllPairsAddUp(t *testing.T) {
	for _, c := range validCrosses() {
		total := 0
		for _, cross := range c.list {
			total += frontSign(cross.Front)
		}
		if got := impl.TotalTwist(c.n, c.list); got != total {
			t.Errorf("TotalTwist(%d, %v) is %d, want %d", c.n, c.list, got, total)
		}
		if got := sumOfPairs(impl.TwistTable(c.n, c.list)); got != total {
			t.Errorf("TwistTable(%d, %v) adds up to %d, want %d", c.n, c.list, got, total)
		}
		sum := 0
		for _, pair := range impl.WoundPairs(c.n, c.list) {
			sum += impl.TwistOf(c.n, c.list, pair[0], pair[1])
		}
		if sum != total {
			t.Errorf("WoundPairs(%d, %v) add up to %d, want %d", c.n, c.list, sum, total)
		}
	}
}

// TestTwistsAreEvenJustIfTheOrderIsAsBefore checks promise 9, also pair by pair:
// the twists of those that stand the other way round, and no others, are odd. So
// an order that is not as before has a wound pair.
func TestTwistsAreEvenJustIfTheOrderIsAsBefore(t *testing.T) {
	home, wound := 0, 0
	for _, c := range validCrosses() {
		order := orderOf(c.n, c.list)
		even := true
		for i, row := range impl.TwistTable(c.n, c.list) {
			for k := i + 1; k < c.n; k++ {
				around := slices.Index(order, i) > slices.Index(order, k)
				if odd := row[k]%2 != 0; odd != around {
					t.Errorf("TwistTable(%d, %v) has %d for %d and %d in the order %v", c.n, c.list, row[k], i, k, order)
				}
				even = even && row[k]%2 == 0
			}
		}
		isHome := slices.Equal(order, sortedOrder(c.n))
		if even != isHome {
			t.Errorf("TwistTable(%d, %v) is even: %v, in the order %v", c.n, c.list, even, order)
		}
		pairs := impl.WoundPairs(c.n, c.list)
		if !isHome && len(pairs) == 0 {
			t.Errorf("WoundPairs(%d, %v) are none in the order %v", c.n, c.list, order)
		}
		if isHome {
			home++
		}
		if isHome && len(pairs) > 0 {
			wound++
		}
	}
	if home < 100 || wound < 50 {
		t.Errorf("only %d orders are as before, of which %d are wound", home, wound)
	}
}

// TestTwistsVanishByUndoing checks promise 9.
func TestTwistsVanishByUndoing(t *testing.T) {
	for _, c := range validCrosses() {
		list := c.list[:min(len(c.list), 20)]
		both := slices.Concat(list, impl.UndoCrosses(list))
		if got := impl.TwistTable(c.n, both); !equalPoses(got, rowsOf(c.n, nil)) {
			t.Errorf("TwistTable(%d, %v) is %v", c.n, both, got)
		}
		if !impl.IsUntwisted(c.n, both) {
			t.Errorf("IsUntwisted(%d, %v) is false", c.n, both)
		}
		if got := impl.WoundPairs(c.n, both); len(got) != 0 {
			t.Errorf("WoundPairs(%d, %v) are %v", c.n, both, got)
		}
		if total, least := impl.TotalTwist(c.n, both), impl.LeastUndoing(c.n, both); total != 0 || least != 0 {
			t.Errorf("TotalTwist and LeastUndoing of %d and %v are %d and %d", c.n, both, total, least)
		}
	}
}

// TestOthersDoNotUntwist has lists that come close to what is undone.
func TestOthersDoNotUntwist(t *testing.T) {
	list := crosses("0+ 1- 0-")
	for _, c := range []struct {
		name string
		back []impl.Cross
		want [][]int
	}{
		{"undone", crosses("0+ 1+ 0-"), nil},
		{"the opposite order alone", crosses("0- 1- 0+"), [][]int{{0, 1, 2}, {0, 2, -2}, {1, 2, -2}}},
		{"the other Front alone", crosses("0- 1+ 0+"), [][]int{{0, 1, 2}, {1, 2, -2}}},
		{"undone, but the last one", crosses("0+ 1+"), [][]int{{0, 1, 1}}},
	} {
		both := slices.Concat(list, c.back)
		if got, want := impl.TwistTable(3, both), rowsOf(3, c.want); !equalPoses(got, want) {
			t.Errorf("%s: TwistTable is %v, want %v", c.name, got, want)
		}
		if got := impl.IsUntwisted(3, both); got != (len(c.want) == 0) {
			t.Errorf("%s: IsUntwisted is %v", c.name, got)
		}
	}
}

// TestTwistsWithTheOtherFront turns all twists around.
func TestTwistsWithTheOtherFront(t *testing.T) {
	for _, c := range validCrosses() {
		others := otherFronts(c.list)
		table := impl.TwistTable(c.n, others)
		for i, row := range impl.TwistTable(c.n, c.list) {
			for k, twist := range row {
				if table[i][k] != -twist {
					t.Errorf("TwistTable(%d, %v) has %d for %d and %d, want %d", c.n, others, table[i][k], i, k, -twist)
				}
			}
		}
		if got, want := impl.TotalTwist(c.n, others), -impl.TotalTwist(c.n, c.list); got != want {
			t.Errorf("TotalTwist(%d, %v) is %d, want %d", c.n, others, got, want)
		}
		if got, want := impl.LeastUndoing(c.n, others), impl.LeastUndoing(c.n, c.list); got != want {
			t.Errorf("LeastUndoing(%d, %v) is %d, want %d", c.n, others, got, want)
		}
		if got, want := impl.WoundPairs(c.n, others), impl.WoundPairs(c.n, c.list); !equalPoses(got, want) {
			t.Errorf("WoundPairs(%d, %v) are %v, want %v", c.n, others, got, want)
		}
		if got, want := impl.IsUntwisted(c.n, others), impl.IsUntwisted(c.n, c.list); got != want {
			t.Errorf("IsUntwisted(%d, %v) is %v, want %v", c.n, others, got, want)
		}
	}
}

// TestReducedCrossesHaveTheSameTwists takes away crossings that cancel out.
func TestReducedCrossesHaveTheSameTwists(t *testing.T) {
	for _, c := range validCrosses() {
		reduced := impl.Reduced(c.n, c.list)
		if got, want := impl.TwistTable(c.n, reduced), impl.TwistTable(c.n, c.list); !equalPoses(got, want) {
			t.Errorf("TwistTable(%d, %v) is %v, want %v", c.n, reduced, got, want)
		}
	}
	list := caughtByThrees()
	if got := impl.Reduced(3, list); !slices.Equal(got, list) || !impl.IsUntwisted(3, list) {
		t.Errorf("Reduced(3, %v) are %v", list, got)
	}
}

// TestNoFewerCrossingsUntwist checks the bound of LeastUndoing: it is 0 just if
// no pair is wound, and one crossing more changes it by 1, so that fewer
// crossings cannot lead to 0.
func TestNoFewerCrossingsUntwist(t *testing.T) {
	for _, c := range validCrosses() {
		least := impl.LeastUndoing(c.n, c.list)
		if wound := len(impl.WoundPairs(c.n, c.list)); least < wound || (least == 0) != (wound == 0) {
			t.Errorf("LeastUndoing(%d, %v) is %d with %d wound pairs", c.n, c.list, least, wound)
		}
		if len(c.list) >= 40 {
			continue
		}
		for at := range c.n - 1 {
			for _, front := range []bool{true, false} {
				more := slices.Concat(c.list, crossesAt(at, front))
				if got := impl.LeastUndoing(c.n, more); got != least-1 && got != least+1 {
					t.Errorf("LeastUndoing(%d, %v) is %d, before the last one %d", c.n, more, got, least)
				}
			}
		}
	}
}

// TestLeastUndoingOfTwoPuppets has two puppets, for which as many crossings are
// enough.
func TestLeastUndoingOfTwoPuppets(t *testing.T) {
	for count := range 7 {
		forAllCrosses(2, count, func(list []impl.Cross) {
			back := crosses("0-")
			if impl.TotalTwist(2, list) < 0 {
				back = crosses("0+")
			}
			all := slices.Concat(list, slices.Repeat(back, impl.LeastUndoing(2, list)))
			if !impl.IsUntwisted(2, all) {
				t.Errorf("IsUntwisted(2, %v) is false", all)
			}
		})
	}
}

func TestTwistsOfInvalidCrosses(t *testing.T) {
	for _, c := range invalidCrosses() {
		for _, i := range []int{math.MinInt, -1, 0, 1, 2, 6, 7, c.n - 1, c.n, math.MaxInt} {
			for _, k := range []int{math.MinInt, -1, 0, 1, 2, 6, 7, c.n - 1, c.n, math.MaxInt} {
				if got := impl.TwistOf(c.n, c.list, i, k); got != 0 {
					t.Errorf("%s: TwistOf %d and %d is %d, want 0", c.name, i, k, got)
				}
			}
		}
		if got := impl.TwistTable(c.n, c.list); len(got) != 0 {
			t.Errorf("%s: TwistTable is %v, want none", c.name, got)
		}
		if got := impl.TotalTwist(c.n, c.list); got != 0 {
			t.Errorf("%s: TotalTwist is %d, want 0", c.name, got)
		}
		if impl.IsUntwisted(c.n, c.list) {
			t.Errorf("%s: IsUntwisted is true", c.name)
		}
		if got := impl.WoundPairs(c.n, c.list); len(got) != 0 {
			t.Errorf("%s: WoundPairs are %v, want none", c.name, got)
		}
		if got := impl.LeastUndoing(c.n, c.list); got != -1 {
			t.Errorf("%s: LeastUndoing is %d, want -1", c.name, got)
		}
	}
}

// TestTwistCounts has lists around the limit, which wind the puppets more and
// more.
func TestTwistCounts(t *testing.T) {
	for n := range 10 {
		for count := range 50 {
			list := make([]impl.Cross, count)
			ok := count <= 40 && n >= 1 && n <= 7 && (n >= 2 || count == 0)
			twist, least := 0, -1
			if ok {
				twist, least = -count, count
			}
			if got := impl.TwistOf(n, list, 0, 1); got != twist {
				t.Errorf("TwistOf(%d, ..., 0, 1) of %d crossings is %d, want %d", n, count, got, twist)
			}
			if got := impl.TotalTwist(n, list); got != twist {
				t.Errorf("TotalTwist of %d puppets and %d crossings is %d, want %d", n, count, got, twist)
			}
			if got := impl.LeastUndoing(n, list); got != least {
				t.Errorf("LeastUndoing of %d puppets and %d crossings is %d, want %d", n, count, got, least)
			}
			if got := impl.IsUntwisted(n, list); got != (ok && count == 0) {
				t.Errorf("IsUntwisted of %d puppets and %d crossings is %v", n, count, got)
			}
			if got := len(impl.TwistTable(n, list)); ok && got != n || !ok && got != 0 {
				t.Errorf("TwistTable of %d puppets and %d crossings has %d rows", n, count, got)
			}
			if got := len(impl.WoundPairs(n, list)); got != max(0, min(least, 1)) {
				t.Errorf("WoundPairs of %d puppets and %d crossings are %d", n, count, got)
			}
		}
	}
}

func TestTwistArgumentsAreLeftUnchanged(t *testing.T) {
	for _, c := range someCrosses() {
		list, check := watchedCrosses(t, c.list)
		impl.TwistTable(c.n, list)
		check("TwistTable")
		impl.TotalTwist(c.n, list)
		check("TotalTwist")
		impl.IsUntwisted(c.n, list)
		check("IsUntwisted")
		impl.WoundPairs(c.n, list)
		check("WoundPairs")
		impl.LeastUndoing(c.n, list)
		check("LeastUndoing")
		for i := -1; i <= 7; i++ {
			impl.TwistOf(c.n, list, i, 1)
			impl.TwistOf(c.n, list, 1, i)
			check("TwistOf")
		}
	}
}

// TestTwistsAreNewMemory changes the argument behind the calls, and then one of
// two results of the same call.
func TestTwistsAreNewMemory(t *testing.T) {
	for _, c := range someCrosses() {
		list, check := watchedCrosses(t, c.list)
		table, otherTable := impl.TwistTable(c.n, list), impl.TwistTable(c.n, list)
		wound, otherWound := impl.WoundPairs(c.n, list), impl.WoundPairs(c.n, list)
		overwritePoses(table)
		overwritePoses(wound)
		check("a change of TwistTable or WoundPairs")
		overwriteCrosses(list)
		if !impl.CrossesOk(c.n, c.list) {
			continue
		}
		rows := twistRows(c.n, c.list)
		if !equalPoses(otherTable, rows) {
			t.Errorf("a change of %v or of one TwistTable changes another one to %v, want %v", c.list, otherTable, rows)
		}
		if again := impl.WoundPairs(c.n, c.list); !equalPoses(otherWound, again) {
			t.Errorf("a change of %v or of some WoundPairs changes others to %v, want %v", c.list, otherWound, again)
		}
	}
}

// checkKeptApart changes one row after the other, also behind its end.
func checkKeptApart(t *testing.T, name string, use func() [][]int) {
	t.Helper()
	want := use()
	for changed := range want {
		got := use()
		overwritePoses(got[changed : changed+1])
		for i := range got {
			if i != changed && !slices.Equal(got[i], want[i]) {
				t.Errorf("a change of row %d of %s changes row %d to %v, want %v", changed, name, i, got[i], want[i])
			}
		}
	}
}

func TestTwistRowsAreKeptApart(t *testing.T) {
	for n := 2; n <= 7; n++ {
		for _, list := range [][]impl.Cross{nil, inTurn(n, 13), inTurn(n, 40)} {
			name := impl.FormatInt(len(list)) + " crossings of " + impl.FormatInt(n)
			checkKeptApart(t, "TwistTable of "+name, func() [][]int { return impl.TwistTable(n, list) })
			checkKeptApart(t, "WoundPairs of "+name, func() [][]int { return impl.WoundPairs(n, list) })
		}
	}
}
