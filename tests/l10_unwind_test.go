package tests

import (
	"math"
	"slices"
	"testing"

	"loop.example/g03306/impl"
)

// turnOf is a full turn by the pairs that cross: it finds the places at which
// they stand by following the order.
func turnOf(n int, i int, k int, front bool) []impl.Cross {
	pairs := turnPairs(i, k, front)
	order := sortedOrder(n)
	list := make([]impl.Cross, len(pairs))
	for x, pair := range pairs {
		a, b := slices.Index(order, pair[0]), slices.Index(order, pair[1])
		list[x] = impl.Cross{At: min(a, b), Front: a < b}
		order = exchanged(order, min(a, b))
	}
	return list
}

// turnPairs has, for each crossing of a full turn, the puppet in front and the
// one behind: k passes in front of all between i and itself, there and back.
func turnPairs(i int, k int, front bool) [][]int {
	var there, back [][]int
	for other := i + 1; other < k; other++ {
		there = append([][]int{{k, other}}, there...)
		back = append(back, []int{k, other})
	}
	if front {
		return slices.Concat(there, [][]int{{i, k}, {k, i}}, back)
	}
	return slices.Concat(there, [][]int{{k, i}, {i, k}}, back)
}

// unwindingOf has, for pairs as i, k and twist, as many turns as are needed.
func unwindingOf(n int, wound [][]int) []impl.Cross {
	var list []impl.Cross
	for _, w := range wound {
		for range max(w[2], -w[2]) / 2 {
			list = append(list, turnOf(n, w[0], w[1], w[2] < 0)...)
		}
	}
	return list
}

// woundIn has the pairs that are wound in rows of twists, as i, k and twist.
func woundIn(rows [][]int) [][]int {
	var wound [][]int
	for i, row := range rows {
		for k := i + 1; k < len(row); k++ {
			if row[k] != 0 {
				wound = append(wound, []int{i, k, row[k]})
			}
		}
	}
	return wound
}

func isHome(n int, list []impl.Cross) bool {
	return slices.Equal(orderOf(n, list), sortedOrder(n))
}

// homeCrosses are lists that end at home, most of them with wound pairs: those
// of validCrosses, full turns one after the other, and lists that go back the
// same way, but in front of whom they please.
func homeCrosses() []namedCrosses {
	var lists []namedCrosses
	for _, c := range append(validCrosses(), turnsOfAll()...) {
		if isHome(c.n, c.list) {
			lists = append(lists, c)
		}
	}
	next := fromChance(10)
	for n := 2; n <= 7; n++ {
		for count := range 21 {
			for range 3 {
				there := chanceCrosses(next, n, count)
				back := slices.Clone(there)
				slices.Reverse(back)
				for i := range back {
					back[i].Front = next(2) == 0
				}
				name := impl.FormatInt(count) + " crossings of " + impl.FormatInt(n) + ", there and back"
				lists = append(lists, namedCrosses{name, n, slices.Concat(there, back)})
			}
		}
	}
	return lists
}

// woundOften is a turn in which the two go around each other as often as forty
// crossings allow, which is the twist.
func woundOften(n int, i int, k int, front bool) ([]impl.Cross, int) {
	turn := turnOf(n, i, k, front)
	between := k - i - 1
	twist := 40 - 2*between
	around := slices.Repeat(turn[between:between+1], twist)
	return slices.Concat(turn[:between], around, turn[between+2:]), twist
}

// forAllTurns visits all pairs of up to seven puppets, with both Fronts.
func forAllTurns(visit func(n int, i int, k int, front bool)) {
	for n := 2; n <= 7; n++ {
		for k := 1; k < n; k++ {
			for i := range k {
				visit(n, i, k, true)
				visit(n, i, k, false)
			}
		}
	}
}

// turnsOfAll winds each pair: by one turn, by several turns one after the other,
// by one turn around and around, and by one turn beside other pairs.
func turnsOfAll() []namedCrosses {
	var lists []namedCrosses
	forAllTurns(func(n int, i int, k int, front bool) {
		turn := turnOf(n, i, k, front)
		more := slices.Repeat(turn, 40/len(turn))
		often, _ := woundOften(n, i, k, front)
		others := slices.Concat(turn, turnOf(n, n-2, n-1, true), turnOf(n, 0, n-1, !front))
		for _, list := range [][]impl.Cross{turn, more, often, others} {
			lists = append(lists, namedCrosses{nameOfTurn(n, i, k), n, list})
		}
	})
	return lists
}

// checkCrosses checks crossings and a truth value against what they should be.
func checkCrosses(t *testing.T, name string, got []impl.Cross, ok bool, want []impl.Cross, wantOk bool) {
	t.Helper()
	if !slices.Equal(got, want) || ok != wantOk {
		t.Errorf("%s are %v, %v, want %v, %v", name, got, ok, want, wantOk)
	}
}

func TestFullTurn(t *testing.T) {
	for _, c := range []struct {
		name  string
		n     int
		i     int
		k     int
		front bool
		want  []impl.Cross
		ok    bool
	}{
		{"two puppets", 2, 0, 1, true, crosses("0+ 0+"), true},
		{"two puppets, without Front", 2, 0, 1, false, crosses("0- 0-"), true},
		{"the outer ones of three", 3, 0, 2, true, crosses("1- 0+ 0+ 1+"), true},
		{"the outer ones of three, without Front", 3, 0, 2, false, crosses("1- 0- 0- 1+"), true},
		{"the first two of three", 3, 0, 1, true, crosses("0+ 0+"), true},
		{"the last two of three", 3, 1, 2, false, crosses("1- 1-"), true},
		{"the outer ones of four", 4, 0, 3, true, crosses("2- 1- 0+ 0+ 1+ 2+"), true},
		{"one between, at the right", 4, 1, 3, false, crosses("2- 1- 1- 2+"), true},
		{"one between, at the left", 4, 0, 2, true, crosses("1- 0+ 0+ 1+"), true},
		{"the first and the last of seven", 7, 0, 6, true, crosses("5- 4- 3- 2- 1- 0+ 0+ 1+ 2+ 3+ 4+ 5+"), true},
		{"the first and the last of seven, without Front", 7, 0, 6, false, crosses("5- 4- 3- 2- 1- 0- 0- 1+ 2+ 3+ 4+ 5+"), true},
		{"the first two of seven", 7, 0, 1, false, crosses("0- 0-"), true},
		{"the last two of seven", 7, 5, 6, true, crosses("5+ 5+"), true},
		{"two between, in the middle of seven", 7, 2, 5, true, crosses("4- 3- 2+ 2+ 3+ 4+"), true},
		{"three between, at the left of seven", 7, 0, 4, false, crosses("3- 2- 1- 0- 0- 1+ 2+ 3+"), true},
		{"no puppets", 0, 0, 1, true, nil, false},
		{"one puppet", 1, 0, 1, true, nil, false},
		{"one puppet twice", 1, 0, 0, true, nil, false},
		{"eight puppets", 8, 0, 1, true, nil, false},
		{"eight puppets, the last two", 8, 6, 7, false, nil, false},
		{"-2 puppets", -2, 0, 1, true, nil, false},
		{"i at -1", 3, -1, 2, true, nil, false},
		{"i at -1 and k at 0", 3, -1, 0, false, nil, false},
		{"i at k - 1", 3, 1, 2, true, crosses("1+ 1+"), true},
		{"i at k", 3, 2, 2, true, nil, false},
		{"i and k at 0", 3, 0, 0, false, nil, false},
		{"i at k + 1", 3, 2, 1, true, nil, false},
		{"k at n - 1", 3, 0, 2, true, crosses("1- 0+ 0+ 1+"), true},
		{"k at n", 3, 0, 3, true, nil, false},
		{"k at n, i at n - 1", 3, 2, 3, false, nil, false},
		{"k at 7", 7, 0, 7, true, nil, false},
		{"i and k at -1", 3, -1, -1, true, nil, false},
		{"k at the least int", 3, 0, math.MinInt, true, nil, false},
		{"k at the least int, i at the greatest int", 3, math.MaxInt, math.MinInt, false, nil, false},
		{"k at the greatest int", 3, 0, math.MaxInt, true, nil, false},
		{"i at the least int", 3, math.MinInt, 1, true, nil, false},
	} {
		got, ok := impl.FullTurn(c.n, c.i, c.k, c.front)
		checkCrosses(t, c.name+": FullTurn", got, ok, c.want, c.ok)
	}
}

// nameOfTurn is for messages.
func nameOfTurn(n int, i int, k int) string {
	return "FullTurn of " + impl.FormatInt(i) + " and " + impl.FormatInt(k) + " of " + impl.FormatInt(n)
}

// TestFullTurnRanges has all pairs that there are, and many that there are not.
func TestFullTurnRanges(t *testing.T) {
	pairs := 0
	numbers := numbersAround(0, 9)
	for _, n := range numbers {
		for _, i := range numbers {
			for _, k := range numbers {
				want := n >= 2 && n <= 7 && i >= 0 && i < k && k < n
				for _, front := range []bool{true, false} {
					got, ok := impl.FullTurn(n, i, k, front)
					if !want {
						checkCrosses(t, nameOfTurn(n, i, k), got, ok, nil, false)
						continue
					}
					checkCrosses(t, nameOfTurn(n, i, k), got, ok, turnOf(n, i, k, front), true)
					pairs++
				}
			}
		}
	}
	// 1 + 3 + 6 + 10 + 15 + 21 pairs, each with both Fronts
	if pairs != 112 {
		t.Errorf("there are %d turns, want 112", pairs)
	}
}

// TestFullTurnsMoveInFront checks who passes in front of whom: k passes in front
// of all between, and those outside of i and k stay where they are.
func TestFullTurnsMoveInFront(t *testing.T) {
	forAllTurns(func(n int, i int, k int, front bool) {
		turn, _ := impl.FullTurn(n, i, k, front)
		if got, want := impl.PairsOf(n, turn), turnPairs(i, k, front); !equalPoses(got, want) {
			t.Errorf("%s: PairsOf are %v, want %v", nameOfTurn(n, i, k), got, want)
		}
		if len(turn) != 2*(k-i) {
			t.Errorf("%s are %d crossings", nameOfTurn(n, i, k), len(turn))
		}
		for _, c := range turn {
			if c.At < i || c.At >= k {
				t.Errorf("%s has a crossing at %d", nameOfTurn(n, i, k), c.At)
			}
		}
	})
}

// TestFullTurnsWindOnePair ends at home and winds only i and k.
func TestFullTurnsWindOnePair(t *testing.T) {
	forAllTurns(func(n int, i int, k int, front bool) {
		turn, _ := impl.FullTurn(n, i, k, front)
		if !impl.CrossesOk(n, turn) || !isHome(n, turn) || !slices.Equal(impl.OrderAfter(n, turn), sortedOrder(n)) {
			t.Errorf("%s ends in %v", nameOfTurn(n, i, k), impl.OrderAfter(n, turn))
		}
		want := rowsOf(n, [][]int{{i, k, 2 * frontSign(front)}})
		if got := impl.TwistTable(n, turn); !equalPoses(got, want) || !equalPoses(twistRows(n, turn), want) {
			t.Errorf("%s: TwistTable is %v, want %v", nameOfTurn(n, i, k), got, want)
		}
		if got := impl.WoundPairs(n, turn); !equalPoses(got, [][]int{{i, k}}) {
			t.Errorf("%s: WoundPairs are %v", nameOfTurn(n, i, k), got)
		}
	})
}

// TestFullTurnsUndoEachOther has two turns of the same pair, one with Front and
// one without.
func TestFullTurnsUndoEachOther(t *testing.T) {
	forAllTurns(func(n int, i int, k int, front bool) {
		turn, _ := impl.FullTurn(n, i, k, front)
		other, _ := impl.FullTurn(n, i, k, !front)
		if got := impl.UndoCrosses(turn); !slices.Equal(got, other) {
			t.Errorf("%s: UndoCrosses are %v, want %v", nameOfTurn(n, i, k), got, other)
		}
		if got := impl.Reduced(n, impl.JoinCrosses(turn, other)); len(got) != 0 {
			t.Errorf("%s and the other one are reduced to %v", nameOfTurn(n, i, k), got)
		}
	})
}

func TestUnwindAll(t *testing.T) {
	for _, c := range []struct {
		name string
		n    int
		list []impl.Cross
		want []impl.Cross
		ok   bool
	}{
		{"one puppet", 1, nil, nil, true},
		{"one puppet, an empty list", 1, []impl.Cross{}, nil, true},
		{"two puppets, no crossings", 2, nil, nil, true},
		{"seven puppets, no crossings", 7, nil, nil, true},
		{"there and back in front", 2, crosses("0+ 0-"), nil, true},
		{"around each other", 2, crosses("0+ 0+"), crosses("0- 0-"), true},
		{"around each other the other way", 2, crosses("0- 0-"), crosses("0+ 0+"), true},
		{"around each other and back", 2, crosses("0+ 0+ 0- 0-"), nil, true},
		{"twice around each other", 2, crosses("0+ 0+ 0+ 0+"), crosses("0- 0- 0- 0-"), true},
		{"three times around each other the other way", 2, repeated("0-", 6), repeated("0+", 6), true},
		{"the last two of three", 3, crosses("1- 1-"), crosses("1+ 1+"), true},
		{"the outer ones of three", 3, crosses("0- 1+ 1+ 0+"), crosses("1- 0- 0- 1+"), true},
		{"the outer ones of three, the other way", 3, crosses("1- 0- 0- 1+"), crosses("1- 0+ 0+ 1+"), true},
		{"twice around one between", 3, crosses("1- 0+ 0+ 0+ 0+ 1+"), crosses("1- 0- 0- 1+ 1- 0- 0- 1+"), true},
		{"twice around one between, the other way", 3, crosses("1- 0- 0- 0- 0- 1+"), crosses("1- 0+ 0+ 1+ 1- 0+ 0+ 1+"), true},
		{"all around each other", 3, crosses("0+ 1+ 0+ 0+ 1+ 0+"), crosses("0- 0- 1- 0- 0- 1+ 1- 1-"), true},
		{"one pair one way, one the other way", 4, crosses("2- 0+ 2- 0+"), crosses("0- 0- 2+ 2+"), true},
		{"the inner ones first, though they come later", 4, crosses("1+ 1+ 2- 1- 0+ 0+ 1+ 2+"), crosses("2- 1- 0- 0- 1+ 2+ 1- 1-"), true},
		{"caught by threes", 3, caughtByThrees(), nil, true},
		{"two of those caught by threes", 3, append(caughtByThrees(), crosses("1- 1-")...), crosses("1+ 1+"), true},
		{"first and last of seven", 7, crosses("5- 4- 3- 2- 1- 0- 0- 1+ 2+ 3+ 4+ 5+"), crosses("5- 4- 3- 2- 1- 0+ 0+ 1+ 2+ 3+ 4+ 5+"), true},
		{"neighbors of seven", 7, crosses("5+ 5+ 3- 3- 1+ 1+"), crosses("1- 1- 3+ 3+ 5- 5-"), true},
		{"forty crossings", 2, repeated("0+", 40), repeated("0-", 40), true},
		{"forty crossings without Front", 7, repeated("5-", 40), repeated("5+", 40), true},
		{"forty crossings, there and back", 7, repeated("3+ 3-", 20), nil, true},
		{"forty crossings, unwound by more", 3, append(append(crosses("1-"), repeated("0+", 38)...), crosses("1+")...), repeated("1- 0- 0- 1+", 19), true},
		{"one crossing", 2, crosses("0+"), nil, false},
		{"one crossing without Front", 3, crosses("1-"), nil, false},
		{"three times the same way", 2, crosses("0+ 0+ 0+"), nil, false},
		{"around each other, and one more", 3, crosses("0+ 0+ 1-"), nil, false},
		{"around in a circle, not at home", 3, crosses("0+ 1+"), nil, false},
		{"reversed", 3, crosses("0+ 1+ 0+"), nil, false},
		{"the last puppet is at home", 3, crosses("0- 1+ 1- 0- 0-"), nil, false},
		{"the first puppet is at home", 3, crosses("0- 0- 1+"), nil, false},
		{"thirty-nine crossings", 2, repeated("0+", 39), nil, false},
		{"forty-one crossings", 2, repeated("0+", 41), nil, false},
		{"forty-two crossings that end at home", 2, repeated("0+", 42), nil, false},
		{"no puppets", 0, nil, nil, false},
		{"eight puppets", 8, nil, nil, false},
		{"eight puppets, around each other", 8, crosses("0+ 0+"), nil, false},
		{"one puppet at 0", 1, crosses("0+ 0+"), nil, false},
		{"crossings at -1", 3, crossesAt(-1, true, true), nil, false},
		{"crossings at n - 1", 3, crossesAt(2, true, true), nil, false},
	} {
		got, ok := impl.UnwindAll(c.n, c.list)
		checkCrosses(t, c.name+": UnwindAll", got, ok, c.want, c.ok)
	}
	for _, c := range allKnownTwists() {
		var want []impl.Cross
		if c.home {
			want = unwindingOf(c.n, c.wound)
		}
		got, ok := impl.UnwindAll(c.n, c.list)
		checkCrosses(t, c.name+": UnwindAll", got, ok, want, c.home)
	}
}

func nameOfUnwinding(c namedCrosses) string {
	return c.name + ", UnwindAll of " + textOf(c.list)
}

// textOf is what crosses reads.
func textOf(list []impl.Cross) string {
	text := ""
	for _, c := range list {
		sign := "- "
		if c.Front {
			sign = "+ "
		}
		text += impl.FormatInt(c.At) + sign
	}
	return text
}

// TestUnwindAllByDefinition compares the crossings with those of the twists that
// are found two by two, also where the order is not home.
func TestUnwindAllByDefinition(t *testing.T) {
	away := 0
	for _, c := range append(validCrosses(), homeCrosses()...) {
		got, ok := impl.UnwindAll(c.n, c.list)
		if !isHome(c.n, c.list) {
			checkCrosses(t, nameOfUnwinding(c), got, ok, nil, false)
			away++
			continue
		}
		want := unwindingOf(c.n, woundIn(twistRows(c.n, c.list)))
		checkCrosses(t, nameOfUnwinding(c), got, ok, want, true)
	}
	if away < 1000 {
		t.Errorf("only %d orders are not home", away)
	}
}

// TestWhoeverIsAtHomeCanBeUntwisted checks promise 10. A list and its unwinding
// may have more crossings than the functions of chapters 8 and 9 take, so that
// the pairs are followed two by two as well.
func TestWhoeverIsAtHomeCanBeUntwisted(t *testing.T) {
	short, long := 0, 0
	for _, c := range homeCrosses() {
		unwinding, ok := impl.UnwindAll(c.n, c.list)
		if !ok {
			t.Errorf("%s fails", nameOfUnwinding(c))
		}
		both := impl.JoinCrosses(c.list, unwinding)
		if rows := twistRows(c.n, both); len(woundIn(rows)) != 0 || !isHome(c.n, both) {
			t.Errorf("%s: the twists are %v, the order is %v", nameOfUnwinding(c), rows, orderOf(c.n, both))
		}
		if len(unwinding) > 40 {
			long++
		}
		if len(unwinding) == 0 || len(both) > 40 {
			continue
		}
		short++
		if !impl.IsUntwisted(c.n, both) || len(impl.WoundPairs(c.n, both)) != 0 || impl.LeastUndoing(c.n, both) != 0 {
			t.Errorf("%s: WoundPairs are %v", nameOfUnwinding(c), impl.WoundPairs(c.n, both))
		}
		again, ok := impl.UnwindAll(c.n, both)
		checkCrosses(t, nameOfUnwinding(c)+", again", again, ok, nil, true)
	}
	if short < 500 || long < 50 {
		t.Errorf("only %d lists have few crossings, and %d have many", short, long)
	}
}

// TestPairsAreUntwistedOneByOne takes the turns of one pair after the other, in
// the order of WoundPairs: each one frees its pair and leaves all others as they
// are.
func TestPairsAreUntwistedOneByOne(t *testing.T) {
	for _, c := range homeCrosses() {
		unwinding, _ := impl.UnwindAll(c.n, c.list)
		rows := twistRows(c.n, c.list)
		so := c.list
		for _, pair := range impl.WoundPairs(c.n, c.list) {
			i, k := pair[0], pair[1]
			taken := min(len(unwinding), (k-i)*max(rows[i][k], -rows[i][k]))
			so, unwinding = slices.Concat(so, unwinding[:taken]), unwinding[taken:]
			rows[i][k], rows[k][i] = 0, 0
			if got := twistRows(c.n, so); !equalPoses(got, rows) {
				t.Fatalf("%s: the twists after %d and %d are %v, want %v", nameOfUnwinding(c), i, k, got, rows)
			}
		}
		if len(unwinding) != 0 {
			t.Errorf("%s: %v are left", nameOfUnwinding(c), unwinding)
		}
	}
}

// TestUnwindingHasEnoughCrossings compares it with LeastUndoing: neighbors need
// no more crossings.
func TestUnwindingHasEnoughCrossings(t *testing.T) {
	for _, c := range homeCrosses() {
		unwinding, _ := impl.UnwindAll(c.n, c.list)
		least := impl.LeastUndoing(c.n, c.list)
		neighbors := true
		for _, pair := range impl.WoundPairs(c.n, c.list) {
			neighbors = neighbors && pair[1] == pair[0]+1
		}
		if len(unwinding) < least || neighbors != (len(unwinding) == least) {
			t.Errorf("%s are %d crossings, LeastUndoing is %d", nameOfUnwinding(c), len(unwinding), least)
		}
	}
}

// TestUnwindingOfManyCrossings has the greatest twists of each pair that forty
// crossings allow. Most of them need more than forty crossings.
func TestUnwindingOfManyCrossings(t *testing.T) {
	longest := 0
	forAllTurns(func(n int, i int, k int, front bool) {
		list, twist := woundOften(n, i, k, front)
		got, ok := impl.UnwindAll(n, list)
		want := slices.Repeat(turnOf(n, i, k, !front), twist/2)
		checkCrosses(t, "UnwindAll of "+textOf(list), got, ok, want, true)
		longest = max(longest, len(got))
	})
	// 15 turns of the first and the last one of seven, with 12 crossings each
	if longest != 180 {
		t.Errorf("the longest unwinding has %d crossings, want 180", longest)
	}
}

func TestBringHome(t *testing.T) {
	for _, c := range []struct {
		name string
		n    int
		list []impl.Cross
		want []impl.Cross
		ok   bool
	}{
		{"one puppet", 1, nil, nil, true},
		{"one puppet, an empty list", 1, []impl.Cross{}, nil, true},
		{"two puppets, no crossings", 2, nil, nil, true},
		{"seven puppets, no crossings", 7, nil, nil, true},
		{"two puppets", 2, crosses("0+"), crosses("0+"), true},
		{"two puppets, without Front", 2, crosses("0-"), crosses("0+"), true},
		{"around each other", 2, crosses("0- 0-"), nil, true},
		{"three times around", 2, crosses("0- 0- 0-"), crosses("0+"), true},
		{"0 moves to the right", 3, crosses("0- 1-"), crosses("1+ 0+"), true},
		{"2 moves to the left", 3, crosses("1- 0-"), crosses("0+ 1+"), true},
		{"reversed", 3, crosses("1- 0- 1-"), crosses("0+ 1+ 0+"), true},
		{"two pairs", 4, crosses("2- 0+"), crosses("0+ 2+"), true},
		{"four puppets, reversed", 4, crosses("0+ 1+ 2+ 0- 1- 0+"), crosses("0+ 1+ 0+ 2+ 1+ 0+"), true},
		{"seven puppets, 0 moves to the right", 7, crosses("0+ 1+ 2+ 3+ 4+ 5+"), crosses("5+ 4+ 3+ 2+ 1+ 0+"), true},
		{"seven puppets, 6 moves to the left", 7, crosses("5- 4- 3- 2- 1- 0-"), crosses("0+ 1+ 2+ 3+ 4+ 5+"), true},
		{"thirty-nine crossings", 2, repeated("0-", 39), crosses("0+"), true},
		{"forty crossings", 2, repeated("0-", 40), nil, true},
		{"forty crossings, not at home", 3, append(repeated("0-", 39), crosses("1-")...), crosses("1+ 0+"), true},
		{"forty-one crossings", 2, repeated("0-", 41), nil, false},
		{"no puppets", 0, nil, nil, false},
		{"eight puppets", 8, crosses("0+"), nil, false},
		{"one puppet at 0", 1, crosses("0+"), nil, false},
		{"a crossing at -1", 3, crossesAt(-1, true), nil, false},
		{"a crossing at n - 1", 3, crosses("0+ 2+"), nil, false},
	} {
		got, ok := impl.BringHome(c.n, c.list)
		checkCrosses(t, c.name+": BringHome", got, ok, c.want, c.ok)
	}
}

// wayHome exchanges the first two that stand the wrong way round, again and
// again.
func wayHome(order []int) []impl.Cross {
	for k := 1; k < len(order); k++ {
		if order[k-1] > order[k] {
			return append(crossesAt(k-1, true), wayHome(exchanged(order, k-1))...)
		}
	}
	return nil
}

// TestBringHomeByDefinition brings the puppets home in front, by the fewest
// crossings.
func TestBringHomeByDefinition(t *testing.T) {
	long := 0
	for _, c := range validCrosses() {
		got, ok := impl.BringHome(c.n, c.list)
		name := c.name + ", BringHome of " + textOf(c.list)
		checkCrosses(t, name, got, ok, wayHome(orderOf(c.n, c.list)), true)
		var swaps []int
		for _, cross := range got {
			swaps = append(swaps, cross.At)
		}
		order := impl.OrderAfter(c.n, c.list)
		if want := impl.SortingSwaps(order); !slices.Equal(swaps, want) || len(got) != impl.CountInversions(order) {
			t.Errorf("%s has the places %v, want %v", name, swaps, want)
		}
		both := impl.JoinCrosses(c.list, got)
		if !isHome(c.n, both) {
			t.Errorf("%s leads to %v", name, orderOf(c.n, both))
		}
		if len(both) > 40 {
			long++
		}
	}
	if long < 10 {
		t.Errorf("only %d lists have more than forty crossings with their way home", long)
	}
}

// TestBringHomeFromAllOrders has the way from home to each order.
func TestBringHomeFromAllOrders(t *testing.T) {
	for _, order := range validOrders() {
		there := wayHome(order)
		slices.Reverse(there)
		n := len(order)
		if got := orderOf(n, there); !slices.Equal(got, order) {
			t.Fatalf("%v lead to %v, want %v", there, got, order)
		}
		got, ok := impl.BringHome(n, there)
		checkCrosses(t, "BringHome of "+textOf(there), got, ok, wayHome(order), true)
	}
}

// TestWhoeverComesHomeCanBeUntwisted goes home first, so that no list is too
// tangled, and then untwists.
func TestWhoeverComesHomeCanBeUntwisted(t *testing.T) {
	untwisted := 0
	for _, c := range validCrosses() {
		way, _ := impl.BringHome(c.n, c.list)
		so := impl.JoinCrosses(c.list, way)
		if !impl.CrossesOk(c.n, so) {
			continue
		}
		unwinding, ok := impl.UnwindAll(c.n, so)
		all := impl.JoinCrosses(so, unwinding)
		if !ok || len(woundIn(twistRows(c.n, all))) != 0 || !isHome(c.n, all) {
			t.Errorf("%s: %v, %v and %v, %v do not untwist", c.name, c.list, way, unwinding, ok)
		}
		if len(unwinding) > 0 {
			untwisted++
		}
	}
	if untwisted < 1000 {
		t.Errorf("only %d lists are untwisted", untwisted)
	}
}

func TestUnwindingOfInvalidCrosses(t *testing.T) {
	for _, c := range invalidCrosses() {
		got, ok := impl.UnwindAll(c.n, c.list)
		checkCrosses(t, c.name+": UnwindAll", got, ok, nil, false)
		got, ok = impl.BringHome(c.n, c.list)
		checkCrosses(t, c.name+": BringHome", got, ok, nil, false)
	}
}

// TestUnwindingCounts has lists around the limit that end at home, and away from
// it, by turns.
func TestUnwindingCounts(t *testing.T) {
	for n := range 10 {
		for count := range 50 {
			list := make([]impl.Cross, count)
			valid := count <= 40 && n >= 1 && n <= 7 && (n >= 2 || count == 0)
			name := impl.FormatInt(count) + " crossings of " + impl.FormatInt(n)
			var unwinding, way []impl.Cross
			if valid && count%2 == 0 {
				unwinding = repeated("0+", count)
			}
			if valid && count%2 != 0 {
				way = crosses("0+")
			}
			got, ok := impl.UnwindAll(n, list)
			checkCrosses(t, "UnwindAll of "+name, got, ok, unwinding, valid && count%2 == 0)
			got, ok = impl.BringHome(n, list)
			checkCrosses(t, "BringHome of "+name, got, ok, way, valid)
		}
	}
}

// joinedLists are lists of all kinds, also such as are not valid.
func joinedLists() [][]impl.Cross {
	return [][]impl.Cross{
		nil, {}, crosses("0+"), crosses("0-"), crosses("0+ 1- 1+"), crosses("1- 0- 0- 1+"),
		repeated("0+", 40), repeated("5-", 41), inTurn(7, 1000), crossesAt(-1, true), crossesAt(6, true, false),
		crossesAt(math.MinInt, false, true), crossesAt(math.MaxInt, true),
	}
}

func TestJoinCrosses(t *testing.T) {
	for _, c := range []struct {
		name string
		a    []impl.Cross
		b    []impl.Cross
		want []impl.Cross
	}{
		{"nil and nil", nil, nil, nil},
		{"nil and an empty list", nil, []impl.Cross{}, nil},
		{"an empty list and nil", []impl.Cross{}, nil, nil},
		{"two empty lists", []impl.Cross{}, []impl.Cross{}, nil},
		{"nil and one crossing", nil, crosses("0+"), crosses("0+")},
		{"one crossing and nil", crosses("0+"), nil, crosses("0+")},
		{"an empty list and one crossing", []impl.Cross{}, crosses("3-"), crosses("3-")},
		{"one crossing and an empty list", crosses("3-"), []impl.Cross{}, crosses("3-")},
		{"two crossings", crosses("0+"), crosses("1-"), crosses("0+ 1-")},
		{"two crossings, the other way", crosses("1-"), crosses("0+"), crosses("1- 0+")},
		{"two crossings that undo each other", crosses("0+"), crosses("0-"), crosses("0+ 0-")},
		{"equal lists", crosses("0+ 1-"), crosses("0+ 1-"), crosses("0+ 1- 0+ 1-")},
		{"more and fewer", crosses("0+ 1- 2+"), crosses("5-"), crosses("0+ 1- 2+ 5-")},
		{"forty and one crossing", repeated("0+", 40), crosses("0+"), repeated("0+", 41)},
		{"forty-one and forty crossings", repeated("0-", 41), repeated("0-", 40), repeated("0-", 81)},
		{"crossings at no place", crossesAt(-1, true), crossesAt(math.MaxInt, false), []impl.Cross{{At: -1, Front: true}, {At: math.MaxInt}}},
	} {
		if got := impl.JoinCrosses(c.a, c.b); !slices.Equal(got, c.want) {
			t.Errorf("%s: JoinCrosses are %v, want %v", c.name, got, c.want)
		}
	}
	for _, a := range joinedLists() {
		for _, b := range joinedLists() {
			got := impl.JoinCrosses(a, b)
			if len(got) != len(a)+len(b) || !slices.Equal(got[:len(a)], a) || !slices.Equal(got[len(a):], b) {
				t.Errorf("JoinCrosses(%v, %v) are %v", a, b, got)
			}
		}
	}
}

// someHomeCrosses are home, so that UnwindAll has crossings, or not, or invalid.
func someHomeCrosses() []namedCrosses {
	lists := someCrosses()
	for i, c := range homeCrosses() {
		if i%5 == 0 {
			lists = append(lists, c)
		}
	}
	return lists
}

func TestUnwindArgumentsAreLeftUnchanged(t *testing.T) {
	for _, c := range someHomeCrosses() {
		list, check := watchedCrosses(t, c.list)
		impl.UnwindAll(c.n, list)
		check("UnwindAll")
		impl.BringHome(c.n, list)
		check("BringHome")
	}
	for _, a := range joinedLists() {
		for _, b := range joinedLists() {
			first, checkFirst := watchedCrosses(t, a)
			second, checkSecond := watchedCrosses(t, b)
			impl.JoinCrosses(first, second)
			checkFirst("JoinCrosses as the first one")
			checkSecond("JoinCrosses as the second one")
			impl.JoinCrosses(first, first)
			checkFirst("JoinCrosses as both")
		}
	}
}

// TestJoinedListsOfTheSameMemory has parts of one list, of which the second one
// begins in the room behind the first one.
func TestJoinedListsOfTheSameMemory(t *testing.T) {
	for from := range 7 {
		for to := range 7 {
			list := inTurn(4, 6)
			want := slices.Concat(inTurn(4, 6)[:from], inTurn(4, 6)[to:])
			got := impl.JoinCrosses(list[:from], list[to:])
			if !slices.Equal(got, want) || !slices.Equal(list, inTurn(4, 6)) {
				t.Errorf("JoinCrosses up to %d and from %d on are %v, want %v", from, to, got, want)
			}
			overwriteCrosses(got)
			if !slices.Equal(list, inTurn(4, 6)) {
				t.Errorf("a change of JoinCrosses up to %d and from %d on changes the list to %v", from, to, list)
			}
		}
	}
}

// TestUnwindingIsNewMemory changes the argument behind the calls, and one of two
// results of the same call.
func TestUnwindingIsNewMemory(t *testing.T) {
	for _, c := range someHomeCrosses() {
		list, check := watchedCrosses(t, c.list)
		unwinding, ok := impl.UnwindAll(c.n, list)
		otherUnwinding, _ := impl.UnwindAll(c.n, list)
		way, wayOk := impl.BringHome(c.n, list)
		otherWay, _ := impl.BringHome(c.n, list)
		overwriteCrosses(otherUnwinding)
		overwriteCrosses(otherWay)
		check("a change of UnwindAll or BringHome")
		overwriteCrosses(list)
		wantUnwinding, wantOk := impl.UnwindAll(c.n, c.list)
		checkCrosses(t, c.name+": behind a change, UnwindAll", unwinding, ok, wantUnwinding, wantOk)
		wantWay, wantOk := impl.BringHome(c.n, c.list)
		checkCrosses(t, c.name+": behind a change, BringHome", way, wayOk, wantWay, wantOk)
	}
}

func TestFullTurnsAreKeptApart(t *testing.T) {
	forAllTurns(func(n int, i int, k int, front bool) {
		turn, _ := impl.FullTurn(n, i, k, front)
		other, _ := impl.FullTurn(n, i, k, front)
		overwriteCrosses(other)
		if !slices.Equal(turn, turnOf(n, i, k, front)) {
			t.Errorf("a change of one %s changes another one to %v", nameOfTurn(n, i, k), turn)
		}
		again, ok := impl.FullTurn(n, i, k, front)
		checkCrosses(t, "behind a change, "+nameOfTurn(n, i, k), again, ok, turnOf(n, i, k, front), true)
	})
}

func TestJoinedCrossesAreNewMemory(t *testing.T) {
	for _, a := range joinedLists() {
		for _, b := range joinedLists() {
			first, checkFirst := watchedCrosses(t, a)
			second, checkSecond := watchedCrosses(t, b)
			joined, other := impl.JoinCrosses(first, second), impl.JoinCrosses(first, second)
			overwriteCrosses(other)
			checkFirst("a change of JoinCrosses")
			checkSecond("a change of JoinCrosses")
			overwriteCrosses(first)
			overwriteCrosses(second)
			if !slices.Equal(joined, slices.Concat(a, b)) {
				t.Errorf("a change of %v and %v changes JoinCrosses to %v", a, b, joined)
			}
		}
	}
}
