package tests

import (
	"math"
	"slices"
	"testing"

	"loop.example/g03306/impl"
)

// crosses reads crossings: "0+ 1-" is one at 0 with Front, and then one at 1
// without it.
func crosses(text string) []impl.Cross {
	var list []impl.Cross
	for i := 0; i+1 < len(text); i += 3 {
		list = append(list, impl.Cross{At: int(text[i] - '0'), Front: text[i+1] == '+'})
	}
	return list
}

// crossesAt are crossings at one place, each with the Front that it is given.
func crossesAt(at int, fronts ...bool) []impl.Cross {
	var list []impl.Cross
	for _, front := range fronts {
		list = append(list, impl.Cross{At: at, Front: front})
	}
	return list
}

// inTurn are crossings at 0 up to n - 2 and again from 0 on, with Front but for
// every third one. No two of them undo each other if n is at least 3.
func inTurn(n int, count int) []impl.Cross {
	list := make([]impl.Cross, count)
	for i := range list {
		list[i] = impl.Cross{At: i % (n - 1), Front: i%3 < 2}
	}
	return list
}

// forAllCrosses visits all lists of these many crossings of n puppets.
func forAllCrosses(n int, count int, visit func(list []impl.Cross)) {
	if n == 1 && count > 0 {
		return
	}
	forAllLists(count, 0, 2*n-3, func(numbers []int) {
		list := make([]impl.Cross, count)
		for i, number := range numbers {
			list[i] = impl.Cross{At: number / 2, Front: number%2 == 0}
		}
		visit(list)
	})
}

// chanceCrosses are crossings of all kinds of n puppets, of which many undo
// each other.
func chanceCrosses(next func(below int) int, n int, count int) []impl.Cross {
	list := make([]impl.Cross, count)
	for i := range list {
		list[i] = impl.Cross{At: next(n - 1), Front: next(2) == 0}
		if i > 0 && next(3) == 0 {
			undone := list[next(i)]
			list[i] = impl.Cross{At: undone.At, Front: !undone.Front}
		}
	}
	return list
}

type namedCrosses struct {
	name string
	n    int
	list []impl.Cross
}

// validCrosses are all short lists for few puppets, and longer ones for up to
// seven.
func validCrosses() []namedCrosses {
	var lists []namedCrosses
	add := func(n int, list []impl.Cross) {
		name := impl.FormatInt(len(list)) + " crossings of " + impl.FormatInt(n)
		lists = append(lists, namedCrosses{name, n, list})
	}
	for n, most := range []int{0, 0, 6, 5, 3, 3, 2, 2} {
		for count := 0; n > 0 && count <= most; count++ {
			forAllCrosses(n, count, func(list []impl.Cross) { add(n, list) })
		}
	}
	next := fromChance(8)
	for n := 2; n <= 7; n++ {
		for count := range 41 {
			add(n, chanceCrosses(next, n, count))
			add(n, inTurn(n, count))
		}
	}
	return lists
}

func invalidCrosses() []namedCrosses {
	few := crosses("0+ 0- 0-")
	lists := []namedCrosses{
		{"no puppets and no crossings", 0, nil},
		{"no puppets", 0, few},
		{"no puppets and a crossing at -1", 0, crossesAt(-1, true)},
		{"no puppets and a crossing at -2", 0, crossesAt(-2, true)},
		{"-1 puppets and no crossings", -1, nil},
		{"-1 puppets and a crossing at -3", -1, crossesAt(-3, true)},
		{"eight puppets and no crossings", 8, nil},
		{"eight puppets", 8, few},
		{"eight puppets and a crossing at 6", 8, crossesAt(6, false)},
		{"the least int of puppets and no crossings", math.MinInt, nil},
		{"the least int of puppets", math.MinInt, few},
		{"the greatest int of puppets and no crossings", math.MaxInt, nil},
		{"the greatest int of puppets", math.MaxInt, few},
		{"one puppet and a crossing at 0", 1, crossesAt(0, true)},
		{"one puppet and a crossing at -1", 1, crossesAt(-1, true)},
		{"one puppet and a crossing at 1", 1, crossesAt(1, false)},
		{"one puppet and two crossings that undo each other", 1, crossesAt(0, true, false)},
		{"one puppet and forty-one crossings", 1, make([]impl.Cross, 41)},
		{"forty-one crossings", 3, inTurn(3, 41)},
		{"forty-one equal crossings", 2, make([]impl.Cross, 41)},
		{"forty-two crossings that all undo each other", 2, slices.Repeat(crosses("0+ 0-"), 21)},
		{"many crossings", 7, make([]impl.Cross, 100000)},
		{"no puppets and many crossings", 0, make([]impl.Cross, 100000)},
		{"two crossings at -1 that undo each other", 3, crossesAt(-1, true, false)},
		{"two crossings at n - 1 that undo each other", 3, crossesAt(2, true, false)},
	}
	for n := 2; n <= 7; n++ {
		for _, at := range []int{math.MinInt, math.MinInt + 1, -7, -1, n - 1, n, n + 1, 64, math.MaxInt} {
			name := "a crossing at " + impl.FormatInt(at) + " of " + impl.FormatInt(n)
			wrong := crossesAt(at, at%2 == 0)
			lists = append(lists, namedCrosses{name + ", alone", n, wrong})
			lists = append(lists, namedCrosses{name + ", at first", n, slices.Concat(wrong, few)})
			lists = append(lists, namedCrosses{name + ", at last", n, slices.Concat(few, wrong)})
			lists = append(lists, namedCrosses{name + ", as the fortieth", n, slices.Concat(inTurn(n, 39), wrong)})
		}
	}
	return lists
}

func TestCrossesOk(t *testing.T) {
	for _, c := range []struct {
		name string
		n    int
		list []impl.Cross
		want bool
	}{
		{"one puppet and no crossings", 1, nil, true},
		{"one puppet and an empty list", 1, []impl.Cross{}, true},
		{"one puppet and one crossing", 1, crosses("0+"), false},
		{"two puppets and no crossings", 2, nil, true},
		{"two puppets at 0", 2, crosses("0+"), true},
		{"two puppets at 0, without Front", 2, crosses("0-"), true},
		{"two puppets at 1", 2, crosses("1+"), false},
		{"two puppets at -1", 2, crossesAt(-1, true), false},
		{"three puppets", 3, crosses("0+ 1- 1+"), true},
		{"three puppets at 2", 3, crosses("0+ 1- 2+"), false},
		{"seven puppets and no crossings", 7, nil, true},
		{"seven puppets at all places", 7, crosses("0+ 1- 2+ 3- 4+ 5-"), true},
		{"seven puppets at 6", 7, crosses("6+"), false},
		{"eight puppets", 8, crosses("0+"), false},
		{"no puppets", 0, nil, false},
	} {
		if got := impl.CrossesOk(c.n, c.list); got != c.want {
			t.Errorf("%s: CrossesOk is %v", c.name, got)
		}
	}
	for _, c := range validCrosses() {
		if !impl.CrossesOk(c.n, c.list) {
			t.Errorf("%s: CrossesOk(%d, %v) is false", c.name, c.n, c.list)
		}
	}
	for _, c := range invalidCrosses() {
		if impl.CrossesOk(c.n, c.list) {
			t.Errorf("%s: CrossesOk is true", c.name)
		}
	}
}

func TestCrossesOkRanges(t *testing.T) {
	for _, n := range numbersAround(0, 8) {
		if got := impl.CrossesOk(n, nil); got != (n >= 1 && n <= 7) {
			t.Errorf("CrossesOk of %d puppets without crossings is %v", n, got)
		}
		for _, at := range numbersAround(-1, 8) {
			want := n >= 1 && n <= 7 && at >= 0 && at <= n-2
			for _, front := range []bool{true, false} {
				if got := impl.CrossesOk(n, crossesAt(at, front)); got != want {
					t.Errorf("CrossesOk of %d puppets at %d with Front %v is %v", n, at, front, got)
				}
			}
		}
	}
	for count := range 60 {
		for n := 2; n <= 7; n++ {
			if got := impl.CrossesOk(n, inTurn(n, count)); got != (count <= 40) {
				t.Errorf("CrossesOk of %d puppets and %d crossings is %v", n, count, got)
			}
		}
	}
}

// TestCrossesOkOfEachCrossing spoils each of forty crossings in turn.
func TestCrossesOkOfEachCrossing(t *testing.T) {
	for n := 2; n <= 7; n++ {
		for i := range 40 {
			for _, at := range numbersAround(-1, n) {
				list := inTurn(n, 40)
				list[i].At = at
				if got := impl.CrossesOk(n, list); got != (at >= 0 && at <= n-2) {
					t.Errorf("CrossesOk of %d puppets with crossing %d at %d is %v", n, i, at, got)
				}
			}
		}
	}
}

// placeAfter follows the puppet at one place through all crossings.
func placeAfter(place int, list []impl.Cross) int {
	for _, c := range list {
		switch place {
		case c.At:
			place++
		case c.At + 1:
			place--
		}
	}
	return place
}

// orderOf puts each puppet where it arrives.
func orderOf(n int, list []impl.Cross) []int {
	order := make([]int, n)
	for puppet := range n {
		order[placeAfter(puppet, list)] = puppet
	}
	return order
}

// pairsAt finds, before each crossing, who stands left and right of it.
func pairsAt(n int, list []impl.Cross) [][]int {
	var pairs [][]int
	for i, c := range list {
		pair := make([]int, 2)
		for puppet := range n {
			switch placeAfter(puppet, list[:i]) {
			case c.At:
				pair[0] = puppet
			case c.At + 1:
				pair[1] = puppet
			}
		}
		if !c.Front {
			slices.Reverse(pair)
		}
		pairs = append(pairs, pair)
	}
	return pairs
}

func TestOrderAfter(t *testing.T) {
	for _, c := range []struct {
		name string
		n    int
		list []impl.Cross
		want []int
	}{
		{"one puppet", 1, nil, []int{0}},
		{"two puppets, no crossings", 2, nil, []int{0, 1}},
		{"two puppets, an empty list", 2, []impl.Cross{}, []int{0, 1}},
		{"two puppets", 2, crosses("0+"), []int{1, 0}},
		{"two puppets, without Front", 2, crosses("0-"), []int{1, 0}},
		{"two puppets, there and back", 2, crosses("0+ 0-"), []int{0, 1}},
		{"two puppets, twice with Front", 2, crosses("0+ 0+"), []int{0, 1}},
		{"three puppets at the first place", 3, crosses("0+"), []int{1, 0, 2}},
		{"three puppets at the last place", 3, crosses("1+"), []int{0, 2, 1}},
		{"three puppets, 0 moves to the right", 3, crosses("0+ 1+"), []int{1, 2, 0}},
		{"three puppets, 2 moves to the left", 3, crosses("1- 0-"), []int{2, 0, 1}},
		{"three puppets, reversed", 3, crosses("0+ 1- 0+"), []int{2, 1, 0}},
		{"three puppets, reversed the other way", 3, crosses("1- 0+ 1+"), []int{2, 1, 0}},
		{"three puppets, there and again", 3, crosses("0+ 1- 1+"), []int{1, 0, 2}},
		{"seven puppets, no crossings", 7, nil, []int{0, 1, 2, 3, 4, 5, 6}},
		{"seven puppets, 0 moves to the right", 7, crosses("0+ 1+ 2+ 3+ 4+ 5+"), []int{1, 2, 3, 4, 5, 6, 0}},
		{"seven puppets, 6 moves to the left", 7, crosses("5- 4- 3- 2- 1- 0-"), []int{6, 0, 1, 2, 3, 4, 5}},
		{"forty crossings", 2, make([]impl.Cross, 40), []int{0, 1}},
		{"thirty-nine crossings", 2, make([]impl.Cross, 39), []int{1, 0}},
		{"forty-one crossings", 2, make([]impl.Cross, 41), nil},
		{"no puppets", 0, nil, nil},
		{"eight puppets", 8, nil, nil},
		{"one puppet at 0", 1, crosses("0+"), nil},
		{"a crossing at -1", 3, crossesAt(-1, true), nil},
		{"a crossing at n - 1", 3, crosses("0+ 2+"), nil},
	} {
		if got := impl.OrderAfter(c.n, c.list); !slices.Equal(got, c.want) {
			t.Errorf("%s: OrderAfter is %v, want %v", c.name, got, c.want)
		}
	}
	for _, c := range validCrosses() {
		if got, want := impl.OrderAfter(c.n, c.list), orderOf(c.n, c.list); !slices.Equal(got, want) {
			t.Errorf("OrderAfter(%d, %v) is %v, want %v", c.n, c.list, got, want)
		}
	}
}

// TestOrderAfterIsAfterSwaps looks at crossings as swaps, of which it does not
// matter who passes in front.
func TestOrderAfterIsAfterSwaps(t *testing.T) {
	for _, c := range validCrosses() {
		var swaps []int
		for _, cross := range c.list {
			swaps = append(swaps, cross.At)
		}
		want, ok := impl.AfterSwaps(sortedOrder(c.n), swaps)
		if got := impl.OrderAfter(c.n, c.list); !ok || !slices.Equal(got, want) {
			t.Errorf("OrderAfter(%d, %v) is %v, want %v", c.n, c.list, got, want)
		}
	}
}

func TestPairsOf(t *testing.T) {
	for _, c := range []struct {
		name string
		n    int
		list []impl.Cross
		want [][]int
	}{
		{"one puppet", 1, nil, nil},
		{"seven puppets, no crossings", 7, nil, nil},
		{"two puppets", 2, crosses("0+"), [][]int{{0, 1}}},
		{"two puppets, without Front", 2, crosses("0-"), [][]int{{1, 0}}},
		{"there and back in front", 2, crosses("0+ 0-"), [][]int{{0, 1}, {0, 1}}},
		{"there and back behind", 2, crosses("0- 0+"), [][]int{{1, 0}, {1, 0}}},
		{"around each other", 2, crosses("0+ 0+"), [][]int{{0, 1}, {1, 0}}},
		{"around each other the other way", 2, crosses("0- 0-"), [][]int{{1, 0}, {0, 1}}},
		{"three puppets", 3, crosses("0+ 1- 1+"), [][]int{{0, 1}, {2, 0}, {2, 0}}},
		{"three puppets, 0 moves to the right", 3, crosses("0+ 1+"), [][]int{{0, 1}, {0, 2}}},
		{"three puppets, 0 moves to the right behind", 3, crosses("0- 1-"), [][]int{{1, 0}, {2, 0}}},
		{"three puppets, reversed", 3, crosses("1+ 0+ 1+"), [][]int{{1, 2}, {0, 2}, {0, 1}}},
		{"seven puppets, 6 moves to the left", 7, crosses("5- 4- 3+ 2- 1- 0-"), [][]int{{6, 5}, {6, 4}, {3, 6}, {6, 2}, {6, 1}, {6, 0}}},
		{"forty crossings", 2, crossesAt(0, slices.Repeat([]bool{true, false}, 20)...), slices.Repeat([][]int{{0, 1}}, 40)},
		{"forty-one crossings", 2, make([]impl.Cross, 41), nil},
		{"no puppets", 0, nil, nil},
		{"eight puppets", 8, crosses("0+"), nil},
		{"one puppet at 0", 1, crosses("0+"), nil},
		{"a crossing at -1", 3, crossesAt(-1, true), nil},
		{"a crossing at n - 1", 3, crosses("0+ 2+"), nil},
	} {
		if got := impl.PairsOf(c.n, c.list); !equalPoses(got, c.want) {
			t.Errorf("%s: PairsOf are %v, want %v", c.name, got, c.want)
		}
	}
	for _, c := range validCrosses() {
		if got, want := impl.PairsOf(c.n, c.list), pairsAt(c.n, c.list); !equalPoses(got, want) {
			t.Errorf("PairsOf(%d, %v) are %v, want %v", c.n, c.list, got, want)
		}
	}
}

func TestUndoCrosses(t *testing.T) {
	for _, c := range []struct {
		name string
		list []impl.Cross
		want []impl.Cross
	}{
		{"no crossings", nil, nil},
		{"an empty list", []impl.Cross{}, nil},
		{"one crossing", crosses("3+"), crosses("3-")},
		{"one crossing without Front", crosses("3-"), crosses("3+")},
		{"two crossings", crosses("0+ 1+"), crosses("1- 0-")},
		{"three crossings", crosses("0+ 1- 1+"), crosses("1- 1+ 0-")},
		{"four crossings", crosses("5- 2+ 0- 0-"), crosses("0+ 0+ 2- 5+")},
		{"what is undone already", crosses("0+ 0-"), crosses("0+ 0-")},
		{"forty crossings", crossesAt(0, make([]bool, 40)...), crossesAt(0, slices.Repeat([]bool{true}, 40)...)},
		{"forty-one crossings", crossesAt(0, make([]bool, 41)...), crossesAt(0, slices.Repeat([]bool{true}, 41)...)},
		{"crossings at no place", slices.Concat(crossesAt(-1, true), crossesAt(7, false), crossesAt(math.MinInt, true), crossesAt(math.MaxInt, true)),
			slices.Concat(crossesAt(math.MaxInt, false), crossesAt(math.MinInt, false), crossesAt(7, true), crossesAt(-1, false))},
	} {
		if got := impl.UndoCrosses(c.list); !slices.Equal(got, c.want) {
			t.Errorf("%s: UndoCrosses are %v, want %v", c.name, got, c.want)
		}
	}
	checkUndone := func(list []impl.Cross) {
		t.Helper()
		got := impl.UndoCrosses(list)
		if len(got) != len(list) {
			t.Fatalf("UndoCrosses of %d crossings are %d", len(list), len(got))
		}
		for i, c := range list {
			if back := got[len(got)-1-i]; back.At != c.At || back.Front == c.Front {
				t.Errorf("UndoCrosses has %v for %v", back, c)
			}
		}
		if again := impl.UndoCrosses(got); !slices.Equal(again, list) {
			t.Errorf("UndoCrosses of UndoCrosses(%v) are %v", list, again)
		}
	}
	for _, c := range append(validCrosses(), invalidCrosses()...) {
		checkUndone(c.list)
	}
	checkUndone(inTurn(50, 100001))
}

// TestUndoneCrossesLeadBack checks promise 8: the order after both is the first
// one again, and whoever went in front comes back in front.
func TestUndoneCrossesLeadBack(t *testing.T) {
	for _, c := range validCrosses() {
		undone := impl.UndoCrosses(c.list)
		both := slices.Concat(c.list, undone)
		if !impl.CrossesOk(c.n, undone) {
			t.Errorf("CrossesOk(%d, %v) is false", c.n, undone)
		}
		if got := orderOf(c.n, both); !slices.Equal(got, sortedOrder(c.n)) {
			t.Errorf("the %d puppets do not come back after %v and %v", c.n, c.list, undone)
		}
		if len(both) > 40 {
			continue
		}
		if got := impl.OrderAfter(c.n, both); !slices.Equal(got, sortedOrder(c.n)) {
			t.Errorf("OrderAfter(%d, %v) is %v", c.n, both, got)
		}
		pairs := impl.PairsOf(c.n, both)
		back := slices.Clone(pairs)
		slices.Reverse(back)
		if !equalPoses(pairs, back) {
			t.Errorf("PairsOf(%d, %v) are %v", c.n, both, pairs)
		}
		if got := impl.Reduced(c.n, both); len(got) != 0 {
			t.Errorf("Reduced(%d, %v) are %v", c.n, both, got)
		}
		for puppet := range c.n {
			if got, want := impl.CountFront(c.n, both, puppet), 2*impl.CountFront(c.n, c.list, puppet); got != want {
				t.Errorf("CountFront(%d, %v, %d) is %d, want %d", c.n, both, puppet, got, want)
			}
		}
	}
}

// TestOthersDoNotUndo has crossings that come close to what is undone: the
// opposite order alone leads back too, but winds the puppets.
func TestOthersDoNotUndo(t *testing.T) {
	list := crosses("0+ 1- 0-")
	for _, c := range []struct {
		name string
		back []impl.Cross
		want []impl.Cross
	}{
		{"undone", crosses("0+ 1+ 0-"), nil},
		{"the opposite order alone", crosses("0- 1- 0+"), crosses("0+ 1- 0- 0- 1- 0+")},
		{"the other Front alone", crosses("0- 1+ 0+"), crosses("0+ 1- 0- 0- 1+ 0+")},
	} {
		if got := impl.Reduced(3, slices.Concat(list, c.back)); !slices.Equal(got, c.want) {
			t.Errorf("%s: Reduced are %v, want %v", c.name, got, c.want)
		}
	}
	if got := impl.UndoCrosses(list); !slices.Equal(got, crosses("0+ 1+ 0-")) {
		t.Errorf("UndoCrosses(%v) are %v", list, got)
	}
}

func TestReduced(t *testing.T) {
	for _, c := range []struct {
		name string
		n    int
		list []impl.Cross
		want []impl.Cross
	}{
		{"one puppet", 1, nil, nil},
		{"one puppet, an empty list", 1, []impl.Cross{}, nil},
		{"seven puppets, no crossings", 7, nil, nil},
		{"one crossing", 2, crosses("0+"), crosses("0+")},
		{"one crossing without Front", 2, crosses("0-"), crosses("0-")},
		{"two that undo each other", 2, crosses("0+ 0-"), nil},
		{"two that undo each other, the other way", 2, crosses("0- 0+"), nil},
		{"two at the same place with the same Front", 2, crosses("0+ 0+"), crosses("0+ 0+")},
		{"two at the same place without Front", 2, crosses("0- 0-"), crosses("0- 0-")},
		{"two at other places with different Front", 3, crosses("0+ 1-"), crosses("0+ 1-")},
		{"two at other places with the same Front", 3, crosses("1- 0-"), crosses("1- 0-")},
		{"two at the last place", 3, crosses("1- 1+"), nil},
		{"the same place, but not one after the other", 3, crosses("0+ 1+ 0-"), crosses("0+ 1+ 0-")},
		{"places without a common puppet", 4, crosses("0+ 2+ 0-"), crosses("0+ 2+ 0-")},
		{"three puppets that pass in another way", 3, crosses("0+ 1+ 0+ 1- 0- 1-"), crosses("0+ 1+ 0+ 1- 0- 1-")},
		{"three at the same place, in turn", 2, crosses("0+ 0- 0+"), crosses("0+")},
		{"three at the same place, in turn from behind", 2, crosses("0- 0+ 0-"), crosses("0-")},
		{"three at the same place, the first two equal", 2, crosses("0+ 0+ 0-"), crosses("0+")},
		{"three at the same place, the last two equal", 2, crosses("0- 0+ 0+"), crosses("0+")},
		{"three equal ones", 2, crosses("0+ 0+ 0+"), crosses("0+ 0+ 0+")},
		{"four at the same place, in turn", 2, crosses("0+ 0- 0+ 0-"), nil},
		{"four at the same place, two and two", 2, crosses("0+ 0+ 0- 0-"), nil},
		{"four at the same place, two between two", 2, crosses("0- 0+ 0+ 0-"), nil},
		{"four at the same place, three equal ones at first", 2, crosses("0+ 0+ 0+ 0-"), crosses("0+ 0+")},
		{"four at the same place, three equal ones at last", 2, crosses("0- 0+ 0+ 0+"), crosses("0+ 0+")},
		{"four equal ones", 2, crosses("0- 0- 0- 0-"), crosses("0- 0- 0- 0-")},
		{"two between two", 3, crosses("0+ 1- 1+ 0-"), nil},
		{"two between two that stay", 3, crosses("0+ 1- 1+ 0+"), crosses("0+ 0+")},
		{"two between two at other places", 4, crosses("0+ 1- 1+ 2-"), crosses("0+ 2-")},
		{"two between two, and one more at last", 3, crosses("0+ 1- 1+ 0- 1+"), crosses("1+")},
		{"two between two, and one more at first", 3, crosses("1+ 0+ 1- 1+ 0-"), crosses("1+")},
		{"undone, beside others", 3, crosses("0+ 1- 1+"), crosses("0+")},
		{"undone in two places", 3, crosses("0+ 0- 1+ 0- 0+"), crosses("1+")},
		{"undone in two places between two", 3, crosses("1- 0+ 0- 0- 0+ 1+"), nil},
		{"nested", 7, crosses("0+ 1- 2+ 3- 4+ 5- 5+ 4- 3+ 2- 1+ 0-"), nil},
		{"nested, but the outermost", 7, crosses("0+ 1- 2+ 3- 4+ 5- 5+ 4- 3+ 2- 1+ 0+"), crosses("0+ 0+")},
		{"forty, in turn", 2, slices.Repeat(crosses("0+ 0-"), 20), nil},
		{"forty, nested", 2, slices.Concat(slices.Repeat(crosses("0-"), 20), slices.Repeat(crosses("0+"), 20)), nil},
		{"forty equal ones", 2, slices.Repeat(crosses("0+"), 40), slices.Repeat(crosses("0+"), 40)},
		{"forty that stay", 7, inTurn(7, 40), inTurn(7, 40)},
		{"forty-one that stay", 7, inTurn(7, 41), nil},
		{"forty-one equal ones", 2, slices.Repeat(crosses("0+"), 41), nil},
		{"forty-one of which one would stay", 2, append(slices.Repeat(crosses("0+ 0-"), 20), crosses("0+")...), nil},
		{"no puppets", 0, nil, nil},
		{"eight puppets", 8, crosses("0+"), nil},
		{"one puppet at 0", 1, crosses("0+"), nil},
		{"a crossing at -1", 3, append(crosses("0+"), crossesAt(-1, true)...), nil},
		{"a crossing at n - 1", 3, crosses("0+ 2+"), nil},
		{"a crossing at n - 1 that is undone", 3, crosses("0+ 2+ 2-"), nil},
	} {
		if got := impl.Reduced(c.n, c.list); !slices.Equal(got, c.want) {
			t.Errorf("%s: Reduced are %v, want %v", c.name, got, c.want)
		}
	}
}

// undoEachOther compares the parts of two crossings.
func undoEachOther(a impl.Cross, b impl.Cross) bool {
	return a.At == b.At && a.Front != b.Front
}

// reducedByDefinition removes the first two that undo each other, and goes on
// with the rest.
func reducedByDefinition(list []impl.Cross) []impl.Cross {
	for i := 1; i < len(list); i++ {
		if undoEachOther(list[i-1], list[i]) {
			return reducedByDefinition(slices.Concat(list[:i-1], list[i+1:]))
		}
	}
	return list
}

// reducedFromTheEnd keeps crossings on a pile, from the last one on, and takes
// the uppermost one away if the next one is undone by it.
func reducedFromTheEnd(list []impl.Cross) []impl.Cross {
	var pile []impl.Cross
	for _, c := range slices.Backward(list) {
		if top := len(pile) - 1; top >= 0 && undoEachOther(pile[top], c) {
			pile = pile[:top]
		} else {
			pile = append(pile, c)
		}
	}
	slices.Reverse(pile)
	return pile
}

func TestReducedByDefinition(t *testing.T) {
	shorter := 0
	for _, c := range validCrosses() {
		got := impl.Reduced(c.n, c.list)
		if want := reducedByDefinition(c.list); !slices.Equal(got, want) {
			t.Errorf("Reduced(%d, %v) are %v, want %v", c.n, c.list, got, want)
		}
		if want := reducedFromTheEnd(c.list); !slices.Equal(got, want) {
			t.Errorf("Reduced(%d, %v) are %v, but from the end %v", c.n, c.list, got, want)
		}
		if again := impl.Reduced(c.n, got); !slices.Equal(again, got) {
			t.Errorf("Reduced(%d, %v) are %v, not the same again", c.n, got, again)
		}
		for i := 1; i < len(got); i++ {
			if undoEachOther(got[i-1], got[i]) {
				t.Errorf("Reduced(%d, %v) are %v", c.n, c.list, got)
			}
		}
		if len(got) < len(c.list) {
			shorter++
		}
	}
	if shorter < 1000 {
		t.Errorf("only %d lists are reduced", shorter)
	}
}

// TestReducedCrossesLeadToTheSameOrder checks promise 8. Reducing takes away
// crossings by twos in which the same puppet passes in front.
func TestReducedCrossesLeadToTheSameOrder(t *testing.T) {
	for _, c := range validCrosses() {
		got := impl.Reduced(c.n, c.list)
		if !impl.CrossesOk(c.n, got) || len(got) > len(c.list) || len(got)%2 != len(c.list)%2 {
			t.Errorf("Reduced(%d, %v) are %v", c.n, c.list, got)
		}
		after, want := impl.OrderAfter(c.n, got), impl.OrderAfter(c.n, c.list)
		if !slices.Equal(after, want) || !slices.Equal(orderOf(c.n, got), orderOf(c.n, c.list)) {
			t.Errorf("Reduced(%d, %v) are %v, which lead to %v, want %v", c.n, c.list, got, after, want)
		}
		for puppet := range c.n {
			taken := impl.CountFront(c.n, c.list, puppet) - impl.CountFront(c.n, got, puppet)
			if taken < 0 || taken%2 != 0 {
				t.Errorf("Reduced(%d, %v) are %v, which takes %d from puppet %d", c.n, c.list, got, taken, puppet)
			}
		}
	}
}

func TestCountFront(t *testing.T) {
	for _, c := range []struct {
		name   string
		n      int
		list   []impl.Cross
		puppet int
		want   int
	}{
		{"one puppet", 1, nil, 0, 0},
		{"one puppet, -1", 1, nil, -1, -1},
		{"one puppet, n", 1, nil, 1, -1},
		{"no crossings, the first puppet", 7, nil, 0, 0},
		{"no crossings, the last puppet", 7, nil, 6, 0},
		{"no crossings, -1", 7, nil, -1, -1},
		{"no crossings, n", 7, nil, 7, -1},
		{"the first of two", 2, crosses("0+"), 0, 1},
		{"the last of two", 2, crosses("0+"), 1, 0},
		{"the first of two, without Front", 2, crosses("0-"), 0, 0},
		{"the last of two, without Front", 2, crosses("0-"), 1, 1},
		{"there and back in front", 2, crosses("0+ 0-"), 0, 2},
		{"there and back behind", 2, crosses("0+ 0-"), 1, 0},
		{"around each other", 2, crosses("0+ 0+"), 0, 1},
		{"around each other, the other one", 2, crosses("0+ 0+"), 1, 1},
		{"the first of three", 3, crosses("0+ 1- 1+"), 0, 1},
		{"the middle one of three", 3, crosses("0+ 1- 1+"), 1, 0},
		{"the last of three", 3, crosses("0+ 1- 1+"), 2, 2},
		{"n of three", 3, crosses("0+ 1- 1+"), 3, -1},
		{"-1 of three", 3, crosses("0+ 1- 1+"), -1, -1},
		{"the least int", 3, crosses("0+ 1- 1+"), math.MinInt, -1},
		{"the greatest int", 3, crosses("0+ 1- 1+"), math.MaxInt, -1},
		{"the first of seven", 7, crosses("0+ 1+ 2+ 3- 4+ 5+"), 0, 5},
		{"one of seven", 7, crosses("0+ 1+ 2+ 3- 4+ 5+"), 4, 1},
		{"the last of seven", 7, crosses("5- 4- 3- 2- 1- 0-"), 6, 6},
		{"forty crossings", 2, slices.Repeat(crosses("0- 0+"), 20), 1, 40},
		{"forty crossings, the other one", 2, slices.Repeat(crosses("0- 0+"), 20), 0, 0},
		{"forty-one crossings", 2, make([]impl.Cross, 41), 0, -1},
		{"no puppets", 0, nil, 0, -1},
		{"no puppets, -1", 0, nil, -1, -1},
		{"eight puppets", 8, crosses("0+"), 0, -1},
		{"one puppet at 0", 1, crosses("0+"), 0, -1},
		{"a crossing at -1", 3, crossesAt(-1, true), 0, -1},
		{"a crossing at n - 1", 3, crosses("0+ 2+"), 0, -1},
	} {
		if got := impl.CountFront(c.n, c.list, c.puppet); got != c.want {
			t.Errorf("%s: CountFront is %d, want %d", c.name, got, c.want)
		}
	}
}

func TestCountFrontOfAllCrosses(t *testing.T) {
	for _, c := range validCrosses() {
		pairs := pairsAt(c.n, c.list)
		sum := 0
		for puppet := range c.n {
			want := 0
			for _, pair := range pairs {
				if pair[0] == puppet {
					want++
				}
			}
			got := impl.CountFront(c.n, c.list, puppet)
			if got != want {
				t.Errorf("CountFront(%d, %v, %d) is %d, want %d", c.n, c.list, puppet, got, want)
			}
			sum += got
		}
		if sum != len(c.list) {
			t.Errorf("CountFront(%d, %v) of all puppets is %d", c.n, c.list, sum)
		}
		for _, puppet := range []int{math.MinInt, -2, -1, c.n, c.n + 1, 8, math.MaxInt} {
			if got := impl.CountFront(c.n, c.list, puppet); got != -1 {
				t.Errorf("CountFront(%d, %v, %d) is %d, want -1", c.n, c.list, puppet, got)
			}
		}
	}
}

func TestInvalidCrosses(t *testing.T) {
	for _, c := range invalidCrosses() {
		if got := impl.OrderAfter(c.n, c.list); len(got) != 0 {
			t.Errorf("%s: OrderAfter is %v, want none", c.name, got)
		}
		if got := impl.PairsOf(c.n, c.list); len(got) != 0 {
			t.Errorf("%s: PairsOf are %v, want none", c.name, got)
		}
		if got := impl.Reduced(c.n, c.list); len(got) != 0 {
			t.Errorf("%s: Reduced are %v, want none", c.name, got)
		}
		for _, puppet := range append(numbersAround(0, 8), c.n-1, c.n) {
			if got := impl.CountFront(c.n, c.list, puppet); got != -1 {
				t.Errorf("%s: CountFront of %d is %d, want -1", c.name, puppet, got)
			}
		}
	}
}

// roomyCrosses has the list twice: alone, and with what is behind it in the same
// memory.
func roomyCrosses(list []impl.Cross) ([]impl.Cross, []impl.Cross) {
	all := append(slices.Clone(list), impl.Cross{At: 70, Front: true}, impl.Cross{At: 71}, impl.Cross{At: 72, Front: true})
	return all[:len(list)], all
}

// watchedCrosses has a roomy list, and a check that tells who has changed it or
// what is behind it.
func watchedCrosses(t *testing.T, list []impl.Cross) ([]impl.Cross, func(by string)) {
	watched, all := roomyCrosses(list)
	want := slices.Clone(all)
	return watched, func(by string) {
		t.Helper()
		if !slices.Equal(all, want) {
			t.Errorf("%s changes %v to %v", by, want, all)
			copy(all, want)
		}
	}
}

// overwriteCrosses changes the crossings, also behind the end of the list.
func overwriteCrosses(list []impl.Cross) {
	all := list[:cap(list)]
	for i := range all {
		all[i] = impl.Cross{At: 90, Front: !all[i].Front}
	}
}

// someCrosses are valid and invalid lists. Of the valid ones, some are reduced,
// some are not and some are empty.
func someCrosses() []namedCrosses {
	var lists []namedCrosses
	for i, c := range validCrosses() {
		if i%7 == 0 || len(c.list) < 3 {
			lists = append(lists, c)
		}
	}
	return append(lists, invalidCrosses()...)
}

func TestCrossArgumentsAreLeftUnchanged(t *testing.T) {
	for _, c := range someCrosses() {
		list, check := watchedCrosses(t, c.list)
		impl.CrossesOk(c.n, list)
		check("CrossesOk")
		impl.OrderAfter(c.n, list)
		check("OrderAfter")
		impl.PairsOf(c.n, list)
		check("PairsOf")
		impl.UndoCrosses(list)
		check("UndoCrosses")
		impl.Reduced(c.n, list)
		check("Reduced")
		for puppet := -1; puppet <= 8; puppet++ {
			impl.CountFront(c.n, list, puppet)
			check("CountFront")
		}
	}
}

func TestCrossesAreNewMemory(t *testing.T) {
	for _, c := range someCrosses() {
		list, check := watchedCrosses(t, c.list)
		overwriteCrosses(impl.UndoCrosses(list))
		check("a change of UndoCrosses")
		overwriteCrosses(impl.Reduced(c.n, list))
		check("a change of Reduced")
		overwritePoses([][]int{impl.OrderAfter(c.n, list)})
		overwritePoses(impl.PairsOf(c.n, list))
		check("a change of OrderAfter or PairsOf")
	}
}

// TestCrossesAreKeptApart changes an argument behind the calls, and then one of
// two results of the same call.
func TestCrossesAreKeptApart(t *testing.T) {
	for _, text := range []string{"0+", "0+ 1-", "0+ 1- 1+", "0+ 1- 1+ 0- 1+", "1+ 0- 1+ 0-"} {
		list := crosses(text)
		reduced, otherReduced := impl.Reduced(3, list), impl.Reduced(3, list)
		undone, otherUndone := impl.UndoCrosses(list), impl.UndoCrosses(list)
		wantReduced, wantUndone := slices.Clone(reduced), slices.Clone(undone)
		order, otherOrder := impl.OrderAfter(3, list), impl.OrderAfter(3, list)
		wantOrder := orderOf(3, list)
		overwriteCrosses(list)
		if !slices.Equal(reduced, wantReduced) || !slices.Equal(undone, wantUndone) {
			t.Errorf("a change of %s changes the results to %v and %v", text, reduced, undone)
		}
		overwriteCrosses(reduced)
		overwriteCrosses(undone)
		overwritePoses([][]int{order})
		if !slices.Equal(otherReduced, wantReduced) || !slices.Equal(otherUndone, wantUndone) || !slices.Equal(otherOrder, wantOrder) {
			t.Errorf("a change of one result of %s changes the other one to %v, %v or %v", text, otherReduced, otherUndone, otherOrder)
		}
	}
}

// TestPairsAreKeptApart changes one pair after the other, also behind its end.
func TestPairsAreKeptApart(t *testing.T) {
	for n := 2; n <= 7; n++ {
		list := inTurn(n, 12)
		want := pairsAt(n, list)
		for changed := range want {
			got := impl.PairsOf(n, list)
			overwritePoses(got[changed : changed+1])
			for i := range got {
				if i != changed && !slices.Equal(got[i], want[i]) {
					t.Errorf("a change of pair %d of %d puppets changes pair %d to %v, want %v", changed, n, i, got[i], want[i])
				}
			}
		}
	}
}
