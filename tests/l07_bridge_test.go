package tests

import (
	"math"
	"slices"
	"testing"

	"loop.example/g03306/impl"
)

// ordersOf are all orders of these many puppets: a new puppet comes into each
// shorter order, at each of its places.
func ordersOf(puppets int) [][]int {
	if puppets == 0 {
		return [][]int{nil}
	}
	var orders [][]int
	for _, shorter := range ordersOf(puppets - 1) {
		for place := range puppets {
			orders = append(orders, slices.Insert(slices.Clone(shorter), place, puppets-1))
		}
	}
	return orders
}

// validOrders are all orders that there are.
func validOrders() [][]int {
	var orders [][]int
	for puppets := 1; puppets <= 7; puppets++ {
		orders = append(orders, ordersOf(puppets)...)
	}
	return orders
}

func sortedOrder(puppets int) []int {
	return counted(puppets, 0, 1)
}

func reversedOrder(puppets int) []int {
	return counted(puppets, puppets-1, -1)
}

type namedOrder struct {
	name  string
	order []int
}

func invalidOrders() []namedOrder {
	orders := []namedOrder{
		{"no puppets", nil},
		{"no puppets, an empty list", []int{}},
		{"eight puppets", sortedOrder(8)},
		{"eight puppets, reversed", reversedOrder(8)},
		{"eight places, seven puppets", append(sortedOrder(7), 6)},
		{"many puppets", sortedOrder(10000)},
		{"many equal puppets", make([]int, 10000)},
		{"one puppet at -1", []int{-1}},
		{"one puppet at 1", []int{1}},
		{"one puppet at 7", []int{7}},
		{"one puppet at the least int", []int{math.MinInt}},
		{"one puppet at the greatest int", []int{math.MaxInt}},
		{"two equal puppets", []int{0, 0}},
		{"two equal puppets, the greater one", []int{1, 1}},
		{"two puppets from 1 on", []int{1, 2}},
		{"two puppets down from 2", []int{2, 1}},
		{"a gap", []int{0, 2}},
		{"the first one twice", []int{2, 0, 1, 2}},
		{"the last one twice", []int{3, 0, 1, 1}},
		{"all of them twice", []int{0, 1, 2, 0, 1, 2}},
		{"the sum of an order", []int{1, 1, 1}},
		{"the sum and the product of an order", []int{0, 2, 2, 2, 4}},
	}
	for puppets := 1; puppets <= 7; puppets++ {
		for place := range puppets {
			for _, n := range []int{math.MinInt, -7, -1, puppets, puppets + 1, 64, math.MaxInt} {
				name := impl.FormatInt(n) + " at place " + impl.FormatInt(place) + " of " + impl.FormatInt(puppets)
				orders = append(orders, namedOrder{name, withNumber(reversedOrder(puppets), place, n)})
			}
			for other := range puppets {
				if other != place {
					name := impl.FormatInt(other) + " twice, also at place " + impl.FormatInt(place) + " of " + impl.FormatInt(puppets)
					orders = append(orders, namedOrder{name, withNumber(sortedOrder(puppets), place, other)})
				}
			}
		}
	}
	return orders
}

// isOrder looks at the sorted list.
func isOrder(list []int) bool {
	return len(list) >= 1 && len(list) <= 7 && slices.Equal(slices.Sorted(slices.Values(list)), sortedOrder(len(list)))
}

// exchanged is the list with the numbers at the places k and k + 1 exchanged.
func exchanged(list []int, k int) []int {
	return slices.Concat(list[:k], []int{list[k+1], list[k]}, list[k+2:])
}

func TestBridgeConstants(t *testing.T) {
	if impl.MaxPuppets != 7 {
		t.Errorf("MaxPuppets is %d, want 7", impl.MaxPuppets)
	}
}

func TestOrderOk(t *testing.T) {
	orders := validOrders()
	// 1 + 2 + 6 + 24 + 120 + 720 + 5040
	if len(orders) != 5913 {
		t.Fatalf("there are %d orders, want 5913", len(orders))
	}
	for _, order := range orders {
		if !impl.OrderOk(order) {
			t.Errorf("OrderOk(%v) is false", order)
		}
	}
	for _, c := range invalidOrders() {
		if impl.OrderOk(c.order) {
			t.Errorf("%s: OrderOk is true", c.name)
		}
	}
}

func TestOrderOkCounts(t *testing.T) {
	for puppets := range 20 {
		want := puppets >= 1 && puppets <= 7
		for _, order := range [][]int{sortedOrder(puppets), reversedOrder(puppets)} {
			if got := impl.OrderOk(order); got != want {
				t.Errorf("OrderOk(%v) is %v", order, got)
			}
		}
	}
}

func TestOrderOkOfAllSmallLists(t *testing.T) {
	for count := range 6 {
		forAllLists(count, -1, count+1, func(list []int) {
			if got := impl.OrderOk(list); got != isOrder(list) {
				t.Errorf("OrderOk(%v) is %v", list, got)
			}
		})
	}
}

func TestOrderOkNumbers(t *testing.T) {
	for _, n := range numbersAround(0, 70) {
		if got := impl.OrderOk([]int{n}); got != (n == 0) {
			t.Errorf("OrderOk([%d]) is %v", n, got)
		}
		for place := range 4 {
			list := withNumber([]int{2, 0, 3, 1}, place, n)
			if got := impl.OrderOk(list); got != isOrder(list) {
				t.Errorf("OrderOk(%v) is %v", list, got)
			}
		}
	}
}

// checkOrder checks an order and a truth value against what they should be.
func checkOrder(t *testing.T, name string, got []int, ok bool, want []int, wantOk bool) {
	t.Helper()
	if !slices.Equal(got, want) || ok != wantOk {
		t.Errorf("%s is %v, %v, want %v, %v", name, got, ok, want, wantOk)
	}
}

func TestSwapAt(t *testing.T) {
	for _, c := range []struct {
		name  string
		order []int
		k     int
		want  []int
		ok    bool
	}{
		{"the first place", []int{2, 0, 1}, 0, []int{0, 2, 1}, true},
		{"the last place", []int{2, 0, 1}, 1, []int{2, 1, 0}, true},
		{"behind the last place", []int{2, 0, 1}, 2, []int{2, 0, 1}, false},
		{"the number of puppets", []int{2, 0, 1}, 3, []int{2, 0, 1}, false},
		{"before the first place", []int{2, 0, 1}, -1, []int{2, 0, 1}, false},
		{"the least int", []int{2, 0, 1}, math.MinInt, []int{2, 0, 1}, false},
		{"the greatest int", []int{2, 0, 1}, math.MaxInt, []int{2, 0, 1}, false},
		{"one puppet at -1", []int{0}, -1, []int{0}, false},
		{"one puppet at 0", []int{0}, 0, []int{0}, false},
		{"one puppet at 1", []int{0}, 1, []int{0}, false},
		{"two puppets at -1", []int{0, 1}, -1, []int{0, 1}, false},
		{"two puppets at 0", []int{0, 1}, 0, []int{1, 0}, true},
		{"two puppets at 0, back", []int{1, 0}, 0, []int{0, 1}, true},
		{"two puppets at 1", []int{1, 0}, 1, []int{1, 0}, false},
		{"seven puppets at 0", []int{6, 5, 4, 3, 2, 1, 0}, 0, []int{5, 6, 4, 3, 2, 1, 0}, true},
		{"seven puppets at 3", []int{6, 5, 4, 3, 2, 1, 0}, 3, []int{6, 5, 4, 2, 3, 1, 0}, true},
		{"seven puppets at 5", []int{6, 5, 4, 3, 2, 1, 0}, 5, []int{6, 5, 4, 3, 2, 0, 1}, true},
		{"seven puppets at 6", []int{6, 5, 4, 3, 2, 1, 0}, 6, []int{6, 5, 4, 3, 2, 1, 0}, false},
		{"no puppets at 0", nil, 0, nil, false},
		{"no puppets at -2", nil, -2, nil, false},
		{"eight puppets at 0", []int{1, 0, 2, 3, 4, 5, 6, 7}, 0, []int{1, 0, 2, 3, 4, 5, 6, 7}, false},
		{"a puppet that stands twice", []int{1, 1, 0}, 1, []int{1, 1, 0}, false},
		{"a puppet below 0", []int{1, 0, -1}, 0, []int{1, 0, -1}, false},
		{"a puppet that is their number", []int{1, 3, 0}, 0, []int{1, 3, 0}, false},
	} {
		got, ok := impl.SwapAt(c.order, c.k)
		checkOrder(t, c.name, got, ok, c.want, c.ok)
	}
}

func TestSwapAtOfAllOrders(t *testing.T) {
	for _, order := range validOrders() {
		for _, k := range numbersAround(0, 7) {
			want, wantOk := order, k >= 0 && k <= len(order)-2
			if wantOk {
				want = exchanged(order, k)
			}
			got, ok := impl.SwapAt(order, k)
			if !slices.Equal(got, want) || ok != wantOk {
				t.Errorf("SwapAt(%v, %d) is %v, %v, want %v, %v", order, k, got, ok, want, wantOk)
			}
			if back, _ := impl.SwapAt(got, k); ok && !slices.Equal(back, order) {
				t.Errorf("SwapAt(%v, %d) twice is %v", order, k, back)
			}
		}
	}
}

func TestCountInversions(t *testing.T) {
	for _, c := range []struct {
		order []int
		want  int
	}{
		{[]int{0}, 0},
		{[]int{0, 1}, 0},
		{[]int{1, 0}, 1},
		{[]int{0, 1, 2}, 0},
		{[]int{2, 0, 1}, 2},
		{[]int{1, 2, 0}, 2},
		{[]int{2, 1, 0}, 3},
		{[]int{1, 0, 3, 2}, 2},
		{[]int{3, 1, 2, 0}, 5},
		{[]int{0, 1, 2, 3, 4, 5, 6}, 0},
		{[]int{6, 0, 1, 2, 3, 4, 5}, 6},
		{[]int{1, 2, 3, 4, 5, 6, 0}, 6},
		{[]int{6, 1, 2, 3, 4, 5, 0}, 11},
		{[]int{6, 5, 4, 3, 2, 1, 0}, 21},
		{nil, -1},
		{[]int{}, -1},
		{[]int{1}, -1},
		{[]int{-1}, -1},
		{[]int{1, 1}, -1},
		{[]int{0, 2}, -1},
		{[]int{2, 1}, -1},
		{[]int{7, 6, 5, 4, 3, 2, 1, 0}, -1},
	} {
		if got := impl.CountInversions(c.order); got != c.want {
			t.Errorf("CountInversions(%v) is %d, want %d", c.order, got, c.want)
		}
	}
	for puppets := 1; puppets <= 7; puppets++ {
		if got := impl.CountInversions(sortedOrder(puppets)); got != 0 {
			t.Errorf("CountInversions of %d puppets in order is %d", puppets, got)
		}
		if got := impl.CountInversions(reversedOrder(puppets)); got != puppets*(puppets-1)/2 {
			t.Errorf("CountInversions of %d puppets in reverse is %d", puppets, got)
		}
	}
}

// TestCountInversionsCountsPairs counts for each pair of puppets, not of places.
func TestCountInversionsCountsPairs(t *testing.T) {
	for _, order := range validOrders() {
		want := 0
		for greater := range len(order) {
			for lesser := range greater {
				if slices.Index(order, greater) < slices.Index(order, lesser) {
					want++
				}
			}
		}
		if got := impl.CountInversions(order); got != want {
			t.Errorf("CountInversions(%v) is %d, want %d", order, got, want)
		}
	}
}

// sevenOf is an order as a key, with as many zeros behind it as are missing.
func sevenOf(order []int) [7]int {
	var key [7]int
	copy(key[:], order)
	return key
}

// fewestExchanges has, for each order of these many puppets, the least number
// of exchanges of neighbors that sort it. It walks away from the sorted order,
// one exchange of any order after the other.
func fewestExchanges(puppets int) map[[7]int]int {
	fewest := map[[7]int]int{sevenOf(sortedOrder(puppets)): 0}
	edge := [][]int{sortedOrder(puppets)}
	for exchanges := 1; len(edge) > 0; exchanges++ {
		var next [][]int
		for _, order := range edge {
			for k := range puppets - 1 {
				other := exchanged(order, k)
				if _, found := fewest[sevenOf(other)]; !found {
					fewest[sevenOf(other)] = exchanges
					next = append(next, other)
				}
			}
		}
		edge = next
	}
	return fewest
}

// TestInversionsAreTheFewestExchanges checks promise 7, for all orders.
func TestInversionsAreTheFewestExchanges(t *testing.T) {
	for puppets := 1; puppets <= 7; puppets++ {
		fewest := fewestExchanges(puppets)
		orders := ordersOf(puppets)
		if len(fewest) != len(orders) {
			t.Fatalf("%d of %d orders can be sorted", len(fewest), len(orders))
		}
		for _, order := range orders {
			want := fewest[sevenOf(order)]
			if got := impl.CountInversions(order); got != want {
				t.Errorf("CountInversions(%v) is %d, but %d exchanges sort it", order, got, want)
			}
			swaps := impl.SortingSwaps(order)
			if len(swaps) != want {
				t.Errorf("SortingSwaps(%v) are %v, but %d exchanges sort it", order, swaps, want)
			}
			got, ok := impl.AfterSwaps(order, swaps)
			if !ok || !slices.Equal(got, sortedOrder(puppets)) {
				t.Errorf("SortingSwaps(%v) are %v, which lead to %v, %v", order, swaps, got, ok)
			}
		}
	}
}

// TestEachExchangeChangesTheInversionsByOne is why no fewer exchanges sort an
// order.
func TestEachExchangeChangesTheInversionsByOne(t *testing.T) {
	for _, order := range validOrders() {
		for k := range len(order) - 1 {
			got, _ := impl.SwapAt(order, k)
			want := impl.CountInversions(order) + 1
			if order[k] > order[k+1] {
				want -= 2
			}
			if inversions := impl.CountInversions(got); inversions != want {
				t.Errorf("SwapAt(%v, %d) has %d inversions, want %d", order, k, inversions, want)
			}
		}
	}
}

func TestSortingSwaps(t *testing.T) {
	for _, c := range []struct {
		order []int
		want  []int
	}{
		{[]int{0}, nil},
		{[]int{0, 1}, nil},
		{[]int{1, 0}, []int{0}},
		{[]int{0, 1, 2}, nil},
		{[]int{2, 0, 1}, []int{0, 1}},
		{[]int{1, 2, 0}, []int{1, 0}},
		{[]int{0, 2, 1}, []int{1}},
		{[]int{2, 1, 0}, []int{0, 1, 0}},
		{[]int{1, 0, 3, 2}, []int{0, 2}},
		{[]int{3, 2, 1, 0}, []int{0, 1, 0, 2, 1, 0}},
		{[]int{0, 1, 2, 3, 4, 5, 6}, nil},
		{[]int{0, 1, 2, 3, 4, 6, 5}, []int{5}},
		{[]int{1, 2, 3, 4, 5, 6, 0}, []int{5, 4, 3, 2, 1, 0}},
		{[]int{6, 0, 1, 2, 3, 4, 5}, []int{0, 1, 2, 3, 4, 5}},
		{[]int{6, 5, 4, 3, 2, 1, 0}, []int{0, 1, 0, 2, 1, 0, 3, 2, 1, 0, 4, 3, 2, 1, 0, 5, 4, 3, 2, 1, 0}},
		{nil, nil},
		{[]int{}, nil},
		{[]int{1}, nil},
		{[]int{1, -1}, nil},
		{[]int{1, 1, 0}, nil},
		{[]int{2, 0}, nil},
		{[]int{2, 1}, nil},
		{[]int{7, 6, 5, 4, 3, 2, 1, 0}, nil},
	} {
		if got := impl.SortingSwaps(c.order); !slices.Equal(got, c.want) {
			t.Errorf("SortingSwaps(%v) are %v, want %v", c.order, got, c.want)
		}
	}
}

// TestSortingSwapsTakeTheLeastPlace looks at the order before each exchange: it
// rises up to the place, and falls there.
func TestSortingSwapsTakeTheLeastPlace(t *testing.T) {
	for _, order := range validOrders() {
		now := order
		for i, k := range impl.SortingSwaps(order) {
			if k < 0 || k > len(now)-2 || !slices.IsSorted(now[:k+1]) || now[k] < now[k+1] {
				t.Errorf("SortingSwaps(%v) exchange at %d of %v as number %d", order, k, now, i)
				break
			}
			now = exchanged(now, k)
		}
		if !slices.IsSorted(now) {
			t.Errorf("SortingSwaps(%v) end with %v", order, now)
		}
	}
}

func TestAfterSwaps(t *testing.T) {
	for _, c := range []struct {
		name  string
		order []int
		swaps []int
		want  []int
		ok    bool
	}{
		{"one swap", []int{2, 0, 1}, []int{1}, []int{2, 1, 0}, true},
		{"two swaps", []int{2, 0, 1}, []int{0, 1}, []int{0, 1, 2}, true},
		{"two swaps, the other way around", []int{2, 0, 1}, []int{1, 0}, []int{1, 2, 0}, true},
		{"the same swap twice", []int{2, 0, 1}, []int{1, 1}, []int{2, 0, 1}, true},
		{"the same swap three times", []int{2, 0, 1}, []int{1, 1, 1}, []int{2, 1, 0}, true},
		{"three swaps", []int{0, 1, 2}, []int{0, 1, 0}, []int{2, 1, 0}, true},
		{"three other swaps", []int{0, 1, 2}, []int{1, 0, 1}, []int{2, 1, 0}, true},
		{"no swaps", []int{2, 0, 1}, nil, []int{2, 0, 1}, true},
		{"no swaps, an empty list", []int{2, 0, 1}, []int{}, []int{2, 0, 1}, true},
		{"no swaps, sorted", []int{0, 1, 2}, nil, []int{0, 1, 2}, true},
		{"no swaps of one puppet", []int{0}, nil, []int{0}, true},
		{"no swaps of seven puppets", []int{6, 5, 4, 3, 2, 1, 0}, nil, []int{6, 5, 4, 3, 2, 1, 0}, true},
		{"a swap of one puppet", []int{0}, []int{0}, []int{0}, false},
		{"a swap of one puppet at -1", []int{0}, []int{-1}, []int{0}, false},
		{"one wrong swap", []int{2, 0, 1}, []int{2}, []int{2, 0, 1}, false},
		{"one wrong swap at -1", []int{2, 0, 1}, []int{-1}, []int{2, 0, 1}, false},
		{"the last one is wrong", []int{2, 0, 1}, []int{0, 1, 2}, []int{2, 0, 1}, false},
		{"the last one is at -1", []int{2, 0, 1}, []int{0, 1, -1}, []int{2, 0, 1}, false},
		{"the first one is wrong", []int{2, 0, 1}, []int{2, 0, 1}, []int{2, 0, 1}, false},
		{"the middle one is wrong", []int{2, 0, 1}, []int{0, 5, 1}, []int{2, 0, 1}, false},
		{"one at the least int", []int{2, 0, 1}, []int{0, math.MinInt}, []int{2, 0, 1}, false},
		{"one at the greatest int", []int{2, 0, 1}, []int{0, math.MaxInt}, []int{2, 0, 1}, false},
		{"seven puppets", []int{0, 1, 2, 3, 4, 5, 6}, []int{0, 1, 2, 3, 4, 5}, []int{1, 2, 3, 4, 5, 6, 0}, true},
		{"seven puppets, the last one is wrong", []int{0, 1, 2, 3, 4, 5, 6}, []int{0, 1, 2, 3, 4, 5, 6}, []int{0, 1, 2, 3, 4, 5, 6}, false},
		{"no puppets and no swaps", nil, nil, nil, false},
		{"no puppets and one swap", nil, []int{0}, nil, false},
		{"eight puppets and no swaps", []int{0, 1, 2, 3, 4, 5, 7, 6}, nil, []int{0, 1, 2, 3, 4, 5, 7, 6}, false},
		{"eight puppets and one swap", []int{0, 1, 2, 3, 4, 5, 7, 6}, []int{0}, []int{0, 1, 2, 3, 4, 5, 7, 6}, false},
		{"a puppet that stands twice", []int{1, 1, 0}, []int{1}, []int{1, 1, 0}, false},
		{"a puppet that stands twice, no swaps", []int{1, 1, 0}, nil, []int{1, 1, 0}, false},
		{"a puppet below 0", []int{1, 0, -1}, []int{0}, []int{1, 0, -1}, false},
		{"a puppet that is their number", []int{1, 3, 0}, []int{0}, []int{1, 3, 0}, false},
	} {
		got, ok := impl.AfterSwaps(c.order, c.swaps)
		checkOrder(t, c.name, got, ok, c.want, c.ok)
	}
}

// alternating are swaps at 0 and 1 in turn: six of them lead three puppets back.
func alternating(count int) []int {
	swaps := make([]int, count)
	for i := range swaps {
		swaps[i] = i % 2
	}
	return swaps
}

func TestAfterSwapsCounts(t *testing.T) {
	order := []int{2, 0, 1}
	for count := range 70 {
		want := order
		if count <= 60 {
			for _, k := range alternating(count) {
				want = exchanged(want, k)
			}
		}
		got, ok := impl.AfterSwaps(order, alternating(count))
		checkOrder(t, impl.FormatInt(count)+" swaps", got, ok, want, count <= 60)
	}
	for _, c := range []struct {
		name  string
		swaps []int
		want  []int
		ok    bool
	}{
		{"59 swaps at 0", make([]int, 59), []int{0, 2, 1}, true},
		{"60 swaps at 0", make([]int, 60), []int{2, 0, 1}, true},
		{"61 swaps at 0", make([]int, 61), []int{2, 0, 1}, false},
		{"60 swaps that lead elsewhere", append(make([]int, 59), 1), []int{0, 1, 2}, true},
		{"60 swaps, the last one is wrong", append(make([]int, 59), 2), []int{2, 0, 1}, false},
		{"61 swaps, the last one is wrong", append(make([]int, 60), 2), []int{2, 0, 1}, false},
		{"61 swaps, the first one is wrong", append([]int{2}, make([]int, 60)...), []int{2, 0, 1}, false},
		{"many swaps", make([]int, 100001), []int{2, 0, 1}, false},
	} {
		got, ok := impl.AfterSwaps(order, c.swaps)
		checkOrder(t, c.name, got, ok, c.want, c.ok)
	}
}

// TestAfterSwapsOfEachSwap spoils each of sixty swaps in turn.
func TestAfterSwapsOfEachSwap(t *testing.T) {
	for _, order := range [][]int{{2, 0, 1}, {0, 1, 2, 3}, {6, 5, 4, 3, 2, 1, 0}} {
		for i := range 60 {
			for _, k := range numbersAround(0, 7) {
				swaps := withNumber(alternating(60), i, k)
				want, wantOk := order, k >= 0 && k <= len(order)-2
				if wantOk {
					for _, k := range swaps {
						want = exchanged(want, k)
					}
				}
				got, ok := impl.AfterSwaps(order, swaps)
				checkOrder(t, "AfterSwaps", got, ok, want, wantOk)
			}
		}
	}
}

// TestAfterSwapsPerformsSwapAt takes swaps of all kinds, right and wrong ones.
func TestAfterSwapsPerformsSwapAt(t *testing.T) {
	next := fromChance(7)
	for _, order := range validOrders() {
		swaps := make([]int, next(12))
		for i := range swaps {
			swaps[i] = next(len(order))
			if next(40) > 0 {
				swaps[i] = next(max(len(order)-1, 1))
			}
		}
		want, wantOk := order, true
		for _, k := range swaps {
			swapped, ok := impl.SwapAt(want, k)
			want, wantOk = swapped, wantOk && ok
		}
		if !wantOk {
			want = order
		}
		got, ok := impl.AfterSwaps(order, swaps)
		if !slices.Equal(got, want) || ok != wantOk {
			t.Errorf("AfterSwaps(%v, %v) is %v, %v, want %v, %v", order, swaps, got, ok, want, wantOk)
		}
	}
}

func TestPlaceOf(t *testing.T) {
	for _, c := range []struct {
		order  []int
		puppet int
		want   int
	}{
		{[]int{2, 0, 1}, 0, 1},
		{[]int{2, 0, 1}, 1, 2},
		{[]int{2, 0, 1}, 2, 0},
		{[]int{2, 0, 1}, 3, -1},
		{[]int{2, 0, 1}, -1, -1},
		{[]int{2, 0, 1}, math.MinInt, -1},
		{[]int{2, 0, 1}, math.MaxInt, -1},
		{[]int{0}, 0, 0},
		{[]int{0}, 1, -1},
		{[]int{0}, -1, -1},
		{[]int{6, 5, 4, 3, 2, 1, 0}, 6, 0},
		{[]int{6, 5, 4, 3, 2, 1, 0}, 0, 6},
		{[]int{6, 5, 4, 3, 2, 1, 0}, 7, -1},
		{nil, 0, -1},
		{[]int{}, 0, -1},
		{[]int{0, 1, 2, 3, 4, 5, 6, 7}, 0, -1},
		{[]int{0, 1, 2, 3, 4, 5, 6, 7}, 7, -1},
		{[]int{1}, 1, -1},
		{[]int{-1}, -1, -1},
		{[]int{1, -1}, -1, -1},
		{[]int{0, 2}, 0, -1},
		{[]int{0, 2}, 2, -1},
		{[]int{1, 0, 1}, 0, -1},
		{[]int{1, 0, 1}, 1, -1},
	} {
		if got := impl.PlaceOf(c.order, c.puppet); got != c.want {
			t.Errorf("PlaceOf(%v, %d) is %d, want %d", c.order, c.puppet, got, c.want)
		}
	}
}

func TestPlaceOfAllOrders(t *testing.T) {
	for _, order := range validOrders() {
		for place, puppet := range order {
			if got := impl.PlaceOf(order, puppet); got != place {
				t.Errorf("PlaceOf(%v, %d) is %d, want %d", order, puppet, got, place)
			}
		}
		for _, n := range numbersAround(0, 7) {
			if got := impl.PlaceOf(order, n); (n < 0 || n >= len(order)) && got != -1 {
				t.Errorf("PlaceOf(%v, %d) is %d, want -1", order, n, got)
			}
		}
	}
}

func TestInvalidOrders(t *testing.T) {
	for _, c := range invalidOrders() {
		if got := impl.CountInversions(c.order); got != -1 {
			t.Errorf("%s: CountInversions is %d, want -1", c.name, got)
		}
		if got := impl.SortingSwaps(c.order); len(got) != 0 {
			t.Errorf("%s: SortingSwaps are %v, want none", c.name, got)
		}
		for _, k := range []int{-2, -1, 0, 1, len(c.order) - 2, len(c.order) - 1, len(c.order), math.MaxInt} {
			got, ok := impl.SwapAt(c.order, k)
			checkOrder(t, c.name+": SwapAt "+impl.FormatInt(k), got, ok, c.order, false)
		}
		for _, swaps := range [][]int{nil, {0}, {0, 0}, {-1}, {1, 0}, {9}, make([]int, 60), make([]int, 61)} {
			got, ok := impl.AfterSwaps(c.order, swaps)
			checkOrder(t, c.name+": AfterSwaps", got, ok, c.order, false)
		}
		for _, puppet := range append(numbersAround(0, 7), c.order...) {
			if got := impl.PlaceOf(c.order, puppet); got != -1 {
				t.Errorf("%s: PlaceOf %d is %d, want -1", c.name, puppet, got)
			}
		}
	}
}

// someOrders are valid and invalid ones.
func someOrders() [][]int {
	orders := ordersOf(4)
	for puppets := 1; puppets <= 7; puppets++ {
		orders = append(orders, sortedOrder(puppets), reversedOrder(puppets))
	}
	for _, c := range invalidOrders() {
		orders = append(orders, c.order)
	}
	return orders
}

// someSwaps are right and wrong ones, too many of them and none.
func someSwaps() [][]int {
	return [][]int{nil, {0}, {0, 0}, {2, 1, 0}, {0, 1, 2, 0}, {0, -1}, {1, 0, 9}, {5, 4, 3}, alternating(60), alternating(61)}
}

func TestBridgeArgumentsAreLeftUnchanged(t *testing.T) {
	for _, list := range someOrders() {
		order, all := roomyList(list)
		check := func(by string) {
			t.Helper()
			if _, want := roomyList(list); !slices.Equal(all, want) {
				t.Errorf("%s changes %v to %v", by, want, all)
				copy(all, want)
			}
		}
		impl.OrderOk(order)
		check("OrderOk")
		impl.CountInversions(order)
		check("CountInversions")
		impl.SortingSwaps(order)
		check("SortingSwaps")
		for k := -1; k <= 8; k++ {
			impl.SwapAt(order, k)
			check("SwapAt")
			impl.PlaceOf(order, k)
			check("PlaceOf")
		}
		for _, numbers := range someSwaps() {
			swaps, allSwaps := roomyList(numbers)
			impl.AfterSwaps(order, swaps)
			check("AfterSwaps")
			if _, want := roomyList(numbers); !slices.Equal(allSwaps, want) {
				t.Errorf("AfterSwaps changes the swaps %v to %v", want, allSwaps)
			}
		}
		// The same list as both.
		impl.AfterSwaps(order, order)
		check("AfterSwaps of the order itself")
	}
}

func TestOrdersAreNewMemory(t *testing.T) {
	for _, list := range someOrders() {
		order, all := roomyList(list)
		// overwritePoses changes lists also behind their ends.
		overwritePoses([][]int{impl.SortingSwaps(order)})
		for k := -1; k <= 8; k++ {
			got, _ := impl.SwapAt(order, k)
			overwritePoses([][]int{got})
		}
		for _, numbers := range someSwaps() {
			swaps, allSwaps := roomyList(numbers)
			got, _ := impl.AfterSwaps(order, swaps)
			overwritePoses([][]int{got})
			if _, want := roomyList(numbers); !slices.Equal(allSwaps, want) {
				t.Errorf("a change of a result changes the swaps %v to %v", want, allSwaps)
			}
		}
		got, _ := impl.AfterSwaps(order, order)
		overwritePoses([][]int{got})
		if _, want := roomyList(list); !slices.Equal(all, want) {
			t.Errorf("a change of a result changes the argument %v to %v", want, all)
		}
	}
}

// TestOrdersAreKeptApart changes an argument behind a call and looks at its
// result, and has two results of the same call.
func TestOrdersAreKeptApart(t *testing.T) {
	for _, k := range []int{-1, 0, 1, 2} {
		order := []int{2, 0, 1}
		first, _ := impl.SwapAt(order, k)
		second, _ := impl.AfterSwaps(order, []int{k})
		want := slices.Clone(second)
		clear(order)
		if !slices.Equal(first, want) || !slices.Equal(second, want) {
			t.Errorf("a change of the argument changes the results at %d to %v and %v", k, first, second)
		}
		overwritePoses([][]int{first})
		if !slices.Equal(second, want) {
			t.Errorf("a change of one result at %d changes the other one to %v", k, second)
		}
	}
}
