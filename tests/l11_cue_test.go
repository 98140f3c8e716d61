package tests

import (
	"math"
	"slices"
	"strconv"
	"strings"
	"testing"

	"loop.example/g03306/impl"
)

// cues reads one cue from each field: the numbers of After with commas between
// them, or a dash for none. The Ticks and the Puppets are of all kinds.
func cues(text string) []impl.Cue {
	var list []impl.Cue
	for i, field := range strings.Fields(text) {
		list = append(list, impl.Cue{Ticks: (i*19+49)%50 + 1, After: numbersIn(field), Puppets: counted(i%4, i%3, 1)})
	}
	return list
}

func numbersIn(field string) []int {
	if field == "-" {
		return nil
	}
	var numbers []int
	for _, text := range strings.Split(field, ",") {
		n, err := strconv.Atoi(text)
		if err != nil {
			panic(err)
		}
		numbers = append(numbers, n)
	}
	return numbers
}

// afterText is what cues reads.
func afterText(list []impl.Cue) string {
	fields := make([]string, len(list))
	for i, c := range list {
		texts := []string{}
		for _, k := range c.After {
			texts = append(texts, impl.FormatInt(k))
		}
		fields[i] = strings.Join(texts, ",")
		if len(texts) == 0 {
			fields[i] = "-"
		}
	}
	return strings.Join(fields, " ")
}

// freeCues are cues that wait for nothing.
func freeCues(count int) []impl.Cue {
	return cues(strings.Repeat("- ", count))
}

// cuesInChain wait for each other in an order: each one for the one before it.
func cuesInChain(order []int) []impl.Cue {
	list := freeCues(len(order))
	for place := 1; place < len(order); place++ {
		list[order[place]].After = []int{order[place-1]}
	}
	return list
}

// crowdedCues wait for all that come before them in an order.
func crowdedCues(order []int) []impl.Cue {
	list := freeCues(len(order))
	for place, i := range order {
		list[i].After = slices.Sorted(slices.Values(order[:place]))
	}
	return list
}

// chanceOrder has the numbers from 0 on, each at a place of its own.
func chanceOrder(next func(below int) int, count int) []int {
	var order []int
	for i := range count {
		order = slices.Insert(order, next(i+1), i)
	}
	return order
}

// chanceCues wait for some of those before them in an order of all kinds: one
// of a number of times.
func chanceCues(next func(below int) int, count int, times int) []impl.Cue {
	order := chanceOrder(next, count)
	list := freeCues(count)
	for place, i := range order {
		for _, k := range order[:place] {
			if next(times) == 0 {
				list[i].After = append(list[i].After, k)
			}
		}
		slices.Sort(list[i].After)
	}
	return list
}

type namedCues struct {
	name string
	list []impl.Cue
}

// validCues have few and many waits, also for later numbers, and all counts.
func validCues() []namedCues {
	lists := []namedCues{
		{"one cue", cues("-")},
		{"two cues", cues("- -")},
		{"one waits", cues("- 0")},
		{"one waits for a later number", cues("1 -")},
		{"three cues", cues("- - 0")},
		{"the first one waits for all", cues("1,2,3 - - -")},
		{"all wait for the last one", cues("3 3 3 -")},
		{"a rhombus", cues("- 0 0 1,2")},
		{"a rhombus of later numbers", cues("1,2 3 3 -")},
		{"over another one, and at once", cues("1,2 2 -")},
		{"two chains", cues("2 3 4 5 - -")},
	}
	next := fromChance(11)
	for count := 1; count <= 12; count++ {
		ascending, descending := sortedOrder(count), reversedOrder(count)
		name := impl.FormatInt(count) + " cues, "
		lists = append(lists, namedCues{name + "free", freeCues(count)})
		lists = append(lists, namedCues{name + "in a chain", cuesInChain(ascending)})
		lists = append(lists, namedCues{name + "in a chain of later numbers", cuesInChain(descending)})
		lists = append(lists, namedCues{name + "in a chain by chance", cuesInChain(chanceOrder(next, count))})
		lists = append(lists, namedCues{name + "crowded", crowdedCues(ascending)})
		lists = append(lists, namedCues{name + "crowded by later numbers", crowdedCues(descending)})
		lists = append(lists, namedCues{name + "crowded by chance", crowdedCues(chanceOrder(next, count))})
		for i := range 20 {
			lists = append(lists, namedCues{name + "by chance", chanceCues(next, count, i%5+1)})
		}
	}
	return lists
}

// withCue is the list with a changed cue.
func withCue(list []impl.Cue, i int, change func(c *impl.Cue)) []impl.Cue {
	changed := copyOfCues(list)
	change(&changed[i])
	return changed
}

func withTicks(list []impl.Cue, i int, ticks int) []impl.Cue {
	return withCue(list, i, func(c *impl.Cue) { c.Ticks = ticks })
}

func withAfter(list []impl.Cue, i int, after ...int) []impl.Cue {
	return withCue(list, i, func(c *impl.Cue) { c.After = after })
}

func withPuppets(list []impl.Cue, i int, puppets ...int) []impl.Cue {
	return withCue(list, i, func(c *impl.Cue) { c.Puppets = puppets })
}

func copyOfCues(list []impl.Cue) []impl.Cue {
	copied := slices.Clone(list)
	for i, c := range list {
		copied[i].After, copied[i].Puppets = slices.Clone(c.After), slices.Clone(c.Puppets)
	}
	return copied
}

// circlesOf have a circle each, and nothing else that is not valid.
func circlesOf() []namedCues {
	lists := []namedCues{
		{"a cue that waits for itself at once", cues("0")},
		{"the last one of three waits for itself at once", cues("- 0 2")},
		{"a cue that waits for itself and others", cues("- 0,1,2 -")},
		{"two wait for each other", cues("1 0")},
		{"three in a circle", cues("1 2 0")},
		{"three in a circle, the other way", cues("2 0 1")},
		{"two circles apart from each other", cues("1 0 - 4 3")},
		{"a circle of two and one that waits for itself", cues("0 2 1")},
		{"one that waits for a circle", cues("1 0 1")},
		{"one that waits for a circle of later numbers", cues("1 2 1")},
		{"a circle that waits for one", cues("- 0,2 1")},
		{"a circle that waits for a circle", cues("1 0 1,3 2")},
		{"one between two circles", cues("1 0 1 2,4 3")},
	}
	for count := 1; count <= 12; count++ {
		around := withAfter(cuesInChain(sortedOrder(count)), 0, count-1)
		lists = append(lists, namedCues{impl.FormatInt(count) + " cues in a circle", around})
		around = withAfter(cuesInChain(reversedOrder(count)), count-1, 0)
		lists = append(lists, namedCues{impl.FormatInt(count) + " cues in a circle, backwards", around})
	}
	return lists
}

func invalidCues() []namedCues {
	lists := []namedCues{
		{"no cues", nil},
		{"no cues, an empty list", []impl.Cue{}},
		{"thirteen cues", freeCues(13)},
		{"thirteen cues in a chain", cuesInChain(sortedOrder(13))},
		{"fifty cues", freeCues(50)},
		{"many cues", freeCues(10000)},
		{"a cue of zeros", []impl.Cue{{}}},
		{"After twice the same", cues("- 0,0")},
		{"After not ascending", cues("- - 1,0")},
		{"After at last not ascending", cues("- - - 0,2,1")},
		{"After twice the same at last", cues("- - - 0,1,1")},
		{"After of many equal numbers", withAfter(freeCues(3), 2, make([]int, 10000)...)},
		{"After of many numbers", withAfter(freeCues(3), 2, sortedOrder(10000)...)},
		{"After at -1", cues("- -1")},
		{"After at -1 and 0", cues("- -1,0")},
		{"After at the number of cues", cues("- 2")},
		{"After at 0 and at the number of cues", cues("- 0,2")},
		{"After at 12", cues("12 - - - - - - - - - - -")},
		{"Puppets twice the same", withPuppets(freeCues(2), 1, 3, 3)},
		{"Puppets not ascending", withPuppets(freeCues(2), 0, 4, 3)},
		{"Puppets at last not ascending", withPuppets(freeCues(2), 1, 0, 2, 1)},
		{"Puppets at -1", withPuppets(freeCues(2), 1, -1)},
		{"Puppets at -1 and 0", withPuppets(freeCues(2), 0, -1, 0)},
		{"Puppets at 7", withPuppets(freeCues(2), 1, 7)},
		{"Puppets at 0 and 7", withPuppets(freeCues(2), 0, 0, 7)},
		{"Puppets from 0 to 7", withPuppets(freeCues(2), 0, sortedOrder(8)...)},
		{"many Puppets", withPuppets(freeCues(2), 1, sortedOrder(10000)...)},
		{"an invalid cue and a circle", withTicks(cues("1 0 -"), 2, 51)},
		{"a circle with Puppets at 7", withPuppets(cues("1 0"), 0, 7)},
	}
	for i := range 3 {
		for _, ticks := range []int{math.MinInt, -1, 0, 51, math.MaxInt} {
			name := impl.FormatInt(ticks) + " Ticks of cue " + impl.FormatInt(i)
			lists = append(lists, namedCues{name, withTicks(cues("1 2 -"), i, ticks)})
		}
		for _, n := range []int{math.MinInt, -1, 3, 12, math.MaxInt} {
			name := impl.FormatInt(n) + " in After of cue " + impl.FormatInt(i)
			lists = append(lists, namedCues{name, withAfter(freeCues(3), i, n)})
		}
		for _, n := range []int{math.MinInt, -1, 7, math.MaxInt} {
			name := impl.FormatInt(n) + " in Puppets of cue " + impl.FormatInt(i)
			lists = append(lists, namedCues{name, withPuppets(cues("1 2 -"), i, n)})
		}
	}
	return append(lists, circlesOf()...)
}

// waitRows tells for each two cues whether the first one waits for the second
// one: whichever cue is between two waits joins them. Numbers that are no cues
// are left out.
func waitRows(list []impl.Cue) [][]bool {
	rows := make([][]bool, len(list))
	for i, c := range list {
		rows[i] = make([]bool, len(list))
		for k := range list {
			rows[i][k] = slices.Contains(c.After, k)
		}
	}
	for between := range list {
		for i := range list {
			for k := range list {
				rows[i][k] = rows[i][k] || rows[i][between] && rows[between][k]
			}
		}
	}
	return rows
}

// selfWaiting has those that wait for themselves in rows of waits.
func selfWaiting(rows [][]bool) []int {
	var found []int
	for i, row := range rows {
		if row[i] {
			found = append(found, i)
		}
	}
	return found
}

// respects reports whether each cue of an order comes after all of its After.
func respects(list []impl.Cue, order []int) bool {
	for place, i := range order {
		for _, k := range list[i].After {
			if !slices.Contains(order[:place], k) {
				return false
			}
		}
	}
	return true
}

// respectful are those of some orders that a list allows.
func respectful(list []impl.Cue, orders [][]int) [][]int {
	var found [][]int
	for _, order := range orders {
		if respects(list, order) {
			found = append(found, order)
		}
	}
	return found
}

// forAllGraphs visits all lists of these many cues, with and without circles.
func forAllGraphs(count int, visit func(list []impl.Cue)) {
	for graph := range 1 << (count * count) {
		list := freeCues(count)
		for i := range list {
			for k := range list {
				if graph>>(i*count+k)&1 == 1 {
					list[i].After = append(list[i].After, k)
				}
			}
		}
		visit(list)
	}
}

func TestCueConstants(t *testing.T) {
	if impl.MaxCues != 12 {
		t.Errorf("MaxCues is %d, want 12", impl.MaxCues)
	}
}

func TestCuesOk(t *testing.T) {
	for _, c := range validCues() {
		if !impl.CuesOk(c.list) {
			t.Errorf("%s: CuesOk is false of %s", c.name, afterText(c.list))
		}
	}
	for _, c := range invalidCues() {
		if impl.CuesOk(c.list) {
			t.Errorf("%s: CuesOk is true", c.name)
		}
	}
}

func TestCuesOkCounts(t *testing.T) {
	for count := range 30 {
		want := count >= 1 && count <= 12
		for _, order := range [][]int{sortedOrder(count), reversedOrder(count)} {
			for _, list := range [][]impl.Cue{freeCues(count), cuesInChain(order), crowdedCues(order)} {
				if got := impl.CuesOk(list); got != want {
					t.Errorf("CuesOk is %v of %d cues", got, count)
				}
			}
		}
	}
}

func TestCuesOkTicks(t *testing.T) {
	for _, n := range append(numbersAround(0, 51), 25, 100) {
		for i := range 12 {
			list := withTicks(cuesInChain(sortedOrder(12)), i, n)
			if got := impl.CuesOk(list); got != (n >= 1 && n <= 50) {
				t.Errorf("CuesOk is %v with %d Ticks of cue %d", got, n, i)
			}
		}
	}
}

// isRising reports whether a list is sorted without numbers that are equal, and
// all of them are below a limit, but not below 0.
func isRising(list []int, below int) bool {
	for i, n := range list {
		if n < 0 || n >= below || slices.Contains(list[:i], n) {
			return false
		}
	}
	return slices.IsSorted(list)
}

func TestCuesOkPuppets(t *testing.T) {
	check := func(puppets []int) {
		t.Helper()
		for i := range 3 {
			list := withPuppets(cues("1 2 -"), i, puppets...)
			if got := impl.CuesOk(list); got != isRising(puppets, 7) {
				t.Errorf("CuesOk is %v with the Puppets %v of cue %d", got, puppets, i)
			}
		}
	}
	for count := range 4 {
		forAllLists(count, -2, 8, check)
	}
	for count := range 15 {
		check(sortedOrder(count))
		check(reversedOrder(count))
		check(append(sortedOrder(count), count-1))
	}
	for _, n := range numbersAround(0, 7) {
		check([]int{n})
		check([]int{3, n})
		check([]int{n, 3})
		check([]int{0, n, 6})
	}
	check([]int{})
	check([]int{math.MinInt, math.MaxInt})
	check([]int{math.MaxInt, math.MinInt})
}

func TestCuesOkAfter(t *testing.T) {
	check := func(i int, after []int) {
		t.Helper()
		list := withAfter(freeCues(4), i, after...)
		want := isRising(after, 4) && !slices.Contains(after, i)
		if got := impl.CuesOk(list); got != want {
			t.Errorf("CuesOk is %v with the After %v of cue %d", got, after, i)
		}
	}
	for i := range 4 {
		for count := range 5 {
			forAllLists(count, -1, 5, func(after []int) { check(i, after) })
		}
		for _, n := range numbersAround(0, 12) {
			check(i, []int{n})
			check(i, []int{1, n})
			check(i, []int{n, 1})
		}
		check(i, []int{})
		check(i, []int{math.MinInt, math.MaxInt})
		check(i, []int{0, math.MaxInt, math.MinInt})
	}
}

// TestCuesOfAllGraphs compares all functions, for up to four cues, with all
// orders and all waits.
func TestCuesOfAllGraphs(t *testing.T) {
	valid := []int{}
	for count := 1; count <= 4; count++ {
		orders := ordersOf(count)
		slices.SortFunc(orders, slices.Compare)
		valid = append(valid, 0)
		forAllGraphs(count, func(list []impl.Cue) {
			checkGraph(t, list, respectful(list, orders))
			if impl.CuesOk(list) {
				valid[count-1]++
			}
		})
	}
	// These are the numbers of directed graphs without circles.
	if !slices.Equal(valid, []int{1, 3, 25, 543}) {
		t.Errorf("there are %v valid lists", valid)
	}
}

// checkGraph checks all functions for a list by all of its orders. They are in
// lexicographic order, and there are none just if there is a circle.
func checkGraph(t *testing.T, list []impl.Cue, orders [][]int) {
	t.Helper()
	text, rows := afterText(list), waitRows(list)
	want := len(orders) > 0
	if got := impl.CuesOk(list); got != want {
		t.Errorf("%s: CuesOk is %v", text, got)
	}
	if got := impl.CircleIn(list); !slices.Equal(got, selfWaiting(rows)) || (len(got) == 0) != want {
		t.Errorf("%s: CircleIn is %v, want %v", text, got, selfWaiting(rows))
	}
	for i, row := range rows {
		for k, waits := range row {
			if got := impl.WaitsFor(list, i, k); got != (waits && want) {
				t.Errorf("%s: WaitsFor %d and %d is %v", text, i, k, got)
			}
		}
	}
	if !want {
		checkNoCues(t, text, list)
		return
	}
	if got := impl.CueOrder(list); !slices.Equal(got, orders[0]) {
		t.Errorf("%s: CueOrder is %v, want %v", text, got, orders[0])
	}
	if got := impl.CountOrders(list); got != len(orders) {
		t.Errorf("%s: CountOrders is %d, want %d", text, got, len(orders))
	}
	if got := impl.FreeCues(list); !slices.Equal(got, waitless(rows)) {
		t.Errorf("%s: FreeCues are %v, want %v", text, got, waitless(rows))
	}
}

// waitless has those that wait for nothing in rows of waits.
func waitless(rows [][]bool) []int {
	var found []int
	for i, row := range rows {
		if !slices.Contains(row, true) {
			found = append(found, i)
		}
	}
	return found
}

// checkNoCues checks the fixed results for a list that is not valid.
func checkNoCues(t *testing.T, name string, list []impl.Cue) {
	t.Helper()
	if got := impl.CueOrder(list); len(got) != 0 {
		t.Errorf("%s: CueOrder is %v, want none", name, got)
	}
	if got := impl.CountOrders(list); got != -1 {
		t.Errorf("%s: CountOrders is %d, want -1", name, got)
	}
	if got := impl.FreeCues(list); len(got) != 0 {
		t.Errorf("%s: FreeCues are %v, want none", name, got)
	}
}

func TestCuesThatAreNotValid(t *testing.T) {
	for _, c := range invalidCues() {
		checkNoCues(t, c.name, c.list)
		for i := -1; i <= 13; i++ {
			for k := -1; k <= 13; k++ {
				if impl.WaitsFor(c.list, i, k) {
					t.Errorf("%s: WaitsFor %d and %d is true", c.name, i, k)
				}
			}
		}
	}
}

// TestCuesOfSevenByAllOrders has longer lists than TestCuesOfAllGraphs.
func TestCuesOfSevenByAllOrders(t *testing.T) {
	next := fromChance(7)
	for count := 5; count <= 7; count++ {
		orders := ordersOf(count)
		slices.SortFunc(orders, slices.Compare)
		for i := range 30 {
			list := chanceCues(next, count, i%5+2)
			checkGraph(t, list, respectful(list, orders))
		}
	}
}

func TestWaitsFor(t *testing.T) {
	for _, c := range []struct {
		name string
		list []impl.Cue
		i    int
		k    int
		want bool
	}{
		{"one cue", cues("-"), 0, 0, false},
		{"at once", cues("- 0"), 1, 0, true},
		{"the other way", cues("- 0"), 0, 1, false},
		{"for a later number", cues("1 -"), 0, 1, true},
		{"for a later number, the other way", cues("1 -"), 1, 0, false},
		{"over another one", cues("- 0 1"), 2, 0, true},
		{"over a later one", cues("- 2 0"), 1, 0, true},
		{"over two later ones", cues("1 2 3 -"), 0, 3, true},
		{"at once and over another one", cues("- 0 0,1"), 2, 0, true},
		{"side by side", cues("- 0 0"), 2, 1, false},
		{"both are waited for", cues("- - 0,1"), 1, 0, false},
		{"in another chain", cues("- - 0 1"), 3, 0, false},
		{"the last number of After", cues("- - - 0,1,2"), 3, 2, true},
		{"i equal to k, which waits", cues("- 0 1"), 1, 1, false},
		{"i equal to k, in the middle of a rhombus", cues("1,2 3 3 -"), 2, 2, false},
		{"over ten others", cuesInChain(sortedOrder(12)), 11, 0, true},
		{"over ten others, the other way", cuesInChain(sortedOrder(12)), 0, 11, false},
		{"over ten others of later numbers", cuesInChain(reversedOrder(12)), 0, 11, true},
		{"for one of many", crowdedCues(reversedOrder(12)), 0, 5, true},
		{"thirteen cues", cuesInChain(sortedOrder(13)), 1, 0, false},
		{"a circle beside", cues("- 0 3 2"), 1, 0, false},
		{"in a circle", cues("1 0"), 0, 1, false},
		{"a cue that waits for itself", cues("0"), 0, 0, false},
		{"a cue of 51 Ticks beside", withTicks(cues("- 0 -"), 2, 51), 1, 0, false},
		{"a puppet 7 beside", withPuppets(cues("- 0 -"), 2, 7), 1, 0, false},
		{"an index beside that is no cue", cues("- 0 3"), 1, 0, false},
		{"for an index that is no cue", cues("- 0 3"), 2, 3, false},
		{"i at -1", cues("- 0 1"), -1, 0, false},
		{"k at -1", cues("- 0 1"), 2, -1, false},
		{"i at the last cue", cues("- 0 1"), 2, 1, true},
		{"k at the last cue", cues("1 2 -"), 0, 2, true},
		{"i at one more", cues("- 0 1"), 3, 0, false},
		{"k at one more", cues("- 0 1"), 2, 3, false},
		{"both at -1", cues("- 0 1"), -1, -1, false},
		{"both at one more", cues("- 0 1"), 3, 3, false},
	} {
		if got := impl.WaitsFor(c.list, c.i, c.k); got != c.want {
			t.Errorf("%s: WaitsFor %d and %d is %v", c.name, c.i, c.k, got)
		}
	}
}

// TestWaitsForByDefinition has all cues that there are, and many that there are
// not.
func TestWaitsForByDefinition(t *testing.T) {
	for _, c := range validCues() {
		rows := waitRows(c.list)
		for _, i := range numbersAround(0, 12) {
			for _, k := range numbersAround(0, 12) {
				want := i >= 0 && i < len(rows) && k >= 0 && k < len(rows) && rows[i][k]
				if got := impl.WaitsFor(c.list, i, k); got != want {
					t.Errorf("%s, %s: WaitsFor %d and %d is %v", c.name, afterText(c.list), i, k, got)
				}
			}
		}
	}
}

func TestCueOrder(t *testing.T) {
	for _, c := range []struct {
		list []impl.Cue
		want []int
	}{
		{cues("-"), []int{0}},
		{cues("- -"), []int{0, 1}},
		{cues("- 0"), []int{0, 1}},
		{cues("1 -"), []int{1, 0}},
		{cues("- - 0"), []int{0, 1, 2}},
		{cues("2 - -"), []int{1, 2, 0}},
		{cues("1 2 -"), []int{2, 1, 0}},
		{cues("2 0 -"), []int{2, 0, 1}},
		{cues("- 2 0"), []int{0, 2, 1}},
		{cues("1,2 3 3 -"), []int{3, 1, 2, 0}},
		{cues("3 3 3 -"), []int{3, 0, 1, 2}},
		{cues("- 3 0 -"), []int{0, 2, 3, 1}},
		// 0 is possible behind 4, and then comes before 2 and 3.
		{cues("4 - - - 1"), []int{1, 2, 3, 4, 0}},
		{cues("2 - 1 - -"), []int{1, 2, 0, 3, 4}},
		{cues("2 3 4 5 - -"), []int{4, 2, 0, 5, 3, 1}},
		{cues("11 - 0 - - - - - - - - 1"), []int{1, 3, 4, 5, 6, 7, 8, 9, 10, 11, 0, 2}},
		{freeCues(12), []int{0, 1, 2, 3, 4, 5, 6, 7, 8, 9, 10, 11}},
		{cuesInChain(reversedOrder(12)), []int{11, 10, 9, 8, 7, 6, 5, 4, 3, 2, 1, 0}},
		{cuesInChain([]int{3, 0, 5, 1, 4, 2}), []int{3, 0, 5, 1, 4, 2}},
		{crowdedCues([]int{3, 0, 5, 1, 4, 2}), []int{3, 0, 5, 1, 4, 2}},
		{freeCues(13), nil},
		{cues("1 0 -"), nil},
		{cues("- - 2"), nil},
		{nil, nil},
	} {
		if got := impl.CueOrder(c.list); !slices.Equal(got, c.want) {
			t.Errorf("%s: CueOrder is %v, want %v", afterText(c.list), got, c.want)
		}
	}
}

// TestCueOrderTakesTheLeast checks each place of an order: no lesser cue that
// comes later is possible there.
func TestCueOrderTakesTheLeast(t *testing.T) {
	for _, c := range validCues() {
		order := impl.CueOrder(c.list)
		for place, i := range order {
			for _, later := range order[place+1:] {
				if later < i && respects(c.list, append(slices.Clone(order[:place]), later)) {
					t.Errorf("%s, %s: CueOrder is %v, but %d is possible before %d", c.name, afterText(c.list), order, later, i)
				}
			}
		}
	}
}

// TestOrdersRespectAllWaiting checks promise 11, over others too, for lists of
// all counts.
func TestOrdersRespectAllWaiting(t *testing.T) {
	waits := 0
	for _, c := range validCues() {
		text, order := c.name+", "+afterText(c.list), impl.CueOrder(c.list)
		if !slices.Equal(slices.Sorted(slices.Values(order)), sortedOrder(len(c.list))) {
			t.Errorf("%s: CueOrder is %v", text, order)
		}
		if circle := impl.CircleIn(c.list); len(circle) != 0 {
			t.Errorf("%s: CircleIn is %v", text, circle)
		}
		for place, i := range order {
			for other, k := range order {
				if !impl.WaitsFor(c.list, i, k) {
					continue
				}
				waits++
				if i == k || other >= place || impl.WaitsFor(c.list, k, i) {
					t.Errorf("%s: %d waits for %d, but CueOrder is %v", text, i, k, order)
				}
			}
		}
	}
	if waits < 1000 {
		t.Errorf("there are only %d waits", waits)
	}
}

// TestNoCueWaitsForItself closes a circle: where a cue waits for another one,
// the other one may not wait for it.
func TestNoCueWaitsForItself(t *testing.T) {
	circles := 0
	for _, c := range validCues() {
		for i := range c.list {
			for k := range c.list {
				if i != k && !impl.WaitsFor(c.list, i, k) {
					continue
				}
				list := withAfter(c.list, k, withOne(c.list[k].After, i)...)
				circle := impl.CircleIn(list)
				if impl.CuesOk(list) || !slices.Contains(circle, i) || !slices.Contains(circle, k) {
					t.Errorf("%s: CuesOk is %v, CircleIn is %v", afterText(list), impl.CuesOk(list), circle)
				}
				checkNoCues(t, afterText(list), list)
				circles++
			}
		}
	}
	if circles < 1000 {
		t.Errorf("there are only %d circles", circles)
	}
}

// withOne is a sorted list with one more number.
func withOne(list []int, n int) []int {
	longer := append(slices.Clone(list), n)
	slices.Sort(longer)
	return longer
}

func TestCountOrders(t *testing.T) {
	for _, c := range []struct {
		name string
		list []impl.Cue
		want int
	}{
		{"no cues", nil, -1},
		{"one cue", cues("-"), 1},
		{"two cues", cues("- -"), 2},
		{"one waits", cues("1 -"), 1},
		{"three, one waits", cues("- - 0"), 3},
		{"one waits for two", cues("1,2 - -"), 2},
		{"two wait for one", cues("2 2 -"), 2},
		{"a rhombus", cues("- 0 0 1,2"), 2},
		{"two chains of two", cues("- 0 - 2"), 6},
		{"each of two waits for each of two", cues("2,3 2,3 - -"), 4},
		{"a zigzag of four", cues("- 0,2 - 2"), 5},
		{"a zigzag of five", cues("- 0,2 - 2,4 -"), 16},
		{"two chains of five", cues("- 0 1 2 3 - 5 6 7 8"), 252},
		{"two rows of five", cues("- 0 1 2 3 0 1,5 2,6 3,7 4,8"), 42},
		{"five chains of two", cues("1 - 3 - 5 - 7 - 9 -"), 113400},
		{"nine free cues", freeCues(9), 362880},
		{"ten free cues", freeCues(10), 3628800},
		{"ten cues in a chain", cuesInChain(reversedOrder(10)), 1},
		{"ten crowded cues", crowdedCues([]int{3, 9, 0, 5, 1, 8, 4, 2, 7, 6}), 1},
		{"the last one of ten waits for the first one", withAfter(freeCues(10), 9, 0), 1814400},
		{"the first one of ten waits for the last one", withAfter(freeCues(10), 0, 9), 1814400},
		{"eleven free cues", freeCues(11), -1},
		{"eleven cues in a chain", cuesInChain(sortedOrder(11)), -1},
		{"eleven crowded cues", crowdedCues(reversedOrder(11)), -1},
		{"twelve free cues", freeCues(12), -1},
		{"twelve cues in a chain", cuesInChain(sortedOrder(12)), -1},
		{"thirteen free cues", freeCues(13), -1},
		{"two in a circle", cues("1 0"), -1},
		{"one waits for itself", cues("- 1"), -1},
		{"ten cues in a circle", withAfter(cuesInChain(sortedOrder(10)), 0, 9), -1},
	} {
		if got := impl.CountOrders(c.list); got != c.want {
			t.Errorf("%s: CountOrders is %d, want %d", c.name, got, c.want)
		}
	}
}

// TestCountOrdersOfForests has cues that wait for at most one other one: their
// orders are those of free cues, divided by the number of those that each cue
// keeps waiting, with itself.
func TestCountOrdersOfForests(t *testing.T) {
	next := fromChance(13)
	for count := 1; count <= 10; count++ {
		for range 20 {
			list := freeCues(count)
			order := chanceOrder(next, count)
			for place := 1; place < count; place++ {
				if before := next(place + 1); before < place {
					list[order[place]].After = []int{order[before]}
				}
			}
			want := 1
			for i := range count {
				want *= i + 1
			}
			for k := range list {
				kept := 1
				for _, row := range waitRows(list) {
					if row[k] {
						kept++
					}
				}
				want /= kept
			}
			if got := impl.CountOrders(list); got != want {
				t.Errorf("%s: CountOrders is %d, want %d", afterText(list), got, want)
			}
		}
	}
}

// TestCountOrdersIsDivided has two cues that do not wait for each other: in each
// order, one of them comes first.
func TestCountOrdersIsDivided(t *testing.T) {
	pairs := 0
	for _, c := range validCues() {
		all := impl.CountOrders(c.list)
		if (all == -1) != (len(c.list) > 10) {
			t.Errorf("%s: CountOrders is %d", c.name, all)
		}
		for i := range c.list {
			for k := range i {
				if all == -1 || impl.WaitsFor(c.list, i, k) || impl.WaitsFor(c.list, k, i) {
					continue
				}
				first := impl.CountOrders(withAfter(c.list, k, withOne(c.list[k].After, i)...))
				second := impl.CountOrders(withAfter(c.list, i, withOne(c.list[i].After, k)...))
				if first < 1 || second < 1 || first+second != all {
					t.Errorf("%s: CountOrders is %d, with %d first it is %d, with %d first %d", afterText(c.list), all, i, first, k, second)
				}
				pairs++
			}
		}
	}
	if pairs < 1000 {
		t.Errorf("there are only %d pairs", pairs)
	}
}

func TestCircleIn(t *testing.T) {
	for _, c := range []struct {
		name string
		list []impl.Cue
		want []int
	}{
		{"no cues", nil, nil},
		{"no cues, an empty list", []impl.Cue{}, nil},
		{"one cue", cues("-"), nil},
		{"no circle", cues("1,2 3 3 -"), nil},
		{"at once", cues("0"), []int{0}},
		{"the last one at once", cues("- 0 2"), []int{2}},
		{"two of each other", cues("1 0"), []int{0, 1}},
		{"two of each other and a free one", cues("1 0 -"), []int{0, 1}},
		{"three", cues("1 2 0"), []int{0, 1, 2}},
		{"three of five", cues("- 3 - 4 1"), []int{1, 3, 4}},
		{"two circles apart from each other", cues("1 0 - 4 3"), []int{0, 1, 3, 4}},
		{"two circles apart from each other, mixed", cues("2 3 0 1"), []int{0, 1, 2, 3}},
		{"two that wait for themselves at once", cues("0 - 2"), []int{0, 2}},
		{"one waits for a circle", cues("1 0 1"), []int{0, 1}},
		{"one waits for a circle of later numbers", cues("1 2 1"), []int{1, 2}},
		{"one waits for one that waits for itself", cues("1 1"), []int{1}},
		{"three wait for a circle over each other", cues("1 2 3 4 3"), []int{3, 4}},
		{"a circle waits for one", cues("- 0,2 1"), []int{1, 2}},
		{"one between two circles", cues("1 0 1 2,4 3"), []int{0, 1, 3, 4}},
		{"a circle waits for a circle", cues("1 0,2 3 2"), []int{0, 1, 2, 3}},
		{"two circles through the same cue", cues("1,2 0 0"), []int{0, 1, 2}},
		{"a short cut in a circle", cues("1,2 2 0"), []int{0, 1, 2}},
		{"indices that are no cues", cues("-1 3 4"), nil},
		{"an index that is no cue beside a circle", cues("-1,1 0,2 3"), []int{0, 1}},
		{"an index that is no cue in a circle", cues("1,3 0 -"), []int{0, 1}},
		{"the number of cues", cues("2 2"), nil},
		{"one more, behind a circle", cues("1 0 1,4"), []int{0, 1}},
		{"12 of twelve cues", withAfter(freeCues(12), 0, 12), nil},
		{"not ascending", cues("2,1 0 -"), []int{0, 1}},
		{"twice the same", cues("1,1 0,0"), []int{0, 1}},
		{"itself twice", cues("- 1,1"), []int{1}},
		{"itself behind others that are no cues", cues("- 9,-4,1"), []int{1}},
		{"the least int and the greatest int", withAfter(cues("1 0"), 0, math.MinInt, 1, math.MaxInt), []int{0, 1}},
		{"twelve cues in a circle", withAfter(cuesInChain(sortedOrder(12)), 0, 11), sortedOrder(12)},
		{"twelve cues, the last two", withAfter(cuesInChain(sortedOrder(12)), 10, 11), []int{10, 11}},
		{"thirteen cues in a circle", withAfter(cuesInChain(sortedOrder(13)), 0, 12), nil},
		{"thirteen cues, one waits for itself", withAfter(freeCues(13), 0, 0), nil},
		{"many cues, two of each other", append(cues("1 0"), freeCues(10000)...), nil},
		{"many equal numbers", withAfter(cues("1 -"), 1, make([]int, 10000)...), []int{0, 1}},
		{"many numbers that are no cues", withAfter(cues("1 -"), 1, counted(10000, 2, 1)...), nil},
		{"no Ticks", []impl.Cue{{After: []int{1}}, {After: []int{0}}, {}}, []int{0, 1}},
		{"too many Ticks and no such puppets", withPuppets(withTicks(cues("1 0"), 0, 51), 1, 8, 7, -1), []int{0, 1}},
	} {
		if got := impl.CircleIn(c.list); !slices.Equal(got, c.want) {
			t.Errorf("%s: CircleIn is %v, want %v", c.name, got, c.want)
		}
	}
}

// TestCircleInByDefinition has After of all kinds: in any order, also twice the
// same, and also no cues.
func TestCircleInByDefinition(t *testing.T) {
	next := fromChance(17)
	some := 0
	for count := 1; count <= 15; count++ {
		for i := range 200 {
			list := freeCues(count)
			for range next(count + i%10 + 1) {
				waiting := next(count)
				list[waiting].After = append(list[waiting].After, next(count+6)-3)
			}
			want := selfWaiting(waitRows(list))
			if count > 12 {
				want = nil
			}
			if len(want) > 0 && len(want) < count {
				some++
			}
			if got := impl.CircleIn(list); !slices.Equal(got, want) {
				t.Errorf("%s: CircleIn is %v, want %v", afterText(list), got, want)
			}
		}
	}
	if some < 200 {
		t.Errorf("only %d lists have a circle and other cues", some)
	}
}

func TestFreeCues(t *testing.T) {
	for _, c := range []struct {
		name string
		list []impl.Cue
		want []int
	}{
		{"one cue", cues("-"), []int{0}},
		{"two cues", cues("- -"), []int{0, 1}},
		{"one waits", cues("- 0"), []int{0}},
		{"one waits for a later number", cues("1 -"), []int{1}},
		{"three cues", cues("- - 0"), []int{0, 1}},
		{"the first and the last one of four", cues("- 0 3 -"), []int{0, 3}},
		{"the middle one", cues("1 - 1"), []int{1}},
		{"an empty After", withAfter(freeCues(2), 1, []int{}...), []int{0, 1}},
		{"twelve free cues", freeCues(12), sortedOrder(12)},
		{"twelve cues in a chain", cuesInChain(reversedOrder(12)), []int{11}},
		{"thirteen free cues", freeCues(13), nil},
		{"no cues", nil, nil},
		{"a circle beside", cues("- 2 1"), nil},
		{"a cue of no Ticks", withTicks(freeCues(2), 1, 0), nil},
	} {
		if got := impl.FreeCues(c.list); !slices.Equal(got, c.want) {
			t.Errorf("%s: FreeCues are %v, want %v", c.name, got, c.want)
		}
	}
	for _, c := range validCues() {
		if got, want := impl.FreeCues(c.list), waitless(waitRows(c.list)); !slices.Equal(got, want) || len(got) == 0 {
			t.Errorf("%s: FreeCues are %v, want %v", c.name, got, want)
		}
	}
}

// TestTicksAndPuppetsDoNotMatter changes them within their ranges.
func TestTicksAndPuppetsDoNotMatter(t *testing.T) {
	for _, c := range validCues() {
		list := copyOfCues(c.list)
		for i := range list {
			list[i].Ticks, list[i].Puppets = 50-i, counted((i+3)%5, i%3, 1)
		}
		if got, want := impl.CueOrder(list), impl.CueOrder(c.list); !slices.Equal(got, want) {
			t.Errorf("%s: CueOrder is %v, want %v", c.name, got, want)
		}
		if got, want := impl.CountOrders(list), impl.CountOrders(c.list); got != want {
			t.Errorf("%s: CountOrders is %d, want %d", c.name, got, want)
		}
		if got, want := impl.FreeCues(list), impl.FreeCues(c.list); !slices.Equal(got, want) {
			t.Errorf("%s: FreeCues are %v, want %v", c.name, got, want)
		}
	}
}

// roomyCues are the cues with spare capacity behind them and behind each of
// their lists, and all of it.
func roomyCues(list []impl.Cue) ([]impl.Cue, []impl.Cue) {
	all := append(copyOfCues(list), impl.Cue{Ticks: 70, After: []int{71}}, impl.Cue{Ticks: 72, Puppets: []int{73}})
	for i := range list {
		all[i].After, _ = roomyList(list[i].After)
		all[i].Puppets, _ = roomyList(list[i].Puppets)
	}
	return all[:len(list)], all
}

func equalCues(a []impl.Cue, b []impl.Cue) bool {
	return slices.EqualFunc(a, b, func(c impl.Cue, d impl.Cue) bool {
		return c.Ticks == d.Ticks && slices.Equal(c.After, d.After) && slices.Equal(c.Puppets, d.Puppets)
	})
}

// wholeCues are the cues with all that is behind the end of their lists.
func wholeCues(list []impl.Cue) []impl.Cue {
	whole := slices.Clone(list)
	for i, c := range list {
		whole[i].After, whole[i].Puppets = c.After[:cap(c.After)], c.Puppets[:cap(c.Puppets)]
	}
	return whole
}

// watchedCues has roomy cues, and a check that tells who has changed them or
// what is behind them.
func watchedCues(t *testing.T, list []impl.Cue) ([]impl.Cue, func(by string)) {
	watched, all := roomyCues(list)
	want := copyOfCues(wholeCues(all))
	return watched, func(by string) {
		t.Helper()
		if got := wholeCues(all); !equalCues(got, want) {
			t.Fatalf("%s changes %v to %v", by, want, got)
		}
	}
}

// someCues are valid and invalid lists.
func someCues() []namedCues {
	return append(validCues(), invalidCues()...)
}

func TestCueArgumentsAreLeftUnchanged(t *testing.T) {
	for _, c := range someCues() {
		list, check := watchedCues(t, c.list)
		impl.CuesOk(list)
		check("CuesOk")
		for i := -1; i <= 12; i += 3 {
			impl.WaitsFor(list, i, 0)
			impl.WaitsFor(list, 0, i)
		}
		check("WaitsFor")
		impl.CueOrder(list)
		check("CueOrder")
		impl.CountOrders(list)
		check("CountOrders")
		impl.CircleIn(list)
		check("CircleIn")
		impl.FreeCues(list)
		check("FreeCues")
	}
}

// TestCueListsAreNewMemory changes one of two results of the same call, also
// behind its end.
func TestCueListsAreNewMemory(t *testing.T) {
	for _, c := range someCues() {
		list, check := watchedCues(t, c.list)
		for _, use := range []func(list []impl.Cue) []int{impl.CueOrder, impl.CircleIn, impl.FreeCues} {
			want := slices.Clone(use(c.list))
			got := use(list)
			overwritePoses([][]int{use(list)})
			check(c.name + ": a change of a result")
			if !slices.Equal(got, want) || !slices.Equal(use(list), want) {
				t.Errorf("%s: a change of one result changes another one to %v, want %v", c.name, got, want)
			}
		}
	}
}

// TestCueListsAreKeptApart changes the argument behind the calls.
func TestCueListsAreKeptApart(t *testing.T) {
	for _, c := range someCues() {
		list, _ := roomyCues(c.list)
		order, circle, free := impl.CueOrder(list), impl.CircleIn(list), impl.FreeCues(list)
		for _, changed := range wholeCues(list) {
			overwritePoses([][]int{changed.After, changed.Puppets})
		}
		clear(list)
		if want := impl.CueOrder(c.list); !slices.Equal(order, want) {
			t.Errorf("%s: behind a change, CueOrder is %v, want %v", c.name, order, want)
		}
		if want := impl.CircleIn(c.list); !slices.Equal(circle, want) {
			t.Errorf("%s: behind a change, CircleIn is %v, want %v", c.name, circle, want)
		}
		if want := impl.FreeCues(c.list); !slices.Equal(free, want) {
			t.Errorf("%s: behind a change, FreeCues are %v, want %v", c.name, free, want)
		}
	}
}

// TestCueResultsAreRepeated calls each function again and again, as the result
// of a call depends only on its arguments.
func TestCueResultsAreRepeated(t *testing.T) {
	for _, c := range someCues() {
		order, count, circle := impl.CueOrder(c.list), impl.CountOrders(c.list), impl.CircleIn(c.list)
		for range 5 {
			if got := impl.CueOrder(c.list); !slices.Equal(got, order) {
				t.Errorf("%s: CueOrder is %v and then %v", c.name, order, got)
			}
			if got := impl.CountOrders(c.list); got != count {
				t.Errorf("%s: CountOrders is %d and then %d", c.name, count, got)
			}
			if got := impl.CircleIn(c.list); !slices.Equal(got, circle) {
				t.Errorf("%s: CircleIn is %v and then %v", c.name, circle, got)
			}
		}
	}
}
