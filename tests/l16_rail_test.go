package tests

import (
	"math"
	"slices"
	"strings"
	"testing"

	"loop.example/g03306/impl"
)

// stays reads one stay from each field: the puppet, and behind a colon From and
// To with a comma between them.
func stays(text string) []impl.Stay {
	var list []impl.Stay
	for _, field := range strings.Fields(text) {
		puppet, ticks, _ := strings.Cut(field, ":")
		ends := numbersIn(ticks)
		list = append(list, impl.Stay{Puppet: numbersIn(puppet)[0], From: ends[0], To: ends[1]})
	}
	return list
}

// equalStays are as many stays of the puppets in turn, all from one tick to
// another one.
func equalStays(count int, from int, to int) []impl.Stay {
	list := make([]impl.Stay, count)
	for i := range list {
		list[i] = impl.Stay{Puppet: i % 7, From: from, To: to}
	}
	return list
}

// staysInTurn are as many stays of the same length, of which each begins some
// ticks behind the one before.
func staysInTurn(count int, by int, length int) []impl.Stay {
	list := make([]impl.Stay, count)
	for i := range list {
		list[i] = impl.Stay{Puppet: i % 7, From: i * by, To: i*by + length}
	}
	return list
}

// nestedStays are as many stays of which each lies in the one before.
func nestedStays(count int) []impl.Stay {
	list := make([]impl.Stay, count)
	for i := range list {
		list[i] = impl.Stay{Puppet: i % 7, From: i, To: 1000 - i}
	}
	return list
}

// withStay has another stay at one place.
func withStay(list []impl.Stay, i int, s impl.Stay) []impl.Stay {
	changed := slices.Clone(list)
	changed[i] = s
	return changed
}

// backwards has the same stays from the last one to the first one.
func backwards(list []impl.Stay) []impl.Stay {
	turned := slices.Clone(list)
	slices.Reverse(turned)
	return turned
}

// shuffledStays has the same stays in an order of all kinds.
func shuffledStays(next func(below int) int, list []impl.Stay) []impl.Stay {
	var shuffled []impl.Stay
	for _, i := range chanceOrder(next, len(list)) {
		shuffled = append(shuffled, list[i])
	}
	return shuffled
}

// chanceStays begin before one tick, and are no longer than some ticks.
func chanceStays(next func(below int) int, count int, begin int, longest int) []impl.Stay {
	list := make([]impl.Stay, count)
	for i := range list {
		from := next(begin)
		list[i] = impl.Stay{Puppet: next(7), From: from, To: min(from+1+next(longest), 1000)}
	}
	return list
}

// validStays are lists of all counts, with few and with many stays at once.
func validStays() [][]impl.Stay {
	lists := [][]impl.Stay{
		nil,
		{},
		stays("0:0,1"),
		stays("6:999,1000"),
		stays("3:0,1000"),
		// Touching, with one tick in common, apart, equal, and one in the other.
		stays("1:0,5 2:5,8"),
		stays("1:0,5 2:4,8"),
		stays("1:0,5 2:6,8"),
		stays("1:2,5 2:2,5"),
		stays("1:0,9 2:3,5"),
		stays("1:0,9 2:0,5 3:4,9"),
		// The same puppet.
		stays("1:0,5 1:3,8"),
		stays("1:0,5 1:5,8"),
		stays("1:0,5 1:7,8"),
		stays("1:0,5 1:0,5 1:0,5"),
		stays("1:0,5 2:3,8 1:5,6"),
		// Later stays before earlier ones.
		stays("0:8,9 1:6,9 2:4,9 3:2,9 4:0,9"),
		stays("0:5,6 1:3,8 2:0,5"),
		stays("0:999,1000 1:0,1"),
		// A rail is free again below one that is not.
		stays("0:0,2 1:0,9 2:2,4 3:3,5 4:4,9"),
		stays("0:0,9 1:0,2 2:0,2 3:0,9 4:2,9 5:2,9 6:3,9"),
		equalStays(20, 0, 1),
		equalStays(20, 999, 1000),
		equalStays(20, 0, 1000),
		nestedStays(20),
		backwards(nestedStays(20)),
		staysInTurn(20, 50, 50),
		staysInTurn(20, 50, 51)[:19],
		staysInTurn(20, 50, 49),
		staysInTurn(20, 1, 1),
		staysInTurn(20, 1, 7),
		backwards(staysInTurn(20, 1, 7)),
	}
	next := fromChance(16)
	for count := range 21 {
		for _, begin := range []int{3, 12, 40, 1000} {
			lists = append(lists, chanceStays(next, count, begin, 10))
		}
		lists = append(lists, chanceStays(next, count, 1000, 1000))
	}
	return lists
}

type namedStays struct {
	name string
	list []impl.Stay
}

// invalidStays have too many stays, or one at least that is not valid.
func invalidStays() []namedStays {
	lists := []namedStays{
		{"twenty-one stays", staysInTurn(21, 40, 40)},
		{"twenty-one equal stays", equalStays(21, 0, 1)},
		{"twenty-one stays of one puppet", slices.Repeat(stays("0:0,1"), 21)},
		{"twenty-two stays", staysInTurn(22, 1, 2)},
		{"twenty-one zero stays", make([]impl.Stay, 21)},
		{"many stays", equalStays(10000, 2, 7)},
		{"many zero stays", make([]impl.Stay, 10000)},
		{"only zero stays", make([]impl.Stay, 3)},
	}
	wrong := []namedStays{
		{"Puppet -1", stays("-1:0,5")},
		{"Puppet 7", stays("7:0,5")},
		{"Puppet 8", stays("8:0,5")},
		{"From -1", stays("0:-1,5")},
		{"From -1 and To 0", stays("0:-1,0")},
		{"From -2 and To -1", stays("0:-2,-1")},
		{"From and To 0", stays("0:0,0")},
		{"From equal to To", stays("0:5,5")},
		{"From behind To", stays("0:6,5")},
		{"From far behind To", stays("0:999,1")},
		{"From and To 1000", stays("0:1000,1000")},
		{"From 1000 and To 1001", stays("0:1000,1001")},
		{"To 1001", stays("0:0,1001")},
		{"To 1001, of one tick before it", stays("6:999,1001")},
		{"To -1", stays("0:0,-1")},
		{"the zero stay", make([]impl.Stay, 1)},
		{"the least Puppet", []impl.Stay{{Puppet: math.MinInt, From: 0, To: 5}}},
		{"the greatest Puppet", []impl.Stay{{Puppet: math.MaxInt, From: 0, To: 5}}},
		{"the least From", []impl.Stay{{From: math.MinInt, To: 5}}},
		{"the greatest From", []impl.Stay{{From: math.MaxInt, To: 5}}},
		{"the least To", []impl.Stay{{From: 0, To: math.MinInt}}},
		{"a later From and the least To", []impl.Stay{{From: 7, To: math.MinInt}}},
		{"the greatest To", []impl.Stay{{From: 0, To: math.MaxInt}}},
		{"all ints", []impl.Stay{{From: math.MinInt, To: math.MaxInt}}},
		{"all ints, backwards", []impl.Stay{{From: math.MaxInt, To: math.MinInt}}},
		{"the least From and To", []impl.Stay{{From: math.MinInt, To: math.MinInt}}},
		{"the greatest From and To", []impl.Stay{{From: math.MaxInt, To: math.MaxInt}}},
	}
	few := stays("1:0,5 2:3,8 1:5,6")
	for _, w := range wrong {
		lists = append(lists, namedStays{w.name + ", alone", w.list})
		lists = append(lists, namedStays{w.name + ", at first", slices.Concat(w.list, few)})
		lists = append(lists, namedStays{w.name + ", in the middle", slices.Insert(slices.Clone(few), 1, w.list...)})
		lists = append(lists, namedStays{w.name + ", at last", slices.Concat(few, w.list)})
		lists = append(lists, namedStays{w.name + ", as the twentieth", slices.Concat(staysInTurn(19, 5, 9), w.list)})
		lists = append(lists, namedStays{w.name + ", as the twenty-first", slices.Concat(staysInTurn(20, 5, 9), w.list)})
	}
	return lists
}

// ticksOf are the ticks of a stay, one by one.
func ticksOf(s impl.Stay) []int {
	return counted(s.To-s.From, s.From, 1)
}

// meet looks for a tick of one stay among those of the other one.
func meet(s impl.Stay, other impl.Stay) bool {
	for _, tick := range ticksOf(s) {
		if slices.Contains(ticksOf(other), tick) {
			return true
		}
	}
	return false
}

// meetings has, for each two stays, whether they have a tick in common.
func meetings(list []impl.Stay) [][]bool {
	rows := make([][]bool, len(list))
	for i, s := range list {
		for _, other := range list {
			rows[i] = append(rows[i], s.From < other.To && other.From < s.To)
		}
	}
	return rows
}

// crowdAt has, for each tick, the number of stays.
func crowdAt(list []impl.Stay) [1000]int {
	var crowd [1000]int
	for _, s := range list {
		for _, tick := range ticksOf(s) {
			crowd[tick]++
		}
	}
	return crowd
}

// railsByDefinition finds the rail of each stay from those before it, wherever
// they are in the list.
func railsByDefinition(list []impl.Stay) []int {
	rows := meetings(list)
	before := func(i int, k int) bool {
		return list[i].From < list[k].From || list[i].From == list[k].From && i < k
	}
	rails := slices.Repeat([]int{-1}, len(list))
	var railOf func(i int) int
	railOf = func(i int) int {
		if rails[i] != -1 {
			return rails[i]
		}
		used := make([]bool, len(list)+1)
		for k := range list {
			if before(k, i) && rows[k][i] {
				used[railOf(k)] = true
			}
		}
		rails[i] = slices.Index(used, false)
		return rails[i]
	}
	for i := range list {
		railOf(i)
	}
	return rails
}

// railsFit reports whether stays with a tick in common have different rails.
func railsFit(rows [][]bool, rails []int) bool {
	for i := range rows {
		for k := range i {
			if rows[i][k] && rails[i] == rails[k] {
				return false
			}
		}
	}
	return true
}

// fewestRails tries all choices of rails, with more and more of them.
func fewestRails(list []impl.Stay) int {
	rows := meetings(list)
	for count := range len(list) + 1 {
		if len(list) > 0 && count == 0 {
			continue
		}
		fits := false
		forAllLists(len(list), 0, count-1, func(rails []int) {
			fits = fits || railsFit(rows, rails)
		})
		if fits {
			return count
		}
	}
	panic("a rail for each stay is enough")
}

// checkStays compares the results of all functions for a valid list with those
// that are found tick by tick and stay by stay.
func checkStays(t *testing.T, list []impl.Stay) {
	t.Helper()
	if !impl.StaysOk(list) {
		t.Fatalf("StaysOk of %v is false", list)
	}
	crowd := crowdAt(list)
	most := impl.MostAtOnce(list)
	if want := slices.Max(crowd[:]); most != want {
		t.Errorf("MostAtOnce of %v is %d, want %d", list, most, want)
	}
	rails := impl.RailsFor(list)
	if want := railsByDefinition(list); !slices.Equal(rails, want) {
		t.Errorf("RailsFor %v are %v, want %v", list, rails, want)
	}
	if len(rails) != len(list) || !railsFit(meetings(list), rails) {
		t.Errorf("RailsFor %v are %v: stays at once are on the same rail", list, rails)
	}
	if got := impl.CountRails(rails); got != most {
		t.Errorf("RailsFor %v are %d rails, but MostAtOnce is %d", list, got, most)
	}
	for puppet := -1; puppet <= 7; puppet++ {
		busy := map[int]bool{}
		for _, s := range list {
			for _, tick := range ticksOf(s) {
				busy[tick] = busy[tick] || s.Puppet == puppet
			}
		}
		want := 0
		for _, has := range busy {
			if has {
				want++
			}
		}
		if got := impl.BusyTicks(list, puppet); got != want {
			t.Errorf("BusyTicks of the puppet %d in %v are %d, want %d", puppet, list, got, want)
		}
	}
	want := slices.Index(crowd[:], 0)
	if want == -1 {
		want = 1000
	}
	if got := impl.QuietTick(list); got != want {
		t.Errorf("QuietTick of %v is %d, want %d", list, got, want)
	}
}

// checkNoStays checks the fixed results of all functions for an invalid list.
func checkNoStays(t *testing.T, name string, list []impl.Stay) {
	t.Helper()
	if impl.StaysOk(list) {
		t.Errorf("%s: StaysOk is true", name)
	}
	if got := impl.MostAtOnce(list); got != -1 {
		t.Errorf("%s: MostAtOnce is %d, want -1", name, got)
	}
	if got := impl.RailsFor(list); len(got) != 0 {
		t.Errorf("%s: RailsFor are %v", name, got)
	}
	for _, puppet := range []int{math.MinInt, -1, 0, 1, 6, 7, math.MaxInt} {
		if got := impl.BusyTicks(list, puppet); got != -1 {
			t.Errorf("%s: BusyTicks of the puppet %d are %d, want -1", name, puppet, got)
		}
	}
	if got := impl.QuietTick(list); got != -1 {
		t.Errorf("%s: QuietTick is %d, want -1", name, got)
	}
}

func TestStaysOk(t *testing.T) {
	for _, c := range []struct {
		name string
		list []impl.Stay
		want bool
	}{
		{"no stays", nil, true},
		{"no stays, an empty list", []impl.Stay{}, true},
		{"one stay", stays("1:2,5"), true},
		{"one tick at 0", stays("0:0,1"), true},
		{"one tick at 999", stays("6:999,1000"), true},
		{"all ticks", stays("3:0,1000"), true},
		{"From 0", stays("3:0,7"), true},
		{"From -1", stays("3:-1,7"), false},
		{"From one less than To", stays("3:6,7"), true},
		{"From equal to To", stays("3:7,7"), false},
		{"From one more than To", stays("3:8,7"), false},
		{"To 1000", stays("3:7,1000"), true},
		{"To 1001", stays("3:7,1001"), false},
		{"Puppet 0", stays("0:3,7"), true},
		{"the last puppet", stays("6:3,7"), true},
		{"Puppet -1", stays("-1:3,7"), false},
		{"one puppet too many", stays("7:3,7"), false},
		{"touching", stays("1:0,5 2:5,8"), true},
		{"overlapping", stays("1:0,5 2:3,8 1:5,6"), true},
		{"the same puppet twice at once", stays("1:0,5 1:3,8"), true},
		{"equal stays", stays("1:0,5 1:0,5"), true},
		{"not in order", stays("1:7,9 1:0,5"), true},
		{"the first one is wrong", stays("1:5,5 2:3,8"), false},
		{"the last one is wrong", stays("1:0,5 2:8,3"), false},
		{"nineteen stays", staysInTurn(19, 3, 5), true},
		{"twenty stays", staysInTurn(20, 3, 5), true},
		{"twenty-one stays", staysInTurn(21, 3, 5), false},
	} {
		if got := impl.StaysOk(c.list); got != c.want {
			t.Errorf("%s: StaysOk of %v is %v", c.name, c.list, got)
		}
	}
	for _, list := range validStays() {
		if !impl.StaysOk(list) {
			t.Errorf("StaysOk of %v is false", list)
		}
	}
	for _, c := range invalidStays() {
		if impl.StaysOk(c.list) {
			t.Errorf("%s: StaysOk is true", c.name)
		}
	}
}

func TestStaysOkLimits(t *testing.T) {
	for count := range 60 {
		for _, list := range [][]impl.Stay{equalStays(count, 0, 1000), staysInTurn(count, 3, 2), nestedStays(count)} {
			if got := impl.StaysOk(list); got != (count <= 20) {
				t.Errorf("StaysOk of %d stays is %v", count, got)
			}
		}
	}
	for _, count := range []int{1, 2, 20} {
		list := staysInTurn(count, 40, 50)
		for i := range list {
			for _, puppet := range numbersAround(0, 6) {
				s := list[i]
				s.Puppet = puppet
				if got := impl.StaysOk(withStay(list, i, s)); got != (puppet >= 0 && puppet <= 6) {
					t.Errorf("StaysOk with the puppet %d in stay %d of %d is %v", puppet, i, count, got)
				}
			}
		}
	}
}

// TestStaysOkTicks tries all From and To near their limits in each stay.
func TestStaysOkTicks(t *testing.T) {
	numbers := slices.Concat(numbersAround(0, 5), counted(11, 495, 1), counted(11, 995, 1), []int{math.MinInt + 2, -1001, -1000})
	for _, count := range []int{1, 2, 20} {
		list := staysInTurn(count, 40, 50)
		for i := range list {
			for _, from := range numbers {
				for _, to := range numbers {
					changed := withStay(list, i, impl.Stay{Puppet: 3, From: from, To: to})
					want := from >= 0 && from < to && to <= 1000
					if got := impl.StaysOk(changed); got != want {
						t.Fatalf("StaysOk with stay %d of %d from %d to %d is %v", i, count, from, to, got)
					}
					if !want && count < 20 {
						checkNoStays(t, "a stay from "+impl.FormatInt(from)+" to "+impl.FormatInt(to), changed)
					}
				}
			}
		}
	}
}

func TestStaysThatAreNotValid(t *testing.T) {
	for _, c := range invalidStays() {
		checkNoStays(t, c.name, c.list)
	}
}

func TestMostAtOnce(t *testing.T) {
	for _, c := range []struct {
		name string
		list []impl.Stay
		want int
	}{
		{"no stays", nil, 0},
		{"one stay", stays("1:2,5"), 1},
		{"one stay of one tick", stays("1:2,3"), 1},
		{"all ticks", stays("1:0,1000"), 1},
		{"touching", stays("1:0,5 2:5,8"), 1},
		{"touching, the later one first", stays("2:5,8 1:0,5"), 1},
		{"touching on both sides", stays("1:0,5 2:5,8 3:8,9"), 1},
		{"stays of one tick that touch", stays("1:3,4 2:4,5 3:5,6"), 1},
		{"apart", stays("1:0,5 2:6,8"), 1},
		{"one tick in common", stays("1:0,5 2:4,8"), 2},
		{"one tick in common, the later one first", stays("2:4,8 1:0,5"), 2},
		{"one tick of one tick", stays("1:0,5 2:4,5"), 2},
		{"the first tick alone", stays("1:0,5 2:0,1"), 2},
		{"overlapping", stays("1:0,5 2:3,8"), 2},
		{"equal", stays("1:2,5 2:2,5"), 2},
		{"three equal ones of one tick", stays("1:2,3 2:2,3 3:2,3"), 3},
		{"one in the other", stays("1:0,9 2:3,5"), 2},
		{"one in the other, and both in one", stays("1:0,9 2:3,5 3:1,7"), 3},
		{"two apart in one", stays("1:0,9 2:2,4 3:5,7"), 2},
		{"two that touch in one", stays("1:0,9 2:2,4 3:4,7"), 2},
		{"two that touch, with one over both", stays("1:0,5 2:5,8 3:4,6"), 2},
		{"each two, but not all three", stays("1:0,5 2:4,9 3:8,10"), 2},
		{"all three at one tick", stays("1:0,5 2:4,9 3:2,6"), 3},
		{"one puppet overlapping", stays("1:0,5 1:3,8"), 2},
		{"one puppet touching", stays("1:0,5 1:5,8"), 1},
		{"one puppet, equal", stays("1:0,5 1:0,5 1:0,5"), 3},
		{"the most first", stays("1:0,3 2:1,3 3:2,3 4:5,8 5:6,9"), 3},
		{"the most later", stays("4:0,3 5:1,5 1:5,9 2:6,9 3:7,9"), 3},
		{"the stays of the stage", stays("1:0,5 2:3,8 1:5,6"), 2},
		{"twenty at once", equalStays(20, 7, 8), 20},
		{"twenty in each other", nestedStays(20), 20},
		{"twenty that touch", staysInTurn(20, 50, 50), 1},
		{"twenty with one tick in common each", staysInTurn(20, 49, 50), 2},
		{"twenty, four at once", staysInTurn(20, 5, 20), 4},
		{"twenty, five at once", staysInTurn(20, 5, 21), 5},
	} {
		if got := impl.MostAtOnce(c.list); got != c.want {
			t.Errorf("%s: MostAtOnce of %v is %d, want %d", c.name, c.list, got, c.want)
		}
	}
}

// TestMostAtOnceByDefinition tries all groups of stays.
func TestMostAtOnceByDefinition(t *testing.T) {
	next := fromChance(61)
	for range 400 {
		list := chanceStays(next, next(9), 12, 8)
		want := 0
		for _, group := range subsetsOf(sortedOrder(len(list))...) {
			from, to := 0, 1000
			for _, i := range group {
				from, to = max(from, list[i].From), min(to, list[i].To)
			}
			if from < to {
				want = max(want, len(group))
			}
		}
		if got := impl.MostAtOnce(list); got != want {
			t.Errorf("MostAtOnce of %v is %d, want %d", list, got, want)
		}
	}
}

func TestRailsFor(t *testing.T) {
	for _, c := range []struct {
		name string
		list []impl.Stay
		want []int
	}{
		{"no stays", nil, nil},
		{"one stay", stays("1:2,5"), []int{0}},
		{"all ticks", stays("1:0,1000"), []int{0}},
		{"touching", stays("1:0,5 2:5,8"), []int{0, 0}},
		{"touching, the later one first", stays("1:5,8 2:0,5"), []int{0, 0}},
		{"stays of one tick that touch", stays("1:3,4 2:4,5 3:5,6"), []int{0, 0, 0}},
		{"one tick in common", stays("1:0,5 2:4,8"), []int{0, 1}},
		{"one tick in common, the later one first", stays("1:4,8 2:0,5"), []int{1, 0}},
		{"equal stays by index", stays("1:2,5 2:2,5 0:2,5"), []int{0, 1, 2}},
		{"the same From by index", stays("1:2,9 2:2,3 0:2,6"), []int{0, 1, 2}},
		{"the same From by index, not by To", stays("1:2,3 2:2,9 0:2,6 3:4,5"), []int{0, 1, 2, 0}},
		{"one in the other", stays("1:0,9 2:3,5"), []int{0, 1}},
		{"one in the other, the inner one first", stays("1:3,5 2:0,9"), []int{1, 0}},
		{"the later ones first", stays("0:8,9 1:6,9 2:4,9 3:2,9 4:0,9"), []int{4, 3, 2, 1, 0}},
		{"the stays of the stage", stays("1:0,5 2:3,8 1:5,6"), []int{0, 1, 0}},
		{"the same stays in another order", stays("1:5,6 2:3,8 1:0,5"), []int{0, 1, 0}},
		{"free again, given anew", stays("0:0,2 1:1,5 2:2,4 3:4,6"), []int{0, 1, 0, 0}},
		{"free again, but not the first one", stays("0:0,9 1:1,3 2:2,5 3:3,9"), []int{0, 1, 2, 1}},
		{"two free again, the least one first", stays("0:0,2 1:0,2 2:0,9 3:2,9 4:2,9 5:3,9"), []int{0, 1, 2, 0, 1, 3}},
		{"the least one, not the one that is free first", stays("0:0,4 1:1,3 2:2,9 3:4,6"), []int{0, 1, 2, 0}},
		{"the least one, not the one that is free last", stays("0:0,3 1:1,4 2:2,9 3:4,6"), []int{0, 1, 2, 0}},
		{"the middle one and then the first one", stays("0:0,6 1:0,4 2:0,9 3:4,9 4:6,9"), []int{0, 1, 2, 1, 0}},
		{"all free again", stays("0:0,2 1:0,2 2:0,2 3:5,9 4:5,9"), []int{0, 1, 2, 0, 1}},
		{"one puppet overlapping", stays("1:0,5 1:3,8"), []int{0, 1}},
		{"one puppet touching", stays("1:0,5 1:5,8"), []int{0, 0}},
		{"one puppet apart", stays("1:0,5 1:7,8"), []int{0, 0}},
		{"one puppet on another rail than before", stays("1:0,5 2:3,8 2:5,9"), []int{0, 1, 0}},
		{"twenty at once", equalStays(20, 0, 1000), sortedOrder(20)},
		{"twenty in each other", nestedStays(20), sortedOrder(20)},
		{"twenty in each other, backwards", backwards(nestedStays(20)), reversedOrder(20)},
		{"twenty that touch", staysInTurn(20, 50, 50), make([]int, 20)},
		{"twenty that touch, backwards", backwards(staysInTurn(20, 50, 50)), make([]int, 20)},
		{"twenty with one tick in common each", staysInTurn(20, 49, 50), slices.Repeat([]int{0, 1}, 10)},
		{"twenty, four at once", staysInTurn(20, 5, 20), slices.Repeat([]int{0, 1, 2, 3}, 5)},
	} {
		if got := impl.RailsFor(c.list); !slices.Equal(got, c.want) {
			t.Errorf("%s: RailsFor %v are %v, want %v", c.name, c.list, got, c.want)
		}
	}
}

func TestCountRails(t *testing.T) {
	for _, c := range []struct {
		rails []int
		want  int
	}{
		{nil, 0},
		{[]int{}, 0},
		{[]int{0}, 1},
		{[]int{5}, 1},
		{[]int{-5}, 1},
		{[]int{0, 0}, 1},
		{[]int{4, 4, 4, 4}, 1},
		{[]int{0, 1, 0}, 2},
		{[]int{1, 0, 2}, 3},
		{[]int{0, 7}, 2},
		{[]int{2, 1, 2, 1, 2}, 2},
		{[]int{3, -3}, 2},
		{[]int{-1, 0, 1, -1}, 3},
		{[]int{math.MinInt}, 1},
		{[]int{math.MinInt, math.MaxInt}, 2},
		{[]int{math.MaxInt, math.MinInt, 0, math.MaxInt, math.MinInt, 0, -1}, 4},
		{[]int{math.MinInt, math.MinInt + 1, math.MaxInt - 1, math.MaxInt}, 4},
		{[]int{1, 1 << 32, 1 << 40, 1<<32 + 1}, 4},
		{sortedOrder(20), 20},
		{sortedOrder(21), 21},
		{reversedOrder(10000), 10000},
		{make([]int, 10000), 1},
		{slices.Repeat([]int{-7, 9, 1000001}, 3000), 3},
	} {
		if got := impl.CountRails(c.rails); got != c.want {
			t.Errorf("CountRails of %d rails is %d, want %d", len(c.rails), got, c.want)
		}
	}
	for count := range 6 {
		forAllLists(count, -2, 2, func(rails []int) {
			want := 0
			for i, rail := range rails {
				if !slices.Contains(rails[:i], rail) {
					want++
				}
			}
			if got := impl.CountRails(rails); got != want {
				t.Errorf("CountRails of %v is %d, want %d", rails, got, want)
			}
		})
	}
}

func TestBusyTicks(t *testing.T) {
	for _, c := range []struct {
		name   string
		list   []impl.Stay
		puppet int
		want   int
	}{
		{"no stays", nil, 0, 0},
		{"no stays, and a puppet that is none", nil, -1, 0},
		{"one stay", stays("1:2,5"), 1, 3},
		{"one stay of another one", stays("1:2,5"), 2, 0},
		{"one tick", stays("1:2,3"), 1, 1},
		{"the first tick", stays("0:0,1"), 0, 1},
		{"the last tick", stays("6:999,1000"), 6, 1},
		{"all ticks", stays("6:0,1000"), 6, 1000},
		{"all ticks twice", stays("6:0,1000 6:0,1000"), 6, 1000},
		{"the stays of the stage", stays("1:0,5 2:3,8 1:5,6"), 1, 6},
		{"the other puppet", stays("1:0,5 2:3,8 1:5,6"), 2, 5},
		{"a puppet without stays", stays("1:0,5 2:3,8 1:5,6"), 4, 0},
		{"the zero puppet without stays", stays("1:0,5 2:3,8 1:5,6"), 0, 0},
		{"the puppet -1", stays("1:0,5 2:3,8 1:5,6"), -1, 0},
		{"the puppet 7", stays("6:0,5 0:3,8 6:5,6"), 7, 0},
		{"the least int", stays("6:0,5 0:3,8"), math.MinInt, 0},
		{"the greatest int", stays("6:0,5 0:3,8"), math.MaxInt, 0},
		{"touching", stays("1:0,5 1:5,8"), 1, 8},
		{"apart", stays("1:0,5 1:6,8"), 1, 7},
		{"apart, with another one between", stays("1:0,5 2:5,6 1:6,8"), 1, 7},
		{"one tick in common", stays("1:0,5 1:4,8"), 1, 8},
		{"overlapping", stays("1:0,5 1:2,8"), 1, 8},
		{"overlapping, the later one first", stays("1:2,8 1:0,5"), 1, 8},
		{"equal", stays("1:2,5 1:2,5 1:2,5"), 1, 3},
		{"one in the other", stays("1:1,9 1:3,5"), 1, 8},
		{"one in the other, the inner one first", stays("1:3,5 1:1,9"), 1, 8},
		{"two that touch in one", stays("1:1,9 1:3,5 1:5,7"), 1, 8},
		{"of another one in its stay", stays("1:1,9 2:3,5"), 1, 8},
		{"overlapping, touching and apart", stays("1:10,12 1:0,3 1:2,5 1:5,6 1:20,30 1:22,24"), 1, 18},
		{"twenty that touch", slices.Repeat(stays("3:4,9 3:9,11"), 10), 3, 7},
	} {
		if got := impl.BusyTicks(c.list, c.puppet); got != c.want {
			t.Errorf("%s: BusyTicks of the puppet %d in %v are %d, want %d", c.name, c.puppet, c.list, got, c.want)
		}
	}
}

// TestBusyTicksOfNoPuppets has numbers around those of the puppets for stays of
// all of them.
func TestBusyTicksOfNoPuppets(t *testing.T) {
	list := staysInTurn(14, 3, 5)
	for _, puppet := range numbersAround(0, 6) {
		want := 10
		if puppet < 0 || puppet > 6 {
			want = 0
		}
		if got := impl.BusyTicks(list, puppet); got != want {
			t.Errorf("BusyTicks of the puppet %d are %d, want %d", puppet, got, want)
		}
		if got := impl.BusyTicks(nil, puppet); got != 0 {
			t.Errorf("BusyTicks of the puppet %d without stays are %d", puppet, got)
		}
	}
}

func TestQuietTick(t *testing.T) {
	for _, c := range []struct {
		name string
		list []impl.Stay
		want int
	}{
		{"no stays", nil, 0},
		{"no stays, an empty list", []impl.Stay{}, 0},
		{"from tick 0", stays("1:0,5"), 5},
		{"from tick 1", stays("1:1,5"), 0},
		{"later", stays("1:7,9 2:3,8"), 0},
		{"the first tick alone", stays("1:0,1"), 1},
		{"the last tick alone", stays("1:999,1000"), 0},
		{"touching without a gap", stays("1:0,5 2:5,8"), 8},
		{"touching, the later one first", stays("2:5,8 1:0,5"), 8},
		{"a gap of one tick", stays("1:0,5 2:6,8"), 5},
		{"a gap of one tick, the later one first", stays("2:6,8 1:0,5"), 5},
		{"a gap of one tick at 0", stays("2:1,8 1:3,5"), 0},
		{"a gap of one tick at 1", stays("2:2,8 1:0,1"), 1},
		{"two gaps", stays("1:0,2 2:4,6 3:9,12"), 2},
		{"a gap that another one fills", stays("1:0,5 2:6,8 3:5,6"), 8},
		{"a gap of two, of which one is filled", stays("1:0,5 2:7,8 3:5,6"), 6},
		{"a gap of two, of which the second one is filled", stays("1:0,5 2:7,8 3:6,7"), 5},
		{"overlapping", stays("1:0,5 2:3,8"), 8},
		{"one in the other", stays("1:0,9 2:3,5"), 9},
		{"equal", stays("1:0,5 2:0,5"), 5},
		{"one puppet", stays("1:0,5 1:5,8 1:3,6"), 8},
		{"the stays of the stage", stays("1:0,5 2:3,8 1:5,6"), 8},
		{"all ticks", stays("1:0,1000"), 1000},
		{"all ticks twice", stays("1:0,1000 2:0,1000"), 1000},
		{"all ticks but the last one", stays("1:0,999"), 999},
		{"all ticks but the first one", stays("1:1,1000"), 0},
		{"all ticks, in two", stays("1:500,1000 2:0,500"), 1000},
		{"all ticks but one, in two", stays("1:500,1000 2:0,499"), 499},
		{"twenty that fill all ticks", staysInTurn(20, 50, 50), 1000},
		{"twenty that fill all ticks, backwards", backwards(staysInTurn(20, 50, 50)), 1000},
		{"twenty with gaps of one tick", staysInTurn(20, 50, 49), 49},
		{"twenty with gaps of one tick, backwards", backwards(staysInTurn(20, 50, 49)), 49},
		{"twenty, with a gap in the middle", withStay(staysInTurn(20, 50, 50), 10, impl.Stay{From: 501, To: 550}), 500},
		{"twenty, with a gap at the end", withStay(staysInTurn(20, 50, 50), 19, impl.Stay{From: 950, To: 999}), 999},
	} {
		if got := impl.QuietTick(c.list); got != c.want {
			t.Errorf("%s: QuietTick of %v is %d, want %d", c.name, c.list, got, c.want)
		}
	}
}

// TestStaysByDefinition checks lists of all kinds, each also in other orders.
func TestStaysByDefinition(t *testing.T) {
	next := fromChance(216)
	for _, list := range validStays() {
		checkStays(t, list)
		checkStays(t, backwards(list))
		checkStays(t, shuffledStays(next, list))
	}
	for _, count := range []int{1, 2, 5, 20} {
		for range 50 {
			checkStays(t, chanceStays(next, count, 20, 12))
			checkStays(t, chanceStays(next, count, 1000, 300))
		}
	}
}

// forShortStays visits all lists of up to four stays within four ticks, of two
// puppets.
func forShortStays(visit func(list []impl.Stay)) {
	var kinds []impl.Stay
	for to := 1; to <= 4; to++ {
		for from := range to {
			kinds = append(kinds, impl.Stay{From: from, To: to})
		}
	}
	for count := range 5 {
		forAllLists(count, 0, len(kinds)-1, func(numbers []int) {
			var list []impl.Stay
			for i, n := range numbers {
				s := kinds[n]
				s.Puppet = (i + n) % 2
				list = append(list, s)
			}
			visit(list)
		})
	}
}

func TestShortStaysByDefinition(t *testing.T) {
	touching, once := 0, 0
	forShortStays(func(list []impl.Stay) {
		rows := meetings(list)
		for i, s := range list {
			for k, other := range list {
				if rows[i][k] != meet(s, other) {
					t.Fatalf("%v and %v are not compared tick by tick", s, other)
				}
				if s.To == other.From {
					touching++
				}
				if meet(s, other) && min(s.To, other.To)-max(s.From, other.From) == 1 && i != k {
					once++
				}
			}
		}
		checkStays(t, list)
	})
	if touching < 10000 || once < 10000 {
		t.Errorf("only %d stays touch, and %d have one tick in common", touching, once)
	}
}

// checkEnoughRails compares the rails with all choices of rails.
func checkEnoughRails(t *testing.T, list []impl.Stay) int {
	t.Helper()
	rails := impl.RailsFor(list)
	fewest, most := fewestRails(list), impl.MostAtOnce(list)
	if got := impl.CountRails(rails); got != fewest || most != fewest || !railsFit(meetings(list), rails) {
		t.Errorf("RailsFor %v are %v, and MostAtOnce is %d, but there is a choice of %d", list, rails, most, fewest)
	}
	return fewest
}

// TestAsManyRailsAreEnoughAsThereArePuppetsAtOnce checks promise 16: all choices
// of rails are tried for short lists.
func TestAsManyRailsAreEnoughAsThereArePuppetsAtOnce(t *testing.T) {
	var counts [7]int
	forShortStays(func(list []impl.Stay) {
		counts[checkEnoughRails(t, list)]++
	})
	next := fromChance(116)
	for range 300 {
		counts[checkEnoughRails(t, chanceStays(next, 5, 12, 7))]++
	}
	for range 60 {
		counts[checkEnoughRails(t, chanceStays(next, 6, 14, 6))]++
	}
	for count, often := range counts[:6] {
		if often == 0 {
			t.Errorf("there are no stays for %d rails", count)
		}
	}
}

// TestLongListsNeedNoMoreRails has lists that are too long for all choices: no
// choice has fewer rails, as the stays at one tick are on different ones.
func TestLongListsNeedNoMoreRails(t *testing.T) {
	next := fromChance(1600)
	var counts [21]int
	for count := 7; count <= 20; count++ {
		for _, longest := range []int{2, 5, 20, 100, 1000} {
			for range 8 {
				list := chanceStays(next, count, 40, longest)
				checkStays(t, list)
				counts[impl.CountRails(impl.RailsFor(list))]++
			}
		}
	}
	for count := 2; count <= 16; count++ {
		if counts[count] == 0 {
			t.Errorf("no list needs %d rails", count)
		}
	}
}

// TestOtherOrdersHaveTheSameRails has stays that all begin at different ticks, so
// that their order in the list does not matter.
func TestOtherOrdersHaveTheSameRails(t *testing.T) {
	next := fromChance(161)
	for _, length := range []int{1, 3, 10, 40} {
		for count := range 21 {
			list := staysInTurn(count, 3, 1)
			for i := range list {
				list[i].To += next(length)
			}
			want := impl.RailsFor(list)
			order := chanceOrder(next, count)
			var changed []impl.Stay
			for _, i := range order {
				changed = append(changed, list[i])
			}
			for place, rail := range impl.RailsFor(changed) {
				if rail != want[order[place]] {
					t.Errorf("the rail of %v is %d in %v, but %d in %v", changed[place], rail, changed, want[order[place]], list)
				}
			}
		}
	}
}

// TestPuppetsDoNotMatterForRails gives all stays to one puppet, and to others.
func TestPuppetsDoNotMatterForRails(t *testing.T) {
	for _, list := range validStays() {
		rails, most, quiet := impl.RailsFor(list), impl.MostAtOnce(list), impl.QuietTick(list)
		for puppet := range 7 {
			one, others := slices.Clone(list), slices.Clone(list)
			for i := range list {
				one[i].Puppet = puppet
				others[i].Puppet = (list[i].Puppet + puppet) % 7
			}
			for _, changed := range [][]impl.Stay{one, others} {
				if got := impl.RailsFor(changed); !slices.Equal(got, rails) {
					t.Errorf("RailsFor %v are %v, but %v for other puppets", changed, got, rails)
				}
				if impl.MostAtOnce(changed) != most || impl.QuietTick(changed) != quiet {
					t.Errorf("MostAtOnce or QuietTick of %v depends on the puppets", changed)
				}
			}
			if got, want := impl.BusyTicks(others, puppet), impl.BusyTicks(list, 0); got != want {
				t.Errorf("BusyTicks of %v are %d, want %d", others, got, want)
			}
		}
	}
}

// roomyStays has spare capacity behind the list, and all of it.
func roomyStays(list []impl.Stay) ([]impl.Stay, []impl.Stay) {
	all := append(slices.Clone(list), impl.Stay{Puppet: 1, From: 0, To: 7}, impl.Stay{Puppet: 70, From: 71, To: 72}, impl.Stay{Puppet: 73})
	return all[:len(list)], all
}

// watchedStays has a roomy list, and a check that tells who has changed it or
// what is behind it.
func watchedStays(t *testing.T, list []impl.Stay) ([]impl.Stay, func(by string)) {
	watched, all := roomyStays(list)
	want := slices.Clone(all)
	return watched, func(by string) {
		t.Helper()
		if !slices.Equal(all, want) {
			t.Fatalf("%s changes %v to %v", by, want, all)
		}
	}
}

// someStays are valid and invalid lists.
func someStays() [][]impl.Stay {
	lists := validStays()
	for _, c := range invalidStays() {
		lists = append(lists, c.list)
	}
	return lists
}

func TestStayArgumentsAreLeftUnchanged(t *testing.T) {
	for _, stays := range someStays() {
		list, check := watchedStays(t, stays)
		impl.StaysOk(list)
		check("StaysOk")
		impl.MostAtOnce(list)
		check("MostAtOnce")
		impl.RailsFor(list)
		check("RailsFor")
		for puppet := -1; puppet <= 7; puppet++ {
			impl.BusyTicks(list, puppet)
			check("BusyTicks")
		}
		impl.QuietTick(list)
		check("QuietTick")
	}
	for _, numbers := range [][]int{nil, {3}, {2, 1, 2, 1}, {5, -5, 5, 0, 0}, reversedOrder(20), make([]int, 30)} {
		rails, all := roomyList(numbers)
		want := slices.Clone(all)
		impl.CountRails(rails)
		if !slices.Equal(all, want) {
			t.Errorf("CountRails changes %v to %v", want, all)
		}
	}
}

// TestRailsAreNewMemory changes one of two results of the same call, also behind
// its end, and looks at the argument and at the other one.
func TestRailsAreNewMemory(t *testing.T) {
	for _, stays := range someStays() {
		list, check := watchedStays(t, stays)
		want := impl.RailsFor(stays)
		got := impl.RailsFor(list)
		overwritePoses([][]int{impl.RailsFor(list)})
		check("a change of the rails")
		if again := impl.RailsFor(list); !slices.Equal(got, want) || !slices.Equal(again, want) {
			t.Errorf("a change of the rails for %v changes others to %v or %v, want %v", stays, got, again, want)
		}
	}
}

// TestRailsAreKept changes the argument behind the call, also behind its end.
func TestRailsAreKept(t *testing.T) {
	for _, stays := range someStays() {
		list, all := roomyStays(stays)
		got := impl.RailsFor(list)
		for i := range all {
			all[i] = impl.Stay{Puppet: 90, From: 91, To: 92}
		}
		if want := impl.RailsFor(stays); !slices.Equal(got, want) {
			t.Errorf("behind a change of the argument, the rails for %v are %v, want %v", stays, got, want)
		}
	}
}

// TestStayResultsAreRepeated calls each function again, as the result of a call
// depends only on its arguments, and not on the order in which a map is read.
func TestStayResultsAreRepeated(t *testing.T) {
	results := func(list []impl.Stay) []int {
		rails := impl.RailsFor(list)
		numbers := []int{impl.MostAtOnce(list), impl.CountRails(rails), impl.QuietTick(list), impl.BusyTicks(list, 1)}
		return append(numbers, rails...)
	}
	for _, list := range someStays() {
		want := results(list)
		// Spare capacity behind the list does not matter.
		roomy, _ := roomyStays(list)
		for range 4 {
			for _, got := range [][]int{results(list), results(roomy)} {
				if !slices.Equal(got, want) {
					t.Errorf("the results of %v are %v and then %v", list, want, got)
				}
			}
		}
	}
}
