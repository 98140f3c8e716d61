package tests

import (
	"cmp"
	"math"
	"slices"
	"strings"
	"testing"

	"loop.example/g03306/impl"
)

// moments reads the puppets of one moment, or their casting, from each field.
func moments(text string) [][]int {
	var night [][]int
	for _, field := range strings.Fields(text) {
		night = append(night, numbersIn(field))
	}
	return night
}

func copyOfNight(night [][]int) [][]int {
	copied := slices.Clone(night)
	for m, puppets := range night {
		copied[m] = slices.Clone(puppets)
	}
	return copied
}

// withMoment has other puppets at one moment.
func withMoment(night [][]int, m int, puppets ...int) [][]int {
	changed := copyOfNight(night)
	changed[m] = slices.Clone(puppets)
	return changed
}

// validNights have moments of all kinds.
func validNights() [][][]int {
	nights := [][][]int{
		moments("-"),
		moments("0"),
		moments("0,1,2,3"),
		moments("3,4,5,6"),
		moments("1,2"),
		moments("- -"),
		moments("- - - - - -"),
		// Nobody is on stage first, between the same puppets, and last.
		moments("- 0,1"),
		moments("1,2 - 1,2"),
		moments("0,1,2 - - 0,1,2"),
		moments("0,1 -"),
		moments("- 1 - 1,2 - 1"),
		moments("0,1,2,3 - 0,1,2,3 - 0,1,2,3 -"),
		// Puppets stay, leave, come, and come back.
		moments("0,1 1,2"),
		moments("0,1 0,1 0,1"),
		moments("0 0,1 0,1,2 0,1,2,3 1,2,3 3"),
		moments("0,1,2,3 0,1,2 0,1 0 - 0"),
		moments("0,1 1,2 2,3 3,4 4,5 5,6"),
		moments("0,1 2,3 0,1"),
		moments("1 2 1 2 1 2"),
		moments("0,5 0,1 0,1,6"),
		moments("0,1,2,3 2,3,4,5"),
		moments("0,1 4,5 0,6"),
	}
	next := fromChance(15)
	for i := range 24 {
		nights = append(nights, chanceNight(next, i%6+1))
	}
	return nights
}

// chanceNight has moments with up to four puppets, many of them the same ones
// from moment to moment.
func chanceNight(next func(below int) int, count int) [][]int {
	few := counted(4, next(4), 1)
	night := make([][]int, count)
	for m := range night {
		for puppet := range 7 {
			often := 6
			if slices.Contains(few, puppet) {
				often = 2
			}
			if len(night[m]) < 4 && next(often) == 0 {
				night[m] = append(night[m], puppet)
			}
		}
	}
	return night
}

type namedNight struct {
	name  string
	night [][]int
}

// strangeNights are not valid, whoever plays.
func strangeNights() []namedNight {
	nights := []namedNight{
		{"no moments", nil},
		{"no moments, an empty list", [][]int{}},
		{"seven moments", moments("0 0 0 0 0 0 0")},
		{"seven moments without puppets", make([][]int, 7)},
		{"eight moments", make([][]int, 8)},
		{"many moments", make([][]int, 10000)},
		{"five puppets", moments("0,1,2,3,4")},
		{"the last five puppets", moments("2,3,4,5,6")},
	}
	for _, puppets := range append(strangePuppets(), sortedOrder(5), sortedOrder(6), sortedOrder(7), counted(5, 2, 1)) {
		name := "strange puppets"
		nights = append(nights, namedNight{name + " alone", [][]int{puppets}})
		nights = append(nights, namedNight{name + " first", [][]int{puppets, {0, 1}, {1}}})
		nights = append(nights, namedNight{name + " in the middle", [][]int{{0, 1}, puppets, {1}}})
		nights = append(nights, namedNight{name + " last", [][]int{nil, {0, 1}, {1}, nil, {2}, puppets}})
	}
	return nights
}

// heldBy has the player of each puppet on stage, counted from 1 on.
func heldBy(puppets []int, cast []int) [7]int {
	var held [7]int
	for i, puppet := range puppets {
		held[puppet] = cast[i] + 1
	}
	return held
}

// handsChanged counts the puppets that are on stage at both moments, but in
// other hands.
func handsChanged(before [7]int, after [7]int) int {
	changes := 0
	for puppet := range before {
		if before[puppet] > 0 && after[puppet] > 0 && before[puppet] != after[puppet] {
			changes++
		}
	}
	return changes
}

// choice is a casting for each moment up to one of them.
type choice struct {
	casts   [][]int
	held    [7]int
	changes int
}

// betterChoice orders choices: fewer changes first, and then moment by moment.
func betterChoice(c choice, d choice) int {
	return cmp.Or(cmp.Compare(c.changes, d.changes), slices.CompareFunc(c.casts, d.casts, slices.Compare[[]int]))
}

// longerChoice has one moment more.
func longerChoice(c choice, puppets []int, cast []int) choice {
	held := heldBy(puppets, cast)
	return choice{append(slices.Clone(c.casts), cast), held, c.changes + handsChanged(c.held, held)}
}

// bestChoice goes through the night from its beginning: for each casting of a
// moment it keeps the best choice that leads to it. It reports whether there is
// a casting for each moment.
func bestChoice(list []impl.Player, night [][]int) (choice, bool) {
	choices := []choice{{}}
	for _, puppets := range night {
		var longer []choice
		for _, cast := range castsOf(list, puppets) {
			held := heldBy(puppets, cast)
			best := slices.MinFunc(choices, func(c choice, d choice) int {
				c.changes += handsChanged(c.held, held)
				d.changes += handsChanged(d.held, held)
				return betterChoice(c, d)
			})
			longer = append(longer, longerChoice(best, puppets, cast))
		}
		if len(longer) == 0 {
			return choice{}, false
		}
		choices = longer
	}
	return slices.MinFunc(choices, betterChoice), true
}

// countChoices is the number of ways to choose a casting for each moment.
func countChoices(list []impl.Player, night [][]int) int {
	count := 1
	for _, puppets := range night {
		count *= len(castsOf(list, puppets))
	}
	return count
}

// forAllChoices visits all ways to choose a casting for each moment, in
// lexicographic order.
func forAllChoices(list []impl.Player, night [][]int, visit func(c choice)) {
	var choose func(c choice)
	choose = func(c choice) {
		m := len(c.casts)
		if m == len(night) {
			visit(c)
			return
		}
		for _, cast := range castsOf(list, night[m]) {
			choose(longerChoice(c, night[m], cast))
		}
	}
	choose(choice{})
}

func TestNightOk(t *testing.T) {
	for _, c := range validPlayers() {
		for _, night := range validNights() {
			if !impl.NightOk(c.list, night) {
				t.Errorf("%s: NightOk of %v is false", c.name, night)
			}
		}
		for _, n := range strangeNights() {
			if impl.NightOk(c.list, n.night) {
				t.Errorf("%s: NightOk of %s is true", c.name, n.name)
			}
		}
	}
	for _, c := range invalidPlayers() {
		for _, night := range append(validNights(), nil, moments("7")) {
			if impl.NightOk(c.list, night) {
				t.Errorf("%s: NightOk of %v is true", c.name, night)
			}
		}
	}
}

func TestNightOkLimits(t *testing.T) {
	list := players("-/0")
	for count := range 20 {
		for puppets := range 8 {
			night := slices.Repeat([][]int{sortedOrder(puppets)}, count)
			if got := impl.NightOk(list, night); got != (count >= 1 && count <= 6 && puppets <= 4) {
				t.Errorf("NightOk is %v for %d moments with %d puppets", got, count, puppets)
			}
		}
	}
	for count := 1; count <= 6; count++ {
		for m := range count {
			for _, puppets := range subsetsOf(sortedOrder(7)...) {
				night := withMoment(make([][]int, count), m, puppets...)
				if got := impl.NightOk(list, night); got != (len(puppets) <= 4) {
					t.Errorf("NightOk of %v is %v", night, got)
				}
			}
		}
	}
}

// isMoment reports whether these puppets can be on stage.
func isMoment(puppets []int) bool {
	return len(puppets) <= 4 && isRising(puppets, 7)
}

func TestNightOkPuppets(t *testing.T) {
	check := func(puppets []int) {
		for m := range 3 {
			night := withMoment(moments("0,1 - 6"), m, puppets...)
			if got := impl.NightOk(ableAll(1), night); got != isMoment(puppets) {
				t.Errorf("NightOk of %v is %v", night, got)
			}
		}
	}
	forManyPuppets(check)
	forAllLists(4, -1, 7, check)
}

func TestCastingsOf(t *testing.T) {
	all := "0,1,2,3,4,5,6/"
	for _, c := range []struct {
		text    string
		puppets []int
		want    string
	}{
		{"0,1/1 1,2/2", []int{1}, "0 1"},
		{"0,1/1 1,2/2", []int{0}, "0"},
		{"0,1/1 1,2/2", []int{0, 1}, "0,1"},
		{"0,1/1 1,2/2", []int{1, 2}, "0,1 1,1"},
		{"0,1/1 1,2/2", []int{0, 1, 2}, "0,1,1"},
		{"0,1/1 1,2/2", []int{3}, ""},
		{"0,1/1 1,2/2", []int{0, 3}, ""},
		// No puppets have one casting, the empty one.
		{"0,1/1 1,2/2", nil, "-"},
		{"0,1/1 1,2/2", []int{}, "-"},
		{"-/0", nil, "-"},
		{"-/2 -/2", nil, "-"},
		{all + "2 " + all + "2 " + all + "2 " + all + "2 " + all + "2 " + all + "2", nil, "-"},
		// Players without hands, and players who know nobody.
		{"4/0", []int{4}, ""},
		{"4/0 4/1 4/0 4/2", []int{4}, "1 3"},
		{"-/2", []int{4}, ""},
		{"-/2 4/1 -/2", []int{4}, "1"},
		{"-/2 3,4/2 3/0 4/1", []int{3, 4}, "1,1 1,3"},
		// One player and six players.
		{all + "2", []int{2}, "0"},
		{all + "2", []int{2, 6}, "0,0"},
		{all + "2", []int{2, 4, 6}, ""},
		{all + "1", []int{2, 6}, ""},
		{"0/1 1/1 2/1 0/1 1/1 2/1", []int{0, 1, 2}, "0,1,2 0,1,5 0,4,2 0,4,5 3,1,2 3,1,5 3,4,2 3,4,5"},
		{"5/2 5/2 5/2 5/2 5/2 5/2", []int{5}, "0 1 2 3 4 5"},
		// Two hands, and hands that are all taken.
		{"0,1/2 0,1/2", []int{0, 1}, "0,0 0,1 1,0 1,1"},
		{"0,1/1 0,1/1", []int{0, 1}, "0,1 1,0"},
		{"0,1/1 0,1/1", []int{1}, "0 1"},
		{"0,1/1 0/1", []int{0, 1}, "1,0"},
		{all + "1 " + all + "2", []int{0, 3, 6}, "0,1,1 1,0,1 1,1,0"},
		{all + "2 " + all + "2", []int{1, 2, 4, 5}, "0,0,1,1 0,1,0,1 0,1,1,0 1,0,0,1 1,0,1,0 1,1,0,0"},
		{all + "2 " + all + "1", []int{1, 2, 4, 5}, ""},
		{"3/1 4/1 5/1 6/1", []int{3, 4, 5, 6}, "0,1,2,3"},
		{"6/1 5/1 4/1 3/1", []int{3, 4, 5, 6}, "3,2,1,0"},
		// More than four puppets.
		{all + "2 " + all + "2 " + all + "2", sortedOrder(5), ""},
		{all + "2 " + all + "2 " + all + "2", counted(5, 2, 1), ""},
		{all + "2 " + all + "2 " + all + "2 " + all + "1", sortedOrder(7), ""},
		{"0/1 1/1 2/1 3/1 4/1", sortedOrder(5), ""},
		// Players or puppets that are not valid.
		{"", nil, ""},
		{"", []int{0}, ""},
		{"0,1/3", []int{0}, ""},
		{"0,1/2 0,1/-1", nil, ""},
		{"0,1/2 1,0/2", []int{0}, ""},
		{"0/2 0/2 0/2 0/2 0/2 0/2 0/2", []int{0}, ""},
		{"0,1/2 0,1/2", []int{1, 0}, ""},
		{"0,1/2 0,1/2", []int{1, 1}, ""},
		{"0,1/2 0,1/2", []int{-1}, ""},
		{"0,1/2 7/2", []int{7}, ""},
	} {
		if got := impl.CastingsOf(players(c.text), c.puppets); !equalPoses(got, moments(c.want)) {
			t.Errorf("%q: CastingsOf %v are %v, want %v", c.text, c.puppets, got, moments(c.want))
		}
	}
}

// checkCastings compares the castings with all casts that fit, sorted. It
// returns their number.
func checkCastings(t *testing.T, list []impl.Player, puppets []int) int {
	t.Helper()
	var want [][]int
	forAllLists(len(puppets), 0, len(list)-1, func(cast []int) {
		if castFits(list, puppets, cast) {
			want = append(want, cast)
		}
	})
	slices.SortFunc(want, slices.Compare[[]int])
	got := impl.CastingsOf(list, puppets)
	if !equalPoses(got, want) {
		t.Fatalf("%s: CastingsOf %v are %v, want %v", playersText(list), puppets, got, want)
	}
	first, ok := impl.FirstCasting(list, puppets)
	if ok != (len(got) > 0) || ok && !slices.Equal(got[0], first) {
		t.Errorf("%s: CastingsOf %v are %v, but the first one is %v", playersText(list), puppets, got, first)
	}
	return len(got)
}

func TestCastingsOfByDefinition(t *testing.T) {
	castings, none := 0, 0
	check := func(list []impl.Player, puppets []int) {
		t.Helper()
		count := checkCastings(t, list, puppets)
		castings += count
		if count == 0 {
			none++
		}
	}
	for i, c := range validPlayers() {
		for k, puppets := range subsetsOf(sortedOrder(7)...) {
			if len(puppets) < 3 || len(puppets) < 5 && (i+k)%6 == 0 {
				check(c.list, puppets)
			}
		}
	}
	forAllPlayers([]int{0, 6}, func(list []impl.Player) {
		for _, puppets := range subsetsOf(0, 6) {
			check(list, puppets)
		}
	})
	if castings < 20000 || none < 5000 {
		t.Errorf("there are only %d castings, and %d lists of puppets without one", castings, none)
	}
}

// TestManyCastings has as many hands as possible: only three hands of one player
// are too many.
func TestManyCastings(t *testing.T) {
	for _, puppets := range subsetsOf(sortedOrder(7)...) {
		casts := impl.CastingsOf(ableAll(6), puppets)
		if len(puppets) > 4 {
			if len(casts) != 0 {
				t.Errorf("there are %d castings of %v", len(casts), puppets)
			}
			continue
		}
		if want := []int{1, 6, 36, 6*6*6 - 6, 6*6*6*6 - 6*4*5 - 6}[len(puppets)]; len(casts) != want {
			t.Errorf("there are %d castings of %v, want %d", len(casts), puppets, want)
		}
		for i, cast := range casts {
			if !impl.IsCasting(ableAll(6), puppets, cast) {
				t.Errorf("%v is no casting of %v", cast, puppets)
			}
			if i > 0 && slices.Compare(casts[i-1], cast) >= 0 {
				t.Errorf("the castings %v and %v of %v are not in order", casts[i-1], cast, puppets)
			}
		}
		if want := []int{1, 6, 30, 120, 360}[len(puppets)]; len(impl.CastingsOf(equalTo(6, 1, sortedOrder(7)...), puppets)) != want {
			t.Errorf("with one hand each, there are not %d castings of %v", want, puppets)
		}
	}
	checkCastings(t, ableAll(6), []int{0, 2, 4, 6})
}

func TestChangesBetween(t *testing.T) {
	for _, c := range []struct {
		name    string
		puppets []int
		cast    []int
		next    []int
		after   []int
		want    int
	}{
		{"nobody", nil, nil, nil, nil, 0},
		{"nobody, empty lists", []int{}, []int{}, []int{}, []int{}, 0},
		{"one stays and changes", []int{1, 2}, []int{0, 0}, []int{2, 3}, []int{1, 1}, 1},
		{"one stays in the same hand", []int{1, 2}, []int{0, 1}, []int{2, 3}, []int{1, 0}, 0},
		{"both stay", []int{1, 2}, []int{0, 1}, []int{1, 2}, []int{0, 1}, 0},
		{"both stay, one changes", []int{1, 2}, []int{0, 1}, []int{1, 2}, []int{0, 2}, 1},
		{"both change", []int{1, 2}, []int{0, 1}, []int{1, 2}, []int{1, 0}, 2},
		{"four change", []int{0, 1, 2, 3}, []int{0, 0, 1, 1}, []int{0, 1, 2, 3}, []int{1, 1, 0, 0}, 4},
		{"all leave", []int{1, 2}, []int{0, 1}, nil, nil, 0},
		{"all come", nil, nil, []int{1, 2}, []int{0, 1}, 0},
		{"others", []int{1, 2}, []int{0, 1}, []int{3, 4}, []int{1, 0}, 0},
		{"at another place in the list", []int{1, 2}, []int{0, 1}, []int{0, 1, 2}, []int{5, 0, 1}, 0},
		{"at another place, and changed", []int{1, 2}, []int{0, 1}, []int{0, 1, 2}, []int{0, 1, 0}, 2},
		{"not ascending", []int{2, 1}, []int{0, 1}, []int{1, 2}, []int{1, 0}, 0},
		{"not ascending, and changed", []int{2, 1}, []int{0, 1}, []int{1, 2}, []int{0, 1}, 2},
		{"twice in the first list", []int{3, 3}, []int{0, 1}, []int{3}, []int{0}, 1},
		{"twice in the second list", []int{3}, []int{0}, []int{3, 3}, []int{1, 2}, 2},
		{"twice in both", []int{3, 3}, []int{0, 1}, []int{3, 3}, []int{0, 1}, 2},
		{"twice in both, all others", []int{3, 3}, []int{0, 1}, []int{3, 3}, []int{2, 2}, 4},
		{"twice in both, all the same", []int{3, 3}, []int{2, 2}, []int{3, 3}, []int{2, 2}, 0},
		{"three times and twice", []int{3, 4, 3, 3}, []int{0, 0, 1, 2}, []int{4, 3, 3}, []int{1, 1, 0}, 5},
		{"twice in one list alone", []int{3, 3}, []int{0, 1}, []int{4}, []int{2}, 0},
		{"numbers of any size", []int{math.MinInt, math.MaxInt, -1}, []int{math.MaxInt, math.MinInt, -7},
			[]int{-1, math.MinInt, math.MaxInt}, []int{-7, math.MaxInt, math.MinInt}, 0},
		{"numbers of any size, changed", []int{math.MinInt, math.MaxInt, -1}, []int{math.MaxInt, math.MinInt, -7},
			[]int{-1, math.MinInt, math.MaxInt}, []int{7, math.MinInt, math.MaxInt}, 3},
		{"players far apart", []int{0, 1}, []int{math.MinInt, 0}, []int{0, 1}, []int{0, math.MinInt}, 2},
		{"no players' numbers", []int{0, 1}, []int{-1, 6}, []int{0, 1}, []int{-1, 7}, 1},
		{"the first pair too short", []int{1, 2}, []int{0}, []int{1}, []int{0}, -1},
		{"the first pair too long", []int{1}, []int{0, 0}, []int{1}, []int{0}, -1},
		{"the second pair too short", []int{1}, []int{0}, []int{1, 2}, []int{0}, -1},
		{"the second pair too long", []int{1}, []int{0}, []int{1}, []int{0, 1}, -1},
		{"both pairs too short", []int{1, 2}, []int{0}, []int{1, 2}, []int{0}, -1},
		{"both pairs too long", []int{1}, []int{0, 1}, []int{1}, []int{0, 1}, -1},
		{"one too short, one too long", []int{1, 2}, []int{0}, []int{1}, []int{0, 1}, -1},
		{"one too long, one too short", []int{1}, []int{0, 1}, []int{1, 2}, []int{0}, -1},
		{"no first cast", []int{1}, nil, nil, nil, -1},
		{"no first puppets", nil, []int{1}, nil, nil, -1},
		{"no second cast", nil, nil, []int{1}, nil, -1},
		{"no second puppets", nil, nil, nil, []int{1}, -1},
		{"as long as the others", []int{1}, []int{0, 1}, []int{0, 1}, []int{0}, -1},
		{"lists crosswise as long", []int{1, 2}, []int{0}, []int{1}, []int{0, 1}, -1},
		{"no puppets but casts", nil, []int{0, 1}, nil, []int{0, 1}, -1},
	} {
		if got := impl.ChangesBetween(c.puppets, c.cast, c.next, c.after); got != c.want {
			t.Errorf("%s: ChangesBetween %v of %v and %v of %v are %d, want %d", c.name, c.cast, c.puppets, c.after, c.next, got, c.want)
		}
	}
}

// pairsApart takes the pairs with the same puppet and the same player away from
// those with the same puppet.
func pairsApart(puppets []int, cast []int, next []int, after []int) int {
	of, by := map[int]int{}, map[[2]int]int{}
	for i, puppet := range puppets {
		of[puppet]++
		by[[2]int{puppet, cast[i]}]++
	}
	pairs := 0
	for k, puppet := range next {
		pairs += of[puppet] - by[[2]int{puppet, after[k]}]
	}
	return pairs
}

// TestChangesBetweenByDefinition has all short lists, also with the same puppet
// several times.
func TestChangesBetweenByDefinition(t *testing.T) {
	check := func(puppets []int, cast []int, next []int, after []int) {
		t.Helper()
		got, back := impl.ChangesBetween(puppets, cast, next, after), impl.ChangesBetween(next, after, puppets, cast)
		if want := pairsApart(puppets, cast, next, after); got != want || back != want {
			t.Errorf("ChangesBetween %v of %v and %v of %v are %d, and %d back, want %d", cast, puppets, after, next, got, back, want)
		}
	}
	for count := range 4 {
		for more := range 4 {
			if count+more > 4 {
				continue
			}
			forAllLists(count+more, 0, 2, func(all []int) {
				forAllLists(count+more, -1, 1, func(by []int) {
					check(all[:count], by[:count], all[count:], by[count:])
				})
			})
		}
	}
	next := fromChance(151)
	for range 3000 {
		count, more := next(12), next(12)
		lists := make([][]int, 4)
		for i, length := range []int{count, count, more, more} {
			for range length {
				lists[i] = append(lists[i], next(i%2*2+4)-1)
			}
		}
		check(lists[0], lists[1], lists[2], lists[3])
	}
	for _, n := range numbersAround(0, 5) {
		for _, k := range numbersAround(0, 5) {
			check([]int{n}, []int{k}, []int{n, k}, []int{n, n})
			check([]int{n, k}, []int{k, n}, []int{n, k}, []int{n, k})
		}
	}
	long := slices.Repeat([]int{0, 1, 2, 3, 4}, 400)
	check(long, slices.Repeat([]int{0, 1, 2, 3}, 500), long, counted(2000, 0, 1))
	check(long, make([]int, 2000), []int{2}, []int{1})
}

// TestChangesBetweenLengths has all lengths of the four lists.
func TestChangesBetweenLengths(t *testing.T) {
	forAllLists(4, 0, 5, func(n []int) {
		want := -1
		if n[0] == n[1] && n[2] == n[3] {
			want = min(n[0], n[2])
		}
		if got := impl.ChangesBetween(sortedOrder(n[0]), make([]int, n[1]), sortedOrder(n[2]), counted(n[3], 1, 1)); got != want {
			t.Errorf("ChangesBetween lists with the lengths %v are %d, want %d", n, got, want)
		}
	})
}

func TestCountChanges(t *testing.T) {
	for _, c := range []struct {
		name  string
		night string
		casts string
		want  int
	}{
		{"no moments", "", "", 0},
		{"one moment", "0,1", "0,1", 0},
		{"one moment without puppets", "-", "-", 0},
		// There is no next moment, and nothing between both.
		{"one moment and a cast that does not fit", "0,1", "0", 0},
		{"one moment without puppets and a cast", "-", "0,1", 0},
		{"the puppet changes", "0 0", "0 1", 1},
		{"the puppet stays", "0 0", "1 1", 0},
		{"the puppet changes and changes back", "0 0 0", "0 1 0", 2},
		{"the puppet changes at each moment", "0 0 0 0 0 0", "0 1 2 0 1 2", 5},
		{"two puppets", "0,1 0,1 0,1", "0,1 0,2 1,0", 3},
		{"puppets come and leave", "0,1 1,2 2,3", "0,0 1,1 0,1", 2},
		{"not at the next moment", "0 1 0", "0 0 1", 0},
		{"nobody first", "- 0 0", "- 0 1", 1},
		{"nobody in the middle", "0,1 - 0,1", "0,0 - 1,1", 0},
		{"nobody last", "0 0 -", "0 1 -", 1},
		{"nobody at all", "- - -", "- - -", 0},
		{"four puppets, six moments", "0,1,2,3 0,1,2,3 0,1,2,3 0,1,2,3 0,1,2,3 0,1,2,3", "0,0,1,1 1,1,0,0 0,0,1,1 1,1,0,0 0,0,1,1 1,1,0,0", 20},
		{"seven moments", "0 0 0 0 0 0 0", "0 1 0 1 0 1 0", 6},
		{"five puppets", "0,1,2,3,4 0,1,2,3,4", "0,0,0,0,0 1,1,1,1,1", 5},
		{"puppets of any kind", "-1,9 9,-1", "5,5 5,6", 1},
		{"the same puppet twice", "3,3 3,3 3", "0,1 0,1 2", 4},
		{"players of any kind", "0,1 0,1", "-5,99 -5,98", 1},
		{"too few casts", "0 0", "0", -1},
		{"too many casts", "0", "0 0", -1},
		{"no casts", "0", "", -1},
		{"no casts, nobody on stage", "-", "", -1},
		{"casts but no moments", "", "0", -1},
		{"an empty cast but no moments", "", "-", -1},
		{"too many casts by many", "0 0", "0 0 0 0 0 0", -1},
		{"the first cast too short", "0,1 0 0", "0 0 0", -1},
		{"the first cast too long", "0 0 0", "0,1 0 0", -1},
		{"the middle cast too short", "0 0,1 0", "0 0 0", -1},
		{"the middle cast too long", "0 0 0", "0 0,1 0", -1},
		{"the last cast too short", "0 0 0,1", "0 0 0", -1},
		{"the last cast too long", "0 0 0", "0 0 0,1", -1},
		{"no cast at last", "0 0 0", "0 1 -", -1},
		{"a cast of nobody at first", "- 0", "0 0", -1},
		{"two casts that do not fit", "0,1 0", "0 0,1", -1},
		{"changes first, and then no cast", "0 0 0 0", "0 1 0 -", -1},
		{"the last of six", "0 0 0 0 0 0", "0 0 0 0 0 0,0", -1},
	} {
		if got := impl.CountChanges(moments(c.night), moments(c.casts)); got != c.want {
			t.Errorf("%s: CountChanges is %d, want %d", c.name, got, c.want)
		}
	}
}

// TestCountChangesByDefinition has nights and casts of all kinds, also such as
// are not valid.
func TestCountChangesByDefinition(t *testing.T) {
	next := fromChance(152)
	wrong := 0
	for range 4000 {
		count := next(9)
		night, casts := make([][]int, count), make([][]int, count)
		want := 0
		for m := range count {
			for range next(6) {
				night[m] = append(night[m], next(5)-1)
				casts[m] = append(casts[m], next(4)-1)
			}
			if m > 0 {
				want += pairsApart(night[m-1], casts[m-1], night[m], casts[m])
			}
		}
		if got := impl.CountChanges(night, casts); got != want {
			t.Errorf("CountChanges of %v by %v is %d, want %d", night, casts, got, want)
		}
		if got := impl.CountChanges(night, append(slices.Clone(casts), nil)); got != -1 {
			t.Errorf("CountChanges of %v is %d with a cast more", night, got)
		}
		for m := range count {
			longer := withMoment(casts, m, append(slices.Clone(casts[m]), 0)...)
			fitting := 0
			if count > 1 {
				fitting = -1
				wrong++
			}
			if got := impl.CountChanges(night, longer); got != fitting {
				t.Errorf("CountChanges of %v by %v is %d, want %d", night, longer, got, fitting)
			}
		}
	}
	if wrong < 3000 {
		t.Errorf("only %d casts do not fit", wrong)
	}
}

type knownBest struct {
	name   string
	text   string
	night  string
	casts  string
	fewest int
}

// knownBests have -1 changes where there is no casting for some moment.
func knownBests() []knownBest {
	all := "0,1,2,3,4,5,6/"
	return []knownBest{
		{"both have a hand", "0,1/1 1,2/2", "0,1 1,2", "0,1 1,1", 0},
		// One moment.
		{"one moment", "0,1/1 1,2/2", "1", "0", 0},
		{"one moment with two", "0,1/1 1,2/2", "0,1", "0,1", 0},
		{"one moment with nobody", "0,1/1 1,2/2", "-", "-", 0},
		{"one moment with four", all + "1 " + all + "1 " + all + "2", "0,2,4,6", "0,1,2,2", 0},
		{"one moment without a casting", "0,1/1 1,2/2", "3", "", -1},
		// Six moments.
		{"six moments with one", "0/1", "0 0 0 0 0 0", "0 0 0 0 0 0", 0},
		{"six moments with four", all + "2 " + all + "2", "0,1,2,3 0,1,2,3 0,1,2,3 0,1,2,3 0,1,2,3 0,1,2,3",
			"0,0,1,1 0,0,1,1 0,0,1,1 0,0,1,1 0,0,1,1 0,0,1,1", 0},
		{"six moments, there and back", "0,1/1 0,2/1", "0,1 0,2 0,1 0,2 0,1 0,2", "1,0 0,1 1,0 0,1 1,0 0,1", 5},
		// Moments without puppets.
		{"nobody first", "0,1/1 0/1", "- 0 0,1", "- 1 1,0", 0},
		{"nobody between the same puppets", "0/1 0/1", "0 - 0", "0 - 0", 0},
		{"nobody between different hands", "0,1/1 0,2/1", "0,1 - 0,2", "1,0 - 0,1", 0},
		{"the same without a moment between", "0,1/1 0,2/1", "0,1 0,2", "1,0 0,1", 1},
		{"a hand is not kept for later", "0,1/1 0/1", "0,1 - 0", "1,0 - 0", 0},
		{"but from a moment to the next one", "0,1/1 0/1", "0,1 0", "1,0 1", 0},
		{"nobody twice", "0,1/1 0,2/1", "0,1 - - 0,2", "1,0 - - 0,1", 0},
		{"nobody between pairs", "0,1/1 0,2/1", "0,1 0,2 - 0,1 0,2", "1,0 0,1 - 1,0 0,1", 2},
		{"nobody last", "0,1/1 0/1", "0 0,1 -", "1 1,0 -", 0},
		{"nobody at all", "0,1/1 0/1", "- - - - - -", "- - - - - -", 0},
		{"nobody at all, without hands", "-/0", "- -", "- -", 0},
		// Players without hands, who know nobody, one player and six players.
		{"only a player without hands", "0/0", "0 0", "", -1},
		{"only a player who knows nobody", "-/2", "0", "", -1},
		{"players who do not help", "-/2 0/0 0/1 0/0 -/2", "0 0", "2 2", 0},
		{"nobody without hands", "0/0 0/0", "-", "-", 0},
		{"one player with two hands", all + "2", "0,1 1,2 2,3 3,4 4,5 5,6", "0,0 0,0 0,0 0,0 0,0 0,0", 0},
		{"one player, and three puppets", all + "2", "0,1 0,1,2 1,2", "", -1},
		{"six players", "0,1/1 1,2/1 2,3/1 3,4/1 4,5/1 5,6/1", "0,1,2,3 3,4,5,6 1,2,3,4", "0,1,2,3 2,3,4,5 0,1,2,3", 1},
		{"the last of six", "0/0 0/0 0/0 0/0 0/0 0/1", "0 - 0", "5 - 5", 0},
		// Puppets stay, leave, come and come back.
		{"a puppet is there first", "0/1 0,1/1", "0 0,1", "0 0,1", 0},
		{"a puppet leaves", "0,1/1 0/1", "0,1 0", "1,0 1", 0},
		{"a puppet comes back", "0,1/1 0,2/1", "0,1 1 0,1", "1,0 0 1,0", 0},
		{"a puppet comes back to another hand", "0,1/1 0,2/1", "0,1 1 - 0,2 0", "1,0 0 - 0,1 0", 0},
		{"other puppets", "0,1,2/1 0,1,3/1", "0,2 1,3 0,2", "1,0 0,1 1,0", 0},
		// What is cheap now is dear later.
		{"the first casting does not last", "0,1/1 0/1", "0 0,1", "1 1,0", 0},
		{"nor at the moment before", "0,1/1 0/1", "0 0 0 0,1", "1 1 1 1,0", 0},
		{"one change is better than two later", "0,1/1 0,5/1 1,6/1", "0,5 0,1 0,1,6", "0,1 1,0 1,0,2", 1},
		{"and a later one is forced", "0,1/1 0,5/1 1,6/1", "0,5 0,1,6 0,1", "0,1 1,0,2 1,0", 1},
		{"first all is kept", "0,1/1 0,5/1 1,6/1", "0,5 0,1 0,1", "0,1 0,2 0,2", 0},
		// Several nights are best.
		{"whoever is first", "0/1 0/1 0/1", "0 0 0", "0 0 0", 0},
		{"one change as early as possible", "0,1/1 0,2/1", "0,1 0 0 0,2", "1,0 0 0 0,1", 1},
		{"one change as late as possible", "0,1/1 0,2/1", "0,2 0 0 0,1", "0,1 0 0 1,0", 1},
		{"either one of two changes", "0,1,2/1 0,1,2/1", "0,1 0,1 1", "0,1 0,1 1", 0},
		{"each one of three", "0,1/2 0,1/2 0,1/2", "0,1 0,1", "0,0 0,0", 0},
		{"a smaller one that is as good", "0/1 0,1/1 0,1/1", "1 0,1 0", "1 0,1 0", 0},
		// Some moment has no casting.
		{"none for the first moment", "0,1/1 1,2/2", "3 1 1", "", -1},
		{"none for the middle moment", "0,1/1 1,2/2", "1 3 1", "", -1},
		{"none for the last moment", "0,1/1 1,2/2", "1 1 3", "", -1},
		{"none beside nobody", "0,1/1 1,2/2", "- - 3 -", "", -1},
		{"too few hands at one moment", "0,1,2/1 0,1,2/1", "0,1 0,1,2 0,1", "", -1},
		{"none at all", "-/0", "0 1 2", "", -1},
		// Players or nights that are not valid.
		{"no players", "", "0", "", -1},
		{"no players, nobody on stage", "", "-", "", -1},
		{"seven players", "0/1 0/1 0/1 0/1 0/1 0/1 0/1", "0", "", -1},
		{"a player with three hands", "0/1 0/3", "0", "", -1},
		{"a player with a hand less than none", "0/1 0/-1", "-", "", -1},
		{"a player who knows what is no puppet", "0/1 7/1", "0", "", -1},
		{"no moments", "0/1", "", "", -1},
		{"seven moments", "0/1", "0 0 0 0 0 0 0", "", -1},
		{"five puppets", all + "2 " + all + "2 " + all + "2", "0,1,2,3,4", "", -1},
		{"puppets not ascending", "0,1/2", "0,1 1,0", "", -1},
		{"the same puppet twice", "0,1/2", "0,0 0", "", -1},
		{"a puppet of -1", "0,1/2", "0 -1 0", "", -1},
		{"a puppet of 7", "0,1/2", "0 0 7", "", -1},
	}
}

func TestFewestChangesAndBestNight(t *testing.T) {
	for _, c := range knownBests() {
		list, night := players(c.text), moments(c.night)
		if got := impl.FewestChanges(list, night); got != c.fewest {
			t.Errorf("%s: FewestChanges of %v is %d, want %d", c.name, night, got, c.fewest)
		}
		got, ok := impl.BestNight(list, night)
		if !equalPoses(got, moments(c.casts)) || ok != (c.fewest != -1) {
			t.Errorf("%s: BestNight of %v is %v and %v, want %v", c.name, night, got, ok, moments(c.casts))
		}
		if ok && impl.CountChanges(night, got) != c.fewest {
			t.Errorf("%s: CountChanges of %v is not %d", c.name, got, c.fewest)
		}
	}
}

// checkNight compares the results with the reference, and with each other. It
// returns the fewest changes.
func checkNight(t *testing.T, list []impl.Player, night [][]int) int {
	t.Helper()
	want, castable := bestChoice(list, night)
	if !castable {
		want.changes = -1
	}
	fewest := impl.FewestChanges(list, night)
	if fewest != want.changes {
		t.Errorf("%s: FewestChanges of %v is %d, want %d", playersText(list), night, fewest, want.changes)
	}
	best, ok := impl.BestNight(list, night)
	if !equalPoses(best, want.casts) || ok != castable {
		t.Errorf("%s: BestNight of %v is %v and %v, want %v", playersText(list), night, best, ok, want.casts)
	}
	if !ok {
		return fewest
	}
	if got := impl.CountChanges(night, best); got != fewest {
		t.Errorf("%s: CountChanges of the BestNight of %v is %d, want %d", playersText(list), night, got, fewest)
	}
	for m, puppets := range night {
		if !impl.IsCasting(list, puppets, best[m]) {
			t.Errorf("%s: BestNight of %v is %v, where %v is no casting", playersText(list), night, best, best[m])
		}
	}
	return fewest
}

// checkAllChoices tries all ways to choose castings, of which those before the
// best night have more changes, and the others no fewer. It returns how many
// others have as few.
func checkAllChoices(t *testing.T, list []impl.Player, night [][]int) int {
	t.Helper()
	best, ok := impl.BestNight(list, night)
	fewest := impl.FewestChanges(list, night)
	as := 0
	found := false
	forAllChoices(list, night, func(c choice) {
		got := impl.CountChanges(night, c.casts)
		if got != c.changes {
			t.Errorf("CountChanges of %v by %v is %d, want %d", night, c.casts, got, c.changes)
		}
		order := slices.CompareFunc(c.casts, best, slices.Compare[[]int])
		if !ok || got < fewest || got == fewest && order < 0 || got > fewest && order == 0 {
			t.Errorf("%s: BestNight of %v is %v with %d changes, but %v has %d", playersText(list), night, best, fewest, c.casts, got)
		}
		found = found || order == 0
		if got == fewest && order > 0 {
			as++
		}
	})
	if found != ok || ok != (fewest != -1) {
		t.Errorf("%s: BestNight of %v is %v and %v, which is none of the choices", playersText(list), night, best, ok)
	}
	return as
}

// TestNoNightHasFewerChanges checks promise 15 for all kinds of up to two
// players, and some of three, with all kinds of short nights.
func TestNoNightHasFewerChanges(t *testing.T) {
	var nights [][][]int
	subsets := subsetsOf(0, 6)
	for count := 1; count <= 3; count++ {
		forAllLists(count, 0, len(subsets)-1, func(numbers []int) {
			night := make([][]int, count)
			for m, n := range numbers {
				night[m] = subsets[n]
			}
			nights = append(nights, night)
		})
	}
	visited, none, several := 0, 0, 0
	forAllPlayers([]int{0, 6}, func(list []impl.Player) {
		for _, night := range nights {
			visited++
			if len(list) == 3 && visited%11 > 0 {
				continue
			}
			if checkNight(t, list, night) == -1 {
				none++
			}
			if checkAllChoices(t, list, night) > 0 {
				several++
			}
		}
	})
	if none < 5000 || several < 3000 {
		t.Errorf("only %d nights have no casting, and %d several best ones", none, several)
	}
}

// oneHandEach has players with one hand, who know a few puppets each.
func oneHandEach(next func(below int) int, count int) []impl.Player {
	few := slices.DeleteFunc(subsetsOf(sortedOrder(7)...), func(s []int) bool { return len(s) < 2 || len(s) > 4 })
	list := make([]impl.Player, count)
	for k := range list {
		list[k] = impl.Player{Knows: few[next(len(few))], Free: 1}
	}
	return list
}

// castableNight has puppets with a casting at each moment, as far as there are
// such, and as many as this of them at most moments.
func castableNight(next func(below int) int, list []impl.Player, count int, least int) [][]int {
	var night [][]int
	subsets := subsetsOf(sortedOrder(7)...)
	for range 60 {
		puppets := subsets[next(len(subsets))]
		if len(puppets) < least && next(20) > 0 || len(puppets) > 4 || len(castsOf(list, puppets)) == 0 {
			continue
		}
		if len(night) < count {
			night = append(night, puppets)
		}
	}
	return night
}

// forSomeNights visits players of all counts with nights of all lengths, of which
// many, but not all, have a casting for each moment. Where hands are few, puppets
// have to change.
func forSomeNights(visit func(list []impl.Player, night [][]int)) {
	next := fromChance(153)
	for i := range 4000 {
		list := chancePlayers(next, i%6+1, 2+next(2))
		night := chanceNight(next, 1+next(6))
		if i%3 > 0 {
			list = oneHandEach(next, 2+i%4)
			night = castableNight(next, list, 1+i/12%6, min(2+next(3), len(list)))
		}
		castings := 0
		for _, puppets := range night {
			castings = max(castings, len(castsOf(list, puppets)))
		}
		if len(night) > 0 && castings <= 60 {
			visit(list, night)
		}
	}
}

// TestNoLongNightHasFewerChanges checks promise 15 by chance for nights of all
// lengths, with up to four puppets at a moment and up to six players.
func TestNoLongNightHasFewerChanges(t *testing.T) {
	none, several, tried, changed, often, dear, long := 0, 0, 0, 0, 0, 0, 0
	forSomeNights(func(list []impl.Player, night [][]int) {
		fewest := checkNight(t, list, night)
		if fewest == -1 {
			none++
			return
		}
		if countChoices(list, night) <= 500 {
			tried++
			several += min(checkAllChoices(t, list, night), 1)
		}
		changed += min(fewest, 1)
		often += min(fewest/2, 1)
		if impl.CountChanges(night, cheapCastings(list, night)) > fewest {
			dear++
		}
		if len(night) == 6 {
			long++
		}
	})
	for what, count := range map[string]int{"have no casting": none, "have several best ones": several, "have few choices": tried, "have changes": changed,
		"have two changes": often, "are dear where each moment is cheap": dear, "have six moments": long} {
		if count < 100 {
			t.Errorf("only %d nights %s", count, what)
		}
	}
}

// cheapCastings has at each moment the first casting with the fewest changes
// from the moment before, as if there was none behind it.
func cheapCastings(list []impl.Player, night [][]int) [][]int {
	var c choice
	for _, puppets := range night {
		var cheap []choice
		for _, cast := range castsOf(list, puppets) {
			cheap = append(cheap, longerChoice(c, puppets, cast))
		}
		c = slices.MinFunc(cheap, betterChoice)
	}
	return c.casts
}

// TestNightsOfManyCastings has six players, of whom most can play all puppets.
func TestNightsOfManyCastings(t *testing.T) {
	able := ableAll(6)
	six := moments("0,1,2,3 0,1,2,3 0,1,2,3 0,1,2,3 0,1,2,3 0,1,2,3")
	first := []int{0, 0, 1, 1}
	best, ok := impl.BestNight(able, six)
	if fewest := impl.FewestChanges(able, six); fewest != 0 || !ok || !equalPoses(best, [][]int{first, first, first, first, first, first}) {
		t.Errorf("BestNight is %v and %v with %d changes", best, ok, fewest)
	}
	checkNight(t, able, moments("0,1,2,3 1,2,3,4"))
	checkNight(t, able, moments("3,4,5,6 - 0,2,4"))
	few := withKnows(withKnows(able, 0, 0, 1), 5, 2, 3)
	checkNight(t, withFree(few, 3, 1), moments("0,1,2,3 0,3,4,5"))
	lame := withFree(withFree(withFree(equalTo(6, 1, sortedOrder(7)...), 1, 0), 4, 0), 2, 2)
	checkNight(t, lame, moments("0,1,2,3 1,2,3,4 2,3,4,5 3,4,5,6 0,4,5,6 0,1,5,6"))
}

// TestMomentsWithoutPuppets puts a moment without puppets before, between and
// behind the moments: what was before it is not looked at any more.
func TestMomentsWithoutPuppets(t *testing.T) {
	saved := 0
	forSomeNights(func(list []impl.Player, night [][]int) {
		fewest := impl.FewestChanges(list, night)
		if len(night) == 6 || fewest == -1 {
			return
		}
		best, _ := impl.BestNight(list, night)
		for m := range len(night) + 1 {
			quiet := slices.Insert(copyOfNight(night), m, nil)
			want, casts := fewest, slices.Insert(slices.Clone(best), m, nil)
			if m > 0 && m < len(night) {
				before, _ := impl.BestNight(list, night[:m])
				behind, _ := impl.BestNight(list, night[m:])
				want = impl.FewestChanges(list, night[:m]) + impl.FewestChanges(list, night[m:])
				casts = slices.Concat(before, [][]int{nil}, behind)
			}
			if want < fewest {
				saved++
			}
			got, ok := impl.BestNight(list, quiet)
			if changes := impl.FewestChanges(list, quiet); changes != want || !ok || !equalPoses(got, casts) {
				t.Errorf("%s: BestNight of %v is %v with %d changes, want %v with %d", playersText(list), quiet, got, changes, casts, want)
			}
		}
	})
	if saved < 200 {
		t.Errorf("only %d moments without puppets save changes", saved)
	}
	for count := 1; count <= 6; count++ {
		quiet := make([][]int, count)
		for _, c := range validPlayers() {
			best, ok := impl.BestNight(c.list, quiet)
			if fewest := impl.FewestChanges(c.list, quiet); fewest != 0 || !ok || !equalPoses(best, quiet) {
				t.Errorf("%s: BestNight of %d moments without puppets is %v and %v with %d changes", c.name, count, best, ok, fewest)
			}
		}
	}
}

// TestNightsAreAlike turns the night and the players around, and makes each
// moment last longer.
func TestNightsAreAlike(t *testing.T) {
	forSomeNights(func(list []impl.Player, night [][]int) {
		fewest := impl.FewestChanges(list, night)
		around, backwards := copyOfPlayers(list), copyOfNight(night)
		slices.Reverse(around)
		slices.Reverse(backwards)
		for _, got := range []int{impl.FewestChanges(around, night), impl.FewestChanges(list, backwards), impl.FewestChanges(around, backwards)} {
			if got != fewest {
				t.Errorf("%s: FewestChanges of %v is %d, but %d if turned around", playersText(list), night, fewest, got)
			}
		}
		for m := range night {
			longer := slices.Insert(copyOfNight(night), m, night[m])
			if got := impl.FewestChanges(list, longer); len(night) < 6 && got != fewest {
				t.Errorf("%s: FewestChanges of %v is %d, but %d of %v", playersText(list), night, fewest, got, longer)
			}
		}
		if shorter := impl.FewestChanges(list, night[1:]); fewest != -1 && len(night) > 1 && (shorter == -1 || shorter > fewest) {
			t.Errorf("%s: FewestChanges of %v is %d, but %d without the first moment", playersText(list), night, fewest, shorter)
		}
	})
}

// checkNoNight checks the fixed results where there is no best night.
func checkNoNight(t *testing.T, name string, list []impl.Player, night [][]int) {
	t.Helper()
	if got := impl.FewestChanges(list, night); got != -1 {
		t.Errorf("%s: FewestChanges of %v is %d, want -1", name, night, got)
	}
	if got, ok := impl.BestNight(list, night); len(got) != 0 || ok {
		t.Errorf("%s: BestNight of %v is %v and %v", name, night, got, ok)
	}
}

// TestMomentsWithoutACasting puts puppets that cannot be cast at each moment of
// nights that can be.
func TestMomentsWithoutACasting(t *testing.T) {
	list := players("0,1,2/1 0,1,2/2 4/0")
	for _, night := range validNights() {
		if _, ok := impl.BestNight(list, night); !ok {
			checkNoNight(t, playersText(list), list, night)
			continue
		}
		for m := range night {
			for _, puppets := range [][]int{{3}, {4}, {0, 3}, {1, 2, 4}, {0, 1, 2, 3}, {3, 4, 5, 6}} {
				open := withMoment(night, m, puppets...)
				if !impl.NightOk(list, open) {
					t.Errorf("NightOk of %v is false", open)
				}
				checkNoNight(t, playersText(list), list, open)
			}
		}
	}
}

func TestNightsOfInvalidPlayers(t *testing.T) {
	for _, c := range invalidPlayers() {
		for _, night := range append(validNights(), nil, moments("7"), make([][]int, 7)) {
			checkNoNight(t, c.name, c.list, night)
		}
		for _, puppets := range append(strangePuppets(), subsetsOf(sortedOrder(5)...)...) {
			if got := impl.CastingsOf(c.list, puppets); len(got) != 0 {
				t.Errorf("%s: CastingsOf %v are %v", c.name, puppets, got)
			}
		}
	}
	for _, free := range numbersAround(0, 2) {
		for i := range 6 {
			list := withFree(ableAll(6), i, free)
			if free >= 0 && free <= 2 {
				checkCastings(t, list, []int{0, 6})
				checkNight(t, list, moments("0,1 1 -"))
				continue
			}
			checkNoNight(t, impl.FormatInt(free)+" hands", list, moments("0,1 1 -"))
			checkNoNight(t, impl.FormatInt(free)+" hands", list, moments("-"))
			if got := impl.CastingsOf(list, nil); len(got) != 0 {
				t.Errorf("with %d hands, CastingsOf no puppets are %v", free, got)
			}
		}
	}
	for count := 7; count < 20; count++ {
		checkNoNight(t, impl.FormatInt(count)+" players", equalTo(count, 1, 0), moments("0 0"))
		checkNoNight(t, impl.FormatInt(count)+" players", equalTo(count, 0), moments("-"))
	}
}

func TestStrangeNights(t *testing.T) {
	for _, c := range append(validPlayers(), invalidPlayers()...) {
		for _, n := range strangeNights() {
			checkNoNight(t, c.name+", "+n.name, c.list, n.night)
		}
		for _, puppets := range append(strangePuppets(), sortedOrder(5), sortedOrder(6), sortedOrder(7), counted(5, 2, 1)) {
			if got := impl.CastingsOf(c.list, puppets); len(got) != 0 {
				t.Errorf("%s: CastingsOf %v are %v", c.name, puppets, got)
			}
		}
	}
	list := ableAll(3)
	forManyPuppets(func(puppets []int) {
		if isMoment(puppets) {
			checkCastings(t, list, puppets)
		} else if got := impl.CastingsOf(list, puppets); len(got) != 0 {
			t.Errorf("CastingsOf %v are %v", puppets, got)
		}
		for m := range 3 {
			night := withMoment(moments("0,1 - 6"), m, puppets...)
			if isMoment(puppets) {
				checkNight(t, list, night)
			} else {
				checkNoNight(t, playersText(list), list, night)
			}
		}
	})
}

// TestNightsForInvalidKnows has lists of Knows of all kinds for one player.
func TestNightsForInvalidKnows(t *testing.T) {
	for count := range 4 {
		forAllLists(count, -1, 7, func(knows []int) {
			list := withKnows(players("0/1 -/2 5,6/2"), 1, knows...)
			for _, night := range [][][]int{moments("0 -"), moments("0,5 5,6")} {
				if isRising(knows, 7) {
					checkNight(t, list, night)
				} else {
					checkNoNight(t, playersText(list), list, night)
				}
			}
			if got := impl.CastingsOf(list, []int{5}); (len(got) > 0) != isRising(knows, 7) {
				t.Errorf("%s: CastingsOf the puppet 5 are %v", playersText(list), got)
			}
		})
	}
}

// roomyNight is the night with spare capacity behind it and behind each of its
// moments, and all of it.
func roomyNight(night [][]int) ([][]int, [][]int) {
	all := append(slices.Clone(night), []int{70, 71}, []int{72})
	for m, puppets := range all {
		all[m], _ = roomyList(puppets)
	}
	return all[:len(night)], all
}

// wholeNight has all that is behind the end of the moments.
func wholeNight(night [][]int) [][]int {
	whole := slices.Clone(night)
	for m, puppets := range night {
		whole[m] = puppets[:cap(puppets)]
	}
	return whole
}

// watchedNight has a roomy night, and a check that tells who has changed it or
// what is behind it.
func watchedNight(t *testing.T, night [][]int) ([][]int, func(by string)) {
	watched, all := roomyNight(night)
	want := copyOfNight(wholeNight(all))
	lengths := make([]int, len(all))
	for m, puppets := range all {
		lengths[m] = len(puppets)
	}
	return watched, func(by string) {
		t.Helper()
		if got := wholeNight(all); !equalPoses(got, want) {
			t.Fatalf("%s changes %v to %v", by, want, got)
		}
		for m, puppets := range all {
			if len(puppets) != lengths[m] {
				t.Fatalf("%s changes the length of %v", by, puppets)
			}
		}
	}
}

// forEachNight visits valid and invalid players, with nights of all kinds and
// casts for them, right and wrong ones.
func forEachNight(visit func(name string, list []impl.Player, night [][]int, casts [][]int)) {
	strange := strangeNights()
	for i, c := range append(validPlayers(), invalidPlayers()...) {
		if len(c.list) > 3 && i%5 > 0 {
			continue
		}
		for k, night := range validNights() {
			if (i+k)%5 > 0 {
				continue
			}
			casts, _ := impl.BestNight(c.list, night)
			if k%4 == 0 {
				casts = night
			}
			visit(c.name, c.list, night, casts)
		}
		n := strange[i%len(strange)]
		visit(c.name+", "+n.name, c.list, n.night, n.night)
		visit(c.name, c.list, nil, nil)
	}
}

func TestNightArgumentsAreLeftUnchanged(t *testing.T) {
	forEachNight(func(name string, players []impl.Player, moments [][]int, chosen [][]int) {
		list, checkList := watchedPlayers(t, players)
		night, checkMoments := watchedNight(t, moments)
		casts, checkCasts := watchedNight(t, chosen)
		check := func(by string) {
			t.Helper()
			checkList(name + ": " + by)
			checkMoments(name + ": " + by)
			checkCasts(name + ": " + by)
		}
		impl.NightOk(list, night)
		check("NightOk")
		impl.FewestChanges(list, night)
		check("FewestChanges")
		impl.BestNight(list, night)
		check("BestNight")
		impl.CountChanges(night, casts)
		check("CountChanges")
		// The same list as both.
		impl.CountChanges(night, night)
		check("CountChanges of a night by itself")
		for m := range min(len(night), len(casts), 7) {
			impl.CastingsOf(list, night[m])
			check("CastingsOf")
			impl.ChangesBetween(night[0], casts[0], night[m], casts[m])
			check("ChangesBetween")
			impl.ChangesBetween(night[m], night[m], night[m], night[m])
			check("ChangesBetween of the same list")
		}
		if len(list) > 0 {
			knows := list[0].Knows
			impl.CastingsOf(list, knows)
			impl.BestNight(list, [][]int{knows, knows})
			check("a call with Knows as puppets")
		}
	})
}

// nightsOf are all lists in the results of the chapter.
func nightsOf(list []impl.Player, night [][]int) [][]int {
	rows, _ := impl.BestNight(list, night)
	for _, puppets := range night {
		rows = append(rows, impl.CastingsOf(list, puppets)...)
	}
	return rows
}

// TestCastingsAreNewMemory changes one of two results of the same call, also
// behind its end, and looks at the arguments and at the other one.
func TestCastingsAreNewMemory(t *testing.T) {
	forEachNight(func(name string, players []impl.Player, moments [][]int, _ [][]int) {
		list, checkList := watchedPlayers(t, players)
		night, checkMoments := watchedNight(t, moments)
		want, got := nightsOf(players, moments), nightsOf(list, night)
		overwritePoses(nightsOf(list, night))
		checkList(name + ": a change of a result")
		checkMoments(name + ": a change of a result")
		if again := nightsOf(list, night); !equalPoses(got, want) || !equalPoses(again, want) {
			t.Errorf("%s: a change of one result changes another one to %v or %v, want %v", name, got, again, want)
		}
	})
}

// TestCastingsAreKeptApart changes the arguments behind the calls, and each list
// of a result, also behind its end.
func TestCastingsAreKeptApart(t *testing.T) {
	forEachNight(func(name string, players []impl.Player, moments [][]int, _ [][]int) {
		list, _ := roomyPlayers(players)
		night, _ := roomyNight(moments)
		got := nightsOf(list, night)
		for _, changed := range wholePlayers(list) {
			overwritePoses([][]int{changed.Knows})
		}
		clear(list)
		overwritePoses(night)
		clear(night)
		if want := nightsOf(players, moments); !equalPoses(got, want) {
			t.Errorf("%s: behind a change of the arguments, the lists are %v, want %v", name, got, want)
		}
	})
	for _, text := range []string{"0,1,2,3 0,1,2,3", "0 0 0 0 0 0", "- - -", "0,1 - 0,1", "0,1,2 1,2,3 2,3"} {
		for _, list := range [][]impl.Player{ableAll(2), players("0,1,2/2 1,2,3/1 0,3/1")} {
			checkKeptApart(t, "BestNight of "+text, func() [][]int {
				best, _ := impl.BestNight(list, moments(text))
				return best
			})
			checkKeptApart(t, "CastingsOf the first moment of "+text, func() [][]int { return impl.CastingsOf(list, moments(text)[0]) })
		}
	}
	checkKeptApart(t, "CastingsOf many players", func() [][]int { return impl.CastingsOf(ableAll(5), []int{1, 3, 5}) })
	// A list that is made longer does not reach into the next one.
	casts := impl.CastingsOf(ableAll(3), []int{1, 3, 5})
	want := copyOfNight(casts)
	for i := range casts {
		_ = append(casts[i], 90, 91, 92)
	}
	if !equalPoses(casts, want) {
		t.Errorf("behind appending to each of them, CastingsOf are %v, want %v", casts, want)
	}
}

// TestNightResultsAreRepeated calls each function again, as the result of a call
// depends only on its arguments.
func TestNightResultsAreRepeated(t *testing.T) {
	results := func(list []impl.Player, night [][]int, casts [][]int) [][]int {
		numbers := []int{impl.FewestChanges(list, night), impl.CountChanges(night, casts)}
		_, ok := impl.BestNight(list, night)
		if impl.NightOk(list, night) {
			numbers = append(numbers, 2)
		}
		if ok {
			numbers = append(numbers, 3)
		}
		for m := range min(len(night), len(casts), 7) {
			numbers = append(numbers, impl.ChangesBetween(night[0], casts[0], night[m], casts[m]))
		}
		return append(nightsOf(list, night), numbers)
	}
	forEachNight(func(name string, list []impl.Player, night [][]int, casts [][]int) {
		want := results(list, night, casts)
		for range 2 {
			if got := results(list, night, casts); !equalPoses(got, want) {
				t.Errorf("%s: the results of %v are %v and then %v", name, night, want, got)
			}
		}
	})
}
