package tests

import (
	"math"
	"slices"
	"strings"
	"testing"

	"loop.example/g03306/impl"
)

// players reads one player from each field: the numbers of Knows with commas
// between them, or a dash for none, and behind a slash the Free hands.
func players(text string) []impl.Player {
	var list []impl.Player
	for _, field := range strings.Fields(text) {
		knows, free, _ := strings.Cut(field, "/")
		list = append(list, impl.Player{Knows: numbersIn(knows), Free: numbersIn(free)[0]})
	}
	return list
}

// playersText is what players reads.
func playersText(list []impl.Player) string {
	fields := make([]string, len(list))
	for i, p := range list {
		fields[i] = afterText([]impl.Cue{{After: p.Knows}}) + "/" + impl.FormatInt(p.Free)
	}
	return strings.Join(fields, " ")
}

// equalTo are as many players who know the same puppets and have the same hands.
func equalTo(count int, free int, knows ...int) []impl.Player {
	list := make([]impl.Player, count)
	for i := range list {
		list[i] = impl.Player{Knows: slices.Clone(knows), Free: free}
	}
	return list
}

// ableAll are players with two hands each who know all puppets.
func ableAll(count int) []impl.Player {
	return equalTo(count, 2, sortedOrder(7)...)
}

func copyOfPlayers(list []impl.Player) []impl.Player {
	copied := slices.Clone(list)
	for i, p := range list {
		copied[i].Knows = slices.Clone(p.Knows)
	}
	return copied
}

// withKnows has another list of Knows for one player.
func withKnows(list []impl.Player, i int, knows ...int) []impl.Player {
	changed := copyOfPlayers(list)
	changed[i].Knows = knows
	return changed
}

// withFree has another number of hands for one player.
func withFree(list []impl.Player, i int, free int) []impl.Player {
	changed := copyOfPlayers(list)
	changed[i].Free = free
	return changed
}

// chancePlayers have hands and know puppets of all kinds: one puppet of a number
// of times is not known.
func chancePlayers(next func(below int) int, count int, times int) []impl.Player {
	list := make([]impl.Player, count)
	for i := range list {
		list[i].Free = next(3)
		for puppet := range 7 {
			if next(times) > 0 {
				list[i].Knows = append(list[i].Knows, puppet)
			}
		}
	}
	return list
}

// subsetsOf are all lists of some of the numbers, in the same order.
func subsetsOf(numbers ...int) [][]int {
	subsets := [][]int{nil}
	for _, n := range numbers {
		for _, s := range subsets {
			subsets = append(subsets, append(slices.Clone(s), n))
		}
	}
	return subsets
}

type namedPlayers struct {
	name string
	list []impl.Player
}

// validPlayers have all counts of players, of hands and of puppets that are
// known.
func validPlayers() []namedPlayers {
	lists := []namedPlayers{
		{"one player", players("0,1/2")},
		{"one player without hands", players("0,1,2,3,4,5,6/0")},
		{"one player without hands who knows nothing", players("-/0")},
		{"one player who knows nothing", players("-/2")},
		{"one player who knows all", players("0,1,2,3,4,5,6/2")},
		{"one player with one hand", players("6/1")},
		{"two players", players("0,1/1 1,2/2")},
		{"two players without hands", players("0,1/0 1,2/0")},
		{"the first one without hands", players("0,1,2/0 1,2/2")},
		{"the last one without hands", players("1,2/2 0,1,2/0")},
		{"the middle one without hands", players("0,1/1 0,1,2/0 1,2/1")},
		{"nobody knows the puppet 3", players("0,1,2/2 4,5,6/2 0,6/2")},
		{"only a player without hands knows the puppet 3", players("0,1,2/2 3/0 4,5,6/2")},
		{"the first one and the last one alone", players("0/1 0,1,2,3,4,5,6/0 -/2 6/1")},
		{"each one knows another puppet", players("5/1 4/1 3/2 2/1 1/2 0/1")},
	}
	next := fromChance(13)
	for count := 1; count <= 6; count++ {
		name := impl.FormatInt(count) + " players "
		lists = append(lists, namedPlayers{name + "who know all", ableAll(count)})
		lists = append(lists, namedPlayers{name + "with one hand who know all", equalTo(count, 1, sortedOrder(7)...)})
		lists = append(lists, namedPlayers{name + "without hands who know all", equalTo(count, 0, sortedOrder(7)...)})
		lists = append(lists, namedPlayers{name + "who know nothing", equalTo(count, 2)})
		lists = append(lists, namedPlayers{name + "without anything", equalTo(count, 0)})
		for i := range 20 {
			lists = append(lists, namedPlayers{name + "by chance", chancePlayers(next, count, i%4+2)})
		}
	}
	return lists
}

func invalidPlayers() []namedPlayers {
	lists := []namedPlayers{
		{"no players", nil},
		{"no players, an empty list", []impl.Player{}},
		{"seven players", ableAll(7)},
		{"seven players without hands", equalTo(7, 0)},
		{"eight players", ableAll(8)},
		{"many players", ableAll(10000)},
		{"Knows twice the same", players("0,1/2 3,3/2")},
		{"Knows of 0 twice", players("0,0/2 0,1/2")},
		{"Knows not ascending", players("0,1/2 2,1/2")},
		{"Knows at last not ascending", players("0,1,3,2/2 0,1/2")},
		{"Knows twice the same at last", players("0,1,3,3/2 0,1/2")},
		{"Knows at -1 and 0", players("-1,0/2 0,1/2")},
		{"Knows at 6 and 7", players("0,1/2 0,1/2 6,7/2")},
		{"Knows from 0 to 7", players("0,1,2,3,4,5,6,7/2")},
		{"Knows of many numbers", withKnows(ableAll(3), 1, sortedOrder(10000)...)},
		{"Knows of many equal numbers", withKnows(ableAll(3), 1, make([]int, 10000)...)},
		{"-1 hands of the only player", players("0/-1")},
		{"3 hands of the only player", players("0/3")},
		{"hands of -1 and of 3", players("0/-1 1/3 2/2")},
	}
	for i := range 3 {
		for _, free := range []int{math.MinInt, -1, 3, 4, math.MaxInt} {
			name := impl.FormatInt(free) + " hands of player " + impl.FormatInt(i)
			lists = append(lists, namedPlayers{name, withFree(ableAll(3), i, free)})
		}
		for _, n := range []int{math.MinInt, -1, 7, 8, math.MaxInt} {
			name := impl.FormatInt(n) + " in Knows of player " + impl.FormatInt(i)
			lists = append(lists, namedPlayers{name, withKnows(ableAll(3), i, n)})
		}
	}
	return lists
}

// strangePuppets are lists of puppets that are not valid.
func strangePuppets() [][]int {
	return [][]int{{-1}, {7}, {-1, 0}, {0, -1}, {6, 7}, {0, 0}, {6, 6}, {1, 0}, {0, 2, 1}, {0, 1, 1}, {math.MinInt}, {math.MaxInt},
		{0, math.MaxInt}, {math.MinInt, 0}, sortedOrder(8), reversedOrder(7), counted(7, 1, 1), make([]int, 10000), sortedOrder(10000)}
}

// forManyPuppets visits lists of all kinds, strictly ascending ones and others, of
// numbers that are puppets and of others.
func forManyPuppets(visit func(puppets []int)) {
	for count := range 4 {
		forAllLists(count, -1, 7, visit)
	}
	for _, n := range numbersAround(0, 6) {
		for _, puppets := range [][]int{{n}, {n, 6}, {0, n}, {0, 3, n}} {
			visit(puppets)
		}
	}
	for _, puppets := range subsetsOf(sortedOrder(8)...) {
		visit(puppets)
	}
}

// castFits counts, for each player, its puppets.
func castFits(list []impl.Player, puppets []int, cast []int) bool {
	if len(cast) != len(puppets) {
		return false
	}
	fitting := 0
	for i, p := range list {
		load := 0
		for place, k := range cast {
			if k == i {
				load++
			}
			if k == i && slices.Contains(p.Knows, puppets[place]) {
				fitting++
			}
		}
		if load > p.Free {
			return false
		}
	}
	return fitting == len(puppets)
}

// castsOf are all casts that fit, in lexicographic order: each cast of the
// puppets before is made longer by each player.
func castsOf(list []impl.Player, puppets []int) [][]int {
	casts := [][]int{nil}
	for i := range puppets {
		var longer [][]int
		for _, cast := range casts {
			for k := range list {
				if next := append(slices.Clone(cast), k); castFits(list, puppets[:i+1], next) {
					longer = append(longer, next)
				}
			}
		}
		casts = longer
	}
	return casts
}

func TestHandConstants(t *testing.T) {
	if impl.MaxPlayers != 6 {
		t.Errorf("MaxPlayers is %d, want 6", impl.MaxPlayers)
	}
}

func TestPlayersOk(t *testing.T) {
	for _, c := range validPlayers() {
		if !impl.PlayersOk(c.list) {
			t.Errorf("%s: PlayersOk of %s is false", c.name, playersText(c.list))
		}
	}
	for _, c := range invalidPlayers() {
		if impl.PlayersOk(c.list) {
			t.Errorf("%s: PlayersOk is true", c.name)
		}
	}
	for count := range 30 {
		for free := range 3 {
			if got := impl.PlayersOk(equalTo(count, free, 2, 5)); got != (count >= 1 && count <= 6) {
				t.Errorf("PlayersOk of %d players with %d hands is %v", count, free, got)
			}
		}
	}
}

func TestPlayersOkFree(t *testing.T) {
	for _, free := range numbersAround(0, 2) {
		for count := 1; count <= 6; count++ {
			for i := range count {
				list := withFree(ableAll(count), i, free)
				if got := impl.PlayersOk(list); got != (free == 0 || free == 1 || free == 2) {
					t.Errorf("PlayersOk is %v with %d hands of player %d of %d", got, free, i, count)
				}
			}
		}
	}
}

func TestPlayersOkKnows(t *testing.T) {
	forManyPuppets(func(knows []int) {
		for i := range 3 {
			list := withKnows(players("0/1 -/0 5,6/2"), i, knows...)
			if got := impl.PlayersOk(list); got != isRising(knows, 7) {
				t.Errorf("PlayersOk of %s is %v", playersText(list), got)
			}
		}
	})
}

func TestHandsFree(t *testing.T) {
	for _, c := range []struct {
		text string
		want int
	}{
		{"0,1/1 1,2/2", 3},
		{"-/0", 0},
		{"0/0", 0},
		{"0/1", 1},
		{"0/2", 2},
		{"-/2", 2},
		{"0/0 1/0 2/0", 0},
		{"0/0 1/2 2/0", 2},
		{"0/2 0/2 0/2", 6},
		{"0/2 1/1 2/0 3/1 4/2 5/0", 6},
		{"0/1 1/1 2/1 3/1 4/1 5/1", 6},
		{"-/2 -/2 -/2 -/2 -/2 -/2", 12},
		{"-/0 -/0 -/0 -/0 -/0 -/0", 0},
		{"", -1},
		{"0/2 1/3", -1},
		{"0/2 1/-1", -1},
		{"0,0/2", -1},
		{"-/0 -/0 -/0 -/0 -/0 -/0 -/0", -1},
	} {
		if got := impl.HandsFree(players(c.text)); got != c.want {
			t.Errorf("HandsFree of %q is %d, want %d", c.text, got, c.want)
		}
	}
	forAllLists(4, 0, 2, func(free []int) {
		list := players("0/0 -/0 1,2/0 6/0")
		for i := range list {
			list[i].Free = free[i]
		}
		if got := impl.HandsFree(list); got != sumOf(free) {
			t.Errorf("HandsFree of %v hands is %d", free, got)
		}
	})
}

func TestWhoKnows(t *testing.T) {
	for _, c := range []struct {
		text   string
		puppet int
		want   []int
	}{
		{"0,1/1 1,2/2", 0, []int{0}},
		{"0,1/1 1,2/2", 1, []int{0, 1}},
		{"0,1/1 1,2/2", 2, []int{1}},
		{"0,1/1 1,2/2", 3, nil},
		{"-/2", 0, nil},
		{"0,1,2,3,4,5,6/2", 0, []int{0}},
		{"0,1,2,3,4,5,6/2", 6, []int{0}},
		{"0/2", 6, nil},
		{"6/2", 0, nil},
		// Players without hands know puppets too.
		{"3/0", 3, []int{0}},
		{"3/0 3/0 2/2", 3, []int{0, 1}},
		{"2/2 3/2 3/0", 3, []int{1, 2}},
		{"5/1 -/1 5/1 4/1 5/1 -/1", 5, []int{0, 2, 4}},
		{"-/1 5/1 4/1 5/1 -/1 5/1", 5, []int{1, 3, 5}},
		{"2/2 2/2 2/2 2/2 2/2 2/2", 2, []int{0, 1, 2, 3, 4, 5}},
		{"0,3,6/1 1,3,5/1 2,3,4/1", 3, []int{0, 1, 2}},
		{"0,3,6/1 1,3,5/1 2,3,4/1", 4, []int{2}},
		// There are no such puppets.
		{"0,1,2,3,4,5,6/2", -1, nil},
		{"0,1,2,3,4,5,6/2", 7, nil},
		{"0,1,2,3,4,5,6/2 -/0", math.MaxInt, nil},
		{"0,1,2,3,4,5,6/2 -/0", math.MinInt, nil},
		// The players are not valid.
		{"", 0, nil},
		{"0/3", 0, nil},
		{"0/2 0/-1", 0, nil},
		{"0/2 0,0/2", 0, nil},
		{"0/2 0,7/2", 0, nil},
		{"-1/2", -1, nil},
		{"7/2", 7, nil},
		{"0/2 0/2 0/2 0/2 0/2 0/2 0/2", 0, nil},
	} {
		if got := impl.WhoKnows(players(c.text), c.puppet); !slices.Equal(got, c.want) {
			t.Errorf("%q: WhoKnows %d is %v, want %v", c.text, c.puppet, got, c.want)
		}
	}
}

func TestWhoKnowsByDefinition(t *testing.T) {
	for _, c := range validPlayers() {
		known := 0
		for _, puppet := range numbersAround(0, 6) {
			var want []int
			for i, p := range c.list {
				if slices.Contains(p.Knows, puppet) {
					want = append(want, i)
				}
			}
			got := impl.WhoKnows(c.list, puppet)
			if !slices.Equal(got, want) {
				t.Errorf("%s: WhoKnows %d is %v, want %v", playersText(c.list), puppet, got, want)
			}
			known += len(got)
		}
		for _, p := range c.list {
			known -= len(p.Knows)
		}
		if known != 0 {
			t.Errorf("%s: WhoKnows has %d players more than there are numbers in Knows", playersText(c.list), known)
		}
	}
}

func TestIsCasting(t *testing.T) {
	two := players("0,1/1 1,2/2")
	six := players("5/1 4/1 3/2 2/1 1/2 0/1")
	for _, c := range []struct {
		name    string
		list    []impl.Player
		puppets []int
		cast    []int
		want    bool
	}{
		{"each one has a hand", two, []int{0, 1, 2}, []int{0, 1, 1}, true},
		{"fewer puppets than hands", two, []int{1}, []int{0}, true},
		{"the other hand", two, []int{1}, []int{1}, true},
		{"two hands of one player", two, []int{1, 2}, []int{1, 1}, true},
		{"one hand of each", two, []int{1, 2}, []int{0, 1}, true},
		{"two puppets for one hand", two, []int{0, 1}, []int{0, 0}, false},
		{"two puppets for one hand, and one for two", two, []int{0, 1, 2}, []int{0, 0, 1}, false},
		{"the first one is not known", two, []int{0, 1}, []int{1, 1}, false},
		{"the last one is not known", two, []int{1, 2}, []int{1, 0}, false},
		{"known by the other one each", two, []int{0, 2}, []int{1, 0}, false},
		{"nobody knows it", two, []int{3}, []int{0}, false},
		{"nobody knows one of them", two, []int{1, 3}, []int{0, 1}, false},
		{"no puppets", two, nil, nil, true},
		{"no puppets, empty lists", two, []int{}, []int{}, true},
		{"no puppets, but a cast", two, nil, []int{0}, false},
		{"no cast", two, []int{1}, nil, false},
		{"too short", two, []int{0, 1, 2}, []int{0, 1}, false},
		{"too short by two", two, []int{0, 1, 2}, []int{0}, false},
		{"too long", two, []int{0, 1}, []int{0, 1, 1}, false},
		{"too long by what is known", two, []int{1}, []int{0, 1}, false},
		{"far too long", two, []int{1}, make([]int, 10000), false},
		{"an index of -1", two, []int{1}, []int{-1}, false},
		{"an index past the last player", two, []int{1}, []int{2}, false},
		{"an index of 5 and two players", two, []int{1}, []int{5}, false},
		{"an index of 6", two, []int{1}, []int{6}, false},
		{"the least index", two, []int{1}, []int{math.MinInt}, false},
		{"the greatest index", two, []int{1}, []int{math.MaxInt}, false},
		{"an index of -1 at last", two, []int{0, 1, 2}, []int{0, 1, -1}, false},
		{"an index past the last player at first", two, []int{0, 1, 2}, []int{2, 0, 1}, false},
		{"six players", six, []int{0, 1, 2, 3, 4, 5}, []int{5, 4, 3, 2, 1, 0}, true},
		{"six players, two changed", six, []int{0, 1, 2, 3, 4, 5}, []int{5, 4, 2, 3, 1, 0}, false},
		{"six players, with an index of 6", six, []int{0, 1}, []int{6, 4}, false},
		{"six players, with an index of -1", six, []int{0, 1}, []int{5, -1}, false},
		{"two hands for two", ableAll(1), []int{0, 6}, []int{0, 0}, true},
		{"two hands for three", ableAll(1), []int{0, 3, 6}, []int{0, 0, 0}, false},
		{"one hand for one", equalTo(1, 1, 4), []int{4}, []int{0}, true},
		{"one hand for two", equalTo(1, 1, 4, 5), []int{4, 5}, []int{0, 0}, false},
		{"no hand for one", equalTo(1, 0, 4), []int{4}, []int{0}, false},
		{"no hand for none", equalTo(1, 0, 4), nil, nil, true},
		{"only players without hands, none", equalTo(6, 0, 4), nil, nil, true},
		{"only players without hands, one", equalTo(6, 0, 4), []int{4}, []int{5}, false},
		{"a player without hands", players("4/0 4/1"), []int{4}, []int{0}, false},
		{"beside a player without hands", players("4/0 4/1"), []int{4}, []int{1}, true},
		{"all hands but one", ableAll(4), sortedOrder(7), []int{3, 3, 0, 1, 1, 2, 0}, true},
		{"three hands of the last one", ableAll(4), sortedOrder(7), []int{3, 3, 0, 1, 1, 2, 3}, false},
		{"three hands of the first one", ableAll(4), sortedOrder(7), []int{0, 0, 0, 1, 1, 2, 3}, false},
		{"three hands of one between", ableAll(4), sortedOrder(7), []int{0, 1, 2, 0, 1, 3, 1}, false},
		{"all puppets of one player", ableAll(6), sortedOrder(7), make([]int, 7), false},
		{"not a puppet, but each knows all", ableAll(6), []int{7}, []int{0}, false},
		{"puppets from 0 to 7", ableAll(6), sortedOrder(8), []int{0, 0, 1, 1, 2, 2, 3, 3}, false},
		{"the same puppet twice", ableAll(2), []int{3, 3}, []int{0, 1}, false},
		{"puppets not ascending", ableAll(2), []int{4, 3}, []int{0, 1}, false},
		{"a puppet of -1", ableAll(2), []int{-1}, []int{0}, false},
		{"a player knows what is not a puppet", players("7/2"), []int{7}, []int{0}, false},
		{"a player has three hands", withFree(ableAll(2), 1, 3), []int{0}, []int{0}, false},
		{"a player has -1 hands", withFree(ableAll(2), 1, -1), []int{0}, []int{0}, false},
		{"seven players", ableAll(7), []int{0}, []int{6}, false},
		{"no players", nil, nil, nil, false},
	} {
		if got := impl.IsCasting(c.list, c.puppets, c.cast); got != c.want {
			t.Errorf("%s: IsCasting of %v and %v is %v", c.name, c.puppets, c.cast, got)
		}
	}
}

// TestIsCastingByDefinition tries all casts of short lists, with indices below 0
// and past the last player.
func TestIsCastingByDefinition(t *testing.T) {
	castings := 0
	for _, c := range validPlayers() {
		for _, puppets := range [][]int{nil, {0}, {3}, {6}, {0, 1}, {2, 6}, {1, 3}, {0, 3, 6}} {
			if len(puppets) == 3 && len(c.list) > 4 {
				continue
			}
			forAllLists(len(puppets), -1, len(c.list), func(cast []int) {
				want := castFits(c.list, puppets, cast)
				if got := impl.IsCasting(c.list, puppets, cast); got != want {
					t.Errorf("%s: IsCasting of %v and %v is %v", playersText(c.list), puppets, cast, got)
				}
				if want {
					castings++
				}
				if impl.IsCasting(c.list, puppets, append(cast, 0)) {
					t.Errorf("%s: IsCasting of %v and %v, with 0 behind, is true", playersText(c.list), puppets, cast)
				}
			})
		}
	}
	if castings < 2000 {
		t.Errorf("there are only %d castings", castings)
	}
}

// TestCastsOfOneMore gives each player in turn one puppet more than its hands.
func TestCastsOfOneMore(t *testing.T) {
	for free := range 3 {
		for k := range 6 {
			list := withFree(ableAll(6), k, free)
			cast := slices.Repeat([]int{k}, free)
			if !impl.IsCasting(list, sortedOrder(free), cast) {
				t.Errorf("IsCasting of %d puppets for %d hands of player %d is false", free, free, k)
			}
			if impl.IsCasting(list, sortedOrder(free+1), append(cast, k)) {
				t.Errorf("IsCasting of %d puppets for %d hands of player %d is true", free+1, free, k)
			}
		}
	}
}

func TestFirstCasting(t *testing.T) {
	for _, c := range []struct {
		text    string
		puppets []int
		want    []int
		ok      bool
	}{
		{"0,1/1 1,2/2", []int{0, 1, 2}, []int{0, 1, 1}, true},
		{"0,1/1 1,2/2", []int{1}, []int{0}, true},
		{"0,1/1 1,2/2", []int{1, 2}, []int{0, 1}, true},
		{"0,1/1 1,2/2", []int{2}, []int{1}, true},
		{"0,1/1 1,2/2", []int{3}, nil, false},
		{"0,1/1 1,2/2", []int{0, 3}, nil, false},
		// No puppets.
		{"0,1/1 1,2/2", nil, nil, true},
		{"-/0", nil, nil, true},
		{"0/0 1/0", []int{}, nil, true},
		{"-/2 -/2", nil, nil, true},
		// Players without hands.
		{"4/0", []int{4}, nil, false},
		{"4/0 4/0 4/0", []int{4}, nil, false},
		{"4/0 4/1", []int{4}, []int{1}, true},
		{"4/1 4/0", []int{4}, []int{0}, true},
		{"3,4/0 4/2", []int{3, 4}, nil, false},
		{"3,4/0 4/2", []int{4}, []int{1}, true},
		// Players who know nothing or all.
		{"-/2", []int{0}, nil, false},
		{"-/2 0/1", []int{0}, []int{1}, true},
		{"0,1,2,3,4,5,6/2", []int{2, 5}, []int{0, 0}, true},
		{"0,1,2,3,4,5,6/2", []int{2, 4, 5}, nil, false},
		{"0,1,2,3,4,5,6/1", []int{6}, []int{0}, true},
		{"0,1,2,3,4,5,6/1", []int{5, 6}, nil, false},
		// Every hand that there is, and one puppet more.
		{"0,1,2,3/2 2,3,4/1 0,4/1", []int{0, 1, 2, 4}, []int{0, 0, 1, 2}, true},
		{"0,1,2,3/2 2,3,4/1 0,4/1", []int{1, 2, 3, 4}, []int{0, 0, 1, 2}, true},
		{"0,1,2,3/2 2,3,4/1 0,4/1", []int{0, 1, 2, 3}, []int{2, 0, 0, 1}, true},
		{"0,1,2,3/2 2,3,4/1 0,4/1", []int{0, 1, 2, 3, 4}, nil, false},
		{"0,1,2,3,4,5,6/2 0,1,2,3,4,5,6/2 0,1,2,3,4,5,6/2", []int{0, 1, 2, 3, 4, 5}, []int{0, 0, 1, 1, 2, 2}, true},
		{"0,1,2,3,4,5,6/2 0,1,2,3,4,5,6/2 0,1,2,3,4,5,6/2", []int{0, 1, 2, 3, 4, 5, 6}, nil, false},
		{"0,1/1 0,1/1", []int{0, 1}, []int{0, 1}, true},
		{"0,1,2/1 0,1,2/1", []int{0, 1, 2}, nil, false},
		// The first player who knows a puppet leaves it to a later one.
		{"0,1/1 0/1", []int{0, 1}, []int{1, 0}, true},
		{"0,1,2/2 0/1", []int{0, 1, 2}, []int{1, 0, 0}, true},
		{"0,1/1 0,2/1 0/1", []int{0, 1, 2}, []int{2, 0, 1}, true},
		{"0,3/1 0,1/1 1,2/1 2/1", []int{0, 1, 2, 3}, []int{1, 2, 3, 0}, true},
		{"0,1,6/1 1,2/1 2,3/1 3,4/1 4,5/1 0,5/1", []int{0, 1, 2, 3, 4, 6}, []int{5, 1, 2, 3, 4, 0}, true},
		{"0,1,6/1 1,2/1 2,3/1 3,4/1 4,5/1 0,5/1", []int{1, 2, 3, 4, 5, 6}, []int{1, 2, 3, 4, 5, 0}, true},
		{"0,1,6/1 1,2/1 2,3/1 3,4/1 4,5/1 0,5/1", []int{0, 1, 2, 3, 4, 5, 6}, nil, false},
		// The middle one of three puppets is left to a later player, then the first one.
		{"0,1,2/2 1/1", []int{0, 1, 2}, []int{0, 1, 0}, true},
		{"0,1,2/1 0,1/1 1/1", []int{0, 1, 2}, []int{1, 2, 0}, true},
		// A later player has just the hands that an earlier one left.
		{"0,1/2 0,1/2 2/1", []int{0, 1, 2}, []int{0, 0, 2}, true},
		{"0,1,2/1 0,1,2/1 0,1,2/1", []int{0, 1, 2}, []int{0, 1, 2}, true},
		{"0,1,2/1 0,1/2 2/0", []int{0, 1, 2}, []int{1, 1, 0}, true},
		{"1,2/1 0/1 0,1,2/2", []int{0, 1, 2}, []int{1, 0, 2}, true},
		{"6/2 5/2 4/2 3/2 2/2 0,1/2", sortedOrder(7), []int{5, 5, 4, 3, 2, 1, 0}, true},
		{"6/2 5/2 4/2 3/2 2/2 0,1/1", sortedOrder(7), nil, false},
		{"0,1,2,3,4,5,6/2 0,1,2,3,4,5,6/2 0,1,2,3,4,5,6/2 0,1,2,3,4,5,6/2", sortedOrder(7), []int{0, 0, 1, 1, 2, 2, 3}, true},
		// Players or puppets that are not valid.
		{"", nil, nil, false},
		{"0,1/3", []int{0}, nil, false},
		{"0,1/2 0,1/-1", []int{0}, nil, false},
		{"0,1/2 1,0/2", nil, nil, false},
		{"0,1/2 7/2", []int{7}, nil, false},
		{"0/2 0/2 0/2 0/2 0/2 0/2 0/2", []int{0}, nil, false},
		{"0,1/2 0,1/2", []int{1, 0}, nil, false},
		{"0,1/2 0,1/2", []int{1, 1}, nil, false},
		{"0,1/2 0,1/2", []int{-1}, nil, false},
	} {
		got, ok := impl.FirstCasting(players(c.text), c.puppets)
		if !slices.Equal(got, c.want) || ok != c.ok {
			t.Errorf("%q: FirstCasting of %v is %v and %v, want %v and %v", c.text, c.puppets, got, ok, c.want, c.ok)
		}
	}
}

// checkFirstCasting compares the FirstCasting with all castings, and reports
// whether there is one.
func checkFirstCasting(t *testing.T, list []impl.Player, puppets []int) bool {
	t.Helper()
	var want []int
	casts := castsOf(list, puppets)
	if len(casts) > 0 {
		want = casts[0]
	}
	got, ok := impl.FirstCasting(list, puppets)
	if !slices.Equal(got, want) || ok != (len(casts) > 0) {
		t.Errorf("%s: FirstCasting of %v is %v and %v, want %v", playersText(list), puppets, got, ok, want)
	}
	return ok
}

// forAllPlayers visits all kinds of up to three players who know some of these
// puppets.
func forAllPlayers(puppets []int, visit func(list []impl.Player)) {
	var kinds []impl.Player
	for free := range 3 {
		for _, knows := range subsetsOf(puppets...) {
			kinds = append(kinds, impl.Player{Knows: knows, Free: free})
		}
	}
	for count := 1; count <= 3; count++ {
		forAllLists(count, 0, len(kinds)-1, func(numbers []int) {
			var list []impl.Player
			for _, n := range numbers {
				list = append(list, kinds[n])
			}
			visit(list)
		})
	}
}

// TestFirstCastingOfAllPlayers tries all kinds of up to three players for all
// kinds of up to three puppets.
func TestFirstCastingOfAllPlayers(t *testing.T) {
	cast, open := 0, 0
	forAllPlayers([]int{0, 3, 6}, func(list []impl.Player) {
		for _, puppets := range subsetsOf(0, 3, 6) {
			if checkFirstCasting(t, list, puppets) {
				cast++
			} else {
				open++
			}
		}
	})
	if cast < 10000 || open < 10000 {
		t.Errorf("there are only %d castings, and %d lists without one", cast, open)
	}
}

// TestFirstCastingByDefinition has more players, and more puppets.
func TestFirstCastingByDefinition(t *testing.T) {
	cast, open := 0, 0
	for _, c := range validPlayers() {
		for i, puppets := range subsetsOf(sortedOrder(7)...) {
			if len(puppets) > 4 && i%5 > 0 {
				continue
			}
			if checkFirstCasting(t, c.list, puppets) {
				cast++
			} else {
				open++
			}
		}
	}
	if cast < 3000 || open < 3000 {
		t.Errorf("there are only %d castings, and %d lists without one", cast, open)
	}
}

// TestFirstCastingOfFewHands has players who know few puppets, so that many of
// them have to leave puppets to others, up to the last hand.
func TestFirstCastingOfFewHands(t *testing.T) {
	next := fromChance(17)
	left, full := 0, 0
	for i := range 3000 {
		list := chancePlayers(next, 6, 2)
		for k := range list {
			list[k].Free = 1
			if i%2 == 0 {
				list[k].Knows = list[k].Knows[:min(len(list[k].Knows), 2)]
			}
		}
		puppets := subsetsOf(sortedOrder(7)...)[next(128)]
		if !checkFirstCasting(t, list, puppets) {
			continue
		}
		cast, _ := impl.FirstCasting(list, puppets)
		if len(puppets) == impl.HandsFree(list) {
			full++
		}
		for n, puppet := range puppets {
			// Players before, whose hand was free, left the puppet to a later one.
			who := impl.WhoKnows(list, puppet)
			if slices.ContainsFunc(who, func(k int) bool { return k < cast[n] && !slices.Contains(cast[:n], k) }) {
				left++
				break
			}
		}
	}
	if left < 100 || full < 5 {
		t.Errorf("players leave puppets to later ones only in %d castings, and %d need all hands", left, full)
	}
}

// TestCastingsAreOrdered compares the FirstCasting with castings that are not
// the first one: each of them is a casting, and greater.
func TestCastingsAreOrdered(t *testing.T) {
	later := 0
	for _, c := range validPlayers() {
		for _, puppets := range [][]int{{5}, {0, 1}, {1, 3, 5}, {0, 2, 4, 6}} {
			first, _ := impl.FirstCasting(c.list, puppets)
			for i, cast := range castsOf(c.list, puppets) {
				if !impl.IsCasting(c.list, puppets, cast) {
					t.Errorf("%s: IsCasting of %v and %v is false", playersText(c.list), puppets, cast)
				}
				if i > 0 && slices.Compare(first, cast) >= 0 {
					t.Errorf("%s: FirstCasting of %v is %v, but %v is smaller", playersText(c.list), puppets, first, cast)
				}
				later += min(i, 1)
			}
		}
	}
	if later < 1000 {
		t.Errorf("there are only %d castings that are not the first one", later)
	}
}

// TestEveryPuppetHasAHand checks promise 13 hand by hand: each puppet takes one
// hand of a player who knows it away, and there are always enough.
func TestEveryPuppetHasAHand(t *testing.T) {
	castings := 0
	for _, c := range validPlayers() {
		for _, puppets := range subsetsOf(sortedOrder(7)...) {
			cast, ok := impl.FirstCasting(c.list, puppets)
			if !ok {
				if len(cast) != 0 {
					t.Errorf("%s: FirstCasting of %v is %v and false", playersText(c.list), puppets, cast)
				}
				continue
			}
			castings++
			if len(cast) != len(puppets) || !impl.IsCasting(c.list, puppets, cast) {
				t.Fatalf("%s: FirstCasting of %v is %v, which is no casting", playersText(c.list), puppets, cast)
			}
			hands := impl.HandsFree(c.list)
			list := copyOfPlayers(c.list)
			for i, puppet := range puppets {
				player := &list[cast[i]]
				player.Free--
				hands--
				if player.Free < 0 || !slices.Contains(player.Knows, puppet) || !slices.Contains(impl.WhoKnows(c.list, puppet), cast[i]) {
					t.Errorf("%s: FirstCasting of %v is %v, but player %d has no hand for %d", playersText(c.list), puppets, cast, cast[i], puppet)
				}
			}
			loads := impl.LoadOf(c.list, cast)
			for i, load := range loads {
				if load != c.list[i].Free-list[i].Free {
					t.Errorf("%s: LoadOf %v is %v", playersText(c.list), cast, loads)
				}
			}
			if hands < 0 || hands != impl.HandsFree(list) || sumOf(loads) != len(puppets) {
				t.Errorf("%s: %d of the hands are left behind %v", playersText(c.list), hands, cast)
			}
		}
	}
	if castings < 3000 {
		t.Errorf("there are only %d castings", castings)
	}
}

// TestCastingsOfFewerPuppets takes one puppet and its player out of a casting,
// and turns the list of players around.
func TestCastingsOfFewerPuppets(t *testing.T) {
	for _, c := range validPlayers() {
		around := copyOfPlayers(c.list)
		slices.Reverse(around)
		for _, puppets := range subsetsOf(sortedOrder(7)...) {
			cast, ok := impl.FirstCasting(c.list, puppets)
			if _, other := impl.FirstCasting(around, puppets); other != ok {
				t.Errorf("%s: FirstCasting of %v is %v and %v, but %v backwards", playersText(c.list), puppets, cast, ok, other)
			}
			for i := range cast {
				fewer, rest := slices.Delete(slices.Clone(puppets), i, i+1), slices.Delete(slices.Clone(cast), i, i+1)
				first, ok := impl.FirstCasting(c.list, fewer)
				if !impl.IsCasting(c.list, fewer, rest) || !ok || slices.Compare(first, rest) > 0 {
					t.Errorf("%s: FirstCasting of %v is %v and %v, but %v is a casting", playersText(c.list), fewer, first, ok, rest)
				}
			}
			for i := range cast {
				turned := slices.Clone(cast)
				for n := range turned {
					turned[n] = len(c.list) - 1 - turned[n]
				}
				if !impl.IsCasting(around, puppets, turned) {
					t.Errorf("%s: IsCasting of %v and %v is false", playersText(around), puppets, turned)
				}
				turned[i] = -1 - turned[i]
				if impl.IsCasting(around, puppets, turned) {
					t.Errorf("%s: IsCasting of %v and %v is true", playersText(around), puppets, turned)
				}
			}
		}
	}
}

// TestFirstCastingEnds has lists with very many casts of the first puppets, but
// none of the last ones.
func TestFirstCastingEnds(t *testing.T) {
	six := equalTo(6, 2, sortedOrder(6)...)
	lists := [][]impl.Player{
		six,
		withKnows(withFree(six, 5, 0), 5, 6),
		withKnows(withFree(six, 0, 0), 0, sortedOrder(7)...),
		withKnows(withFree(equalTo(6, 2, sortedOrder(5)...), 5, 1), 5, sortedOrder(7)...),
		append(equalTo(5, 2, sortedOrder(4)...), ableAll(1)...),
	}
	for _, list := range lists {
		if cast, ok := impl.FirstCasting(list, sortedOrder(7)); ok || len(cast) != 0 {
			t.Errorf("%s: FirstCasting is %v and %v", playersText(list), cast, ok)
		}
	}
}

func TestLoadOf(t *testing.T) {
	for _, c := range []struct {
		text string
		cast []int
		want []int
	}{
		{"0,1/1 1,2/2", []int{0, 1, 1}, []int{1, 2}},
		{"0,1/1 1,2/2", []int{1}, []int{0, 1}},
		{"0,1/1 1,2/2", nil, []int{0, 0}},
		{"0,1/1 1,2/2", []int{}, []int{0, 0}},
		{"-/0", nil, []int{0}},
		{"-/0 -/0 -/0 -/0 -/0 -/0", nil, []int{0, 0, 0, 0, 0, 0}},
		{"0/1 1/1 2/1 3/1 4/1 5/1", []int{5, 0, 3, 5, 2, 5}, []int{1, 0, 1, 1, 0, 3}},
		// More than there are hands, or puppets.
		{"0,1/1 1,2/2", []int{0, 0, 0, 0}, []int{4, 0}},
		{"-/0", []int{0}, []int{1}},
		{"-/0 -/0", []int{1, 0, 1, 1, 1, 0, 1, 1, 1}, []int{2, 7}},
		{"0/2 1/2 2/2", slices.Repeat([]int{2, 0, 2}, 5000), []int{5000, 0, 10000}},
		// Indices that are no player's.
		{"0,1/1 1,2/2", []int{-1, 0, 2, 1, 1}, []int{1, 2}},
		{"0,1/1 1,2/2", []int{2}, []int{0, 0}},
		{"0,1/1 1,2/2", []int{-1}, []int{0, 0}},
		{"0,1/1 1,2/2", []int{5, 6, 7, 1}, []int{0, 1}},
		{"0,1/1 1,2/2", []int{math.MinInt, math.MaxInt, 0}, []int{1, 0}},
		{"0/1 1/1 2/1 3/1 4/1 5/1", []int{6, 5, -1, 0, 6}, []int{1, 0, 0, 0, 0, 1}},
		// The players are not valid.
		{"", nil, nil},
		{"", []int{0}, nil},
		{"0/3", []int{0}, nil},
		{"0/2 1/-1", []int{0, 1}, nil},
		{"0/2 1,1/2", []int{0}, nil},
		{"0/2 7/2", []int{0}, nil},
		{"-/0 -/0 -/0 -/0 -/0 -/0 -/0", []int{0, 6}, nil},
	} {
		if got := impl.LoadOf(players(c.text), c.cast); !slices.Equal(got, c.want) {
			t.Errorf("%q: LoadOf %v is %v, want %v", c.text, c.cast, got, c.want)
		}
	}
}

// TestLoadOfByDefinition takes each player out of the casts.
func TestLoadOfByDefinition(t *testing.T) {
	for count := 1; count <= 6; count++ {
		list := equalTo(count, count%3)
		for length := range 5 {
			forAllLists(length, -1, count, func(cast []int) {
				got := impl.LoadOf(list, cast)
				if len(got) != count {
					t.Fatalf("LoadOf %v is %v for %d players", cast, got, count)
				}
				for k, load := range got {
					others := slices.DeleteFunc(slices.Clone(cast), func(n int) bool { return n == k })
					if load != len(cast)-len(others) {
						t.Errorf("LoadOf %v is %v for %d players", cast, got, count)
					}
				}
			})
		}
	}
}

// checkNoHands checks the fixed results for players that are not valid.
func checkNoHands(t *testing.T, c namedPlayers) {
	t.Helper()
	if got := impl.HandsFree(c.list); got != -1 {
		t.Errorf("%s: HandsFree is %d, want -1", c.name, got)
	}
	for puppet := -1; puppet <= 8; puppet++ {
		if got := impl.WhoKnows(c.list, puppet); len(got) != 0 {
			t.Errorf("%s: WhoKnows %d is %v, want none", c.name, puppet, got)
		}
	}
	for _, numbers := range append(strangePuppets(), subsetsOf(0, 2, 6)...) {
		if impl.IsCasting(c.list, numbers, numbers) || impl.IsCasting(c.list, numbers, make([]int, len(numbers))) {
			t.Errorf("%s: IsCasting of %v is true", c.name, numbers)
		}
		if got, ok := impl.FirstCasting(c.list, numbers); len(got) != 0 || ok {
			t.Errorf("%s: FirstCasting of %v is %v and %v", c.name, numbers, got, ok)
		}
		if got := impl.LoadOf(c.list, numbers); len(got) != 0 {
			t.Errorf("%s: LoadOf %v is %v, want none", c.name, numbers, got)
		}
	}
}

func TestHandsOfInvalidPlayers(t *testing.T) {
	for _, c := range invalidPlayers() {
		checkNoHands(t, c)
	}
	for _, free := range numbersAround(0, 2) {
		if free < 0 || free > 2 {
			name := impl.FormatInt(free) + " hands"
			checkNoHands(t, namedPlayers{name, withFree(ableAll(6), 5, free)})
			checkNoHands(t, namedPlayers{name, withFree(ableAll(1), 0, free)})
		}
	}
	for count := 7; count < 20; count++ {
		checkNoHands(t, namedPlayers{impl.FormatInt(count) + " players", ableAll(count)})
	}
}

func TestHandsForStrangePuppets(t *testing.T) {
	for _, c := range validPlayers() {
		for _, puppets := range strangePuppets() {
			if got, ok := impl.FirstCasting(c.list, puppets); len(got) != 0 || ok {
				t.Errorf("%s: FirstCasting of %v is %v and %v", c.name, puppets, got, ok)
			}
			for _, cast := range [][]int{nil, make([]int, len(puppets)), counted(len(puppets), 0, 1), puppets} {
				if impl.IsCasting(c.list, puppets, cast) {
					t.Errorf("%s: IsCasting of %v and %v is true", c.name, puppets, cast)
				}
			}
		}
	}
	check := func(puppets []int) {
		t.Helper()
		cast, ok := impl.FirstCasting(ableAll(6), puppets)
		if want := isRising(puppets, 7); ok != want || len(cast) != len(puppets) && want {
			t.Errorf("FirstCasting of %v is %v and %v", puppets, cast, ok)
		}
		if want, got := isRising(puppets, 7), impl.IsCasting(ableAll(6), puppets, counted(len(puppets), 0, 1)); got != want {
			t.Errorf("IsCasting of %v is %v", puppets, got)
		}
	}
	for count := range 4 {
		forAllLists(count, -1, 7, check)
	}
}

// roomyPlayers are the players with spare capacity behind them and behind each
// of their lists, and all of it.
func roomyPlayers(list []impl.Player) ([]impl.Player, []impl.Player) {
	all := append(copyOfPlayers(list), impl.Player{Knows: []int{70}, Free: 71}, impl.Player{Knows: []int{72, 73}, Free: 74})
	for i := range list {
		all[i].Knows, _ = roomyList(list[i].Knows)
	}
	return all[:len(list)], all
}

// wholePlayers are the players with all that is behind the end of their lists.
func wholePlayers(list []impl.Player) []impl.Player {
	whole := slices.Clone(list)
	for i, p := range list {
		whole[i].Knows = p.Knows[:cap(p.Knows)]
	}
	return whole
}

func equalPlayers(a []impl.Player, b []impl.Player) bool {
	return slices.EqualFunc(a, b, func(p impl.Player, q impl.Player) bool {
		return p.Free == q.Free && slices.Equal(p.Knows, q.Knows)
	})
}

// watchedPlayers has roomy players, and a check that tells who has changed them
// or what is behind them.
func watchedPlayers(t *testing.T, list []impl.Player) ([]impl.Player, func(by string)) {
	watched, all := roomyPlayers(list)
	want := copyOfPlayers(wholePlayers(all))
	return watched, func(by string) {
		t.Helper()
		if got := wholePlayers(all); !equalPlayers(got, want) {
			t.Fatalf("%s changes %v to %v", by, want, got)
		}
	}
}

// watchedList has a roomy list, and a check that tells who has changed it or
// what is behind it.
func watchedList(t *testing.T, list []int) ([]int, func(by string)) {
	watched, all := roomyList(list)
	want := slices.Clone(all)
	return watched, func(by string) {
		t.Helper()
		if !slices.Equal(all, want) {
			t.Fatalf("%s changes %v to %v", by, want, all)
		}
	}
}

// forSomeCasts visits valid and invalid players, with puppets and casts of all
// kinds, right and wrong ones.
func forSomeCasts(visit func(c namedPlayers, puppets []int, cast []int)) {
	next := fromChance(19)
	subsets := subsetsOf(sortedOrder(7)...)
	for i, c := range append(validPlayers(), invalidPlayers()...) {
		strange := strangePuppets()
		visit(c, strange[i%len(strange)], []int{0, -1, 2, 9})
		visit(c, nil, nil)
		for range 6 {
			puppets := subsets[next(len(subsets))]
			cast := make([]int, len(puppets))
			for n := range cast {
				cast[n] = next(8) - 1
			}
			visit(c, puppets, cast)
			cast, _ = impl.FirstCasting(c.list, puppets)
			visit(c, puppets, cast)
		}
	}
}

func TestHandArgumentsAreLeftUnchanged(t *testing.T) {
	forSomeCasts(func(c namedPlayers, puppets []int, cast []int) {
		list, checkList := watchedPlayers(t, c.list)
		roomyPuppets, checkPuppets := watchedList(t, puppets)
		roomyCast, checkCast := watchedList(t, cast)
		check := func(by string) {
			t.Helper()
			checkList(by)
			checkPuppets(by)
			checkCast(by)
		}
		impl.PlayersOk(list)
		check("PlayersOk")
		impl.HandsFree(list)
		check("HandsFree")
		for puppet := -1; puppet <= 7; puppet++ {
			impl.WhoKnows(list, puppet)
			check("WhoKnows")
		}
		impl.IsCasting(list, roomyPuppets, roomyCast)
		check("IsCasting")
		impl.FirstCasting(list, roomyPuppets)
		check("FirstCasting")
		impl.LoadOf(list, roomyCast)
		check("LoadOf")
		// The same list as both.
		impl.IsCasting(list, roomyPuppets, roomyPuppets)
		check("IsCasting of the puppets themselves")
	})
}

// handsOf are all results of the chapter that are lists.
func handsOf(list []impl.Player, puppets []int, cast []int) [][]int {
	first, _ := impl.FirstCasting(list, puppets)
	rows := [][]int{first, impl.LoadOf(list, cast)}
	for puppet := -1; puppet <= 7; puppet++ {
		rows = append(rows, impl.WhoKnows(list, puppet))
	}
	return rows
}

// TestHandListsAreNewMemory changes one of two results of the same call, also
// behind its end, and looks at the arguments and at the other one.
func TestHandListsAreNewMemory(t *testing.T) {
	forSomeCasts(func(c namedPlayers, puppets []int, cast []int) {
		list, checkList := watchedPlayers(t, c.list)
		roomyPuppets, checkPuppets := watchedList(t, puppets)
		roomyCast, checkCast := watchedList(t, cast)
		want, got := handsOf(c.list, puppets, cast), handsOf(list, roomyPuppets, roomyCast)
		overwritePoses(handsOf(list, roomyPuppets, roomyCast))
		by := c.name + ": a change of a result"
		checkList(by)
		checkPuppets(by)
		checkCast(by)
		if again := handsOf(list, roomyPuppets, roomyCast); !equalPoses(got, want) || !equalPoses(again, want) {
			t.Errorf("%s: a change of one result changes another one to %v or %v, want %v", c.name, got, again, want)
		}
	})
}

// TestHandListsAreKeptApart changes the arguments behind the calls.
func TestHandListsAreKeptApart(t *testing.T) {
	forSomeCasts(func(c namedPlayers, puppets []int, cast []int) {
		list, _ := roomyPlayers(c.list)
		roomyPuppets, _ := roomyList(puppets)
		roomyCast, _ := roomyList(cast)
		got := handsOf(list, roomyPuppets, roomyCast)
		for _, changed := range wholePlayers(list) {
			overwritePoses([][]int{changed.Knows})
		}
		clear(list)
		overwritePoses([][]int{roomyPuppets, roomyCast})
		if want := handsOf(c.list, puppets, cast); !equalPoses(got, want) {
			t.Errorf("%s: behind a change of the arguments, the lists are %v, want %v", c.name, got, want)
		}
	})
	checkKeptApart(t, "the lists of the chapter", func() [][]int { return handsOf(ableAll(6), sortedOrder(7), []int{0, 1, 5}) })
}

// TestHandResultsAreRepeated calls each function again, as the result of a call
// depends only on its arguments.
func TestHandResultsAreRepeated(t *testing.T) {
	forSomeCasts(func(c namedPlayers, puppets []int, cast []int) {
		lists, hands := handsOf(c.list, puppets, cast), impl.HandsFree(c.list)
		isCasting := impl.IsCasting(c.list, puppets, cast)
		_, ok := impl.FirstCasting(c.list, puppets)
		for range 3 {
			if got := handsOf(c.list, puppets, cast); !equalPoses(got, lists) {
				t.Errorf("%s: the lists are %v and then %v", c.name, lists, got)
			}
			_, again := impl.FirstCasting(c.list, puppets)
			if impl.HandsFree(c.list) != hands || impl.IsCasting(c.list, puppets, cast) != isCasting || again != ok {
				t.Errorf("%s: HandsFree, IsCasting or FirstCasting of %v is not the same again", c.name, puppets)
			}
		}
	})
}
