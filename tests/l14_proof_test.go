package tests

import (
	"slices"
	"testing"

	"loop.example/g03306/impl"
)

// handsKnowing adds the hands up of those who know some of the puppets.
func handsKnowing(list []impl.Player, puppets []int) int {
	sum := 0
	for _, p := range list {
		known := slices.DeleteFunc(slices.Clone(p.Knows), func(n int) bool { return !slices.Contains(puppets, n) })
		if len(known) > 0 {
			sum += p.Free
		}
	}
	return sum
}

// lacksOf has, for each subset of the puppets by its number, how many puppets
// there are more than hands.
func lacksOf(list []impl.Player, puppets []int) []int {
	var lacks []int
	for _, subset := range subsetsOf(puppets...) {
		lacks = append(lacks, len(subset)-handsKnowing(list, subset))
	}
	return lacks
}

// mostWithHands casts the puppets one by one in all ways at once: it keeps each
// number of hands that can be left, whether the puppet has taken one or none.
func mostWithHands(list []impl.Player, puppets []int) int {
	var all [6]int
	for k, p := range list {
		all[k] = p.Free
	}
	ways := map[[6]int]int{all: 0}
	most := 0
	for _, puppet := range puppets {
		longer := map[[6]int]int{}
		for left, cast := range ways {
			longer[left] = max(longer[left], cast)
			for k, p := range list {
				if left[k] > 0 && slices.Contains(p.Knows, puppet) {
					fewer := left
					fewer[k]--
					longer[fewer] = max(longer[fewer], cast+1)
					most = max(most, cast+1)
				}
			}
		}
		ways = longer
	}
	return most
}

// withPlayer has one player more.
func withPlayer(list []impl.Player, free int, knows ...int) []impl.Player {
	return append(copyOfPlayers(list), impl.Player{Knows: slices.Clone(knows), Free: free})
}

type knownProof struct {
	text    string
	puppets []int
	hands   int
	short   []int
	most    int
	lack    int
}

// knownProofs have no short set where there is a casting.
func knownProofs() []knownProof {
	all := "0,1,2,3,4,5,6/"
	return []knownProof{
		{"0,1/1 1,2/2", []int{0, 1, 2}, 3, nil, 3, 0},
		{"0,1/1 1,2/2", []int{0, 1}, 3, nil, 2, 0},
		{"0,1/1 1,2/2", []int{0, 2}, 3, nil, 2, 0},
		{"0,1/1 1,2/2", []int{1, 2}, 3, nil, 2, 0},
		{"0,1/1 1,2/2", []int{0, 3}, 1, []int{3}, 1, 1},
		{"0,1/1 1,2/2", []int{2, 3, 4}, 2, []int{3}, 1, 2},
		// One puppet: known to somebody with a hand, to nobody, and to players
		// without hands.
		{"0,1/1 1,2/2", []int{0}, 1, nil, 1, 0},
		{"0,1/1 1,2/2", []int{1}, 3, nil, 1, 0},
		{"0,1/1 1,2/2", []int{2}, 2, nil, 1, 0},
		{"0,1/1 1,2/2", []int{3}, 0, []int{3}, 0, 1},
		{"-/2", []int{4}, 0, []int{4}, 0, 1},
		{"3,5/2 0,6/2", []int{4}, 0, []int{4}, 0, 1},
		{"4/0", []int{4}, 0, []int{4}, 0, 1},
		{"4/0 4/0 4/0", []int{4}, 0, []int{4}, 0, 1},
		{"4/0 3,5/2 4/0", []int{4}, 0, []int{4}, 0, 1},
		{"4/0 4/1 4/0", []int{4}, 1, nil, 1, 0},
		{"4/1", []int{4}, 1, nil, 1, 0},
		{"4/2", []int{4}, 2, nil, 1, 0},
		{"0/1", []int{0}, 1, nil, 1, 0},
		{"6/1", []int{6}, 1, nil, 1, 0},
		// No puppets.
		{"0,1/1 1,2/2", nil, 0, nil, 0, 0},
		{"0,1/1 1,2/2", []int{}, 0, nil, 0, 0},
		{"-/0", nil, 0, nil, 0, 0},
		{"-/2", []int{}, 0, nil, 0, 0},
		{all + "2", nil, 0, nil, 0, 0},
		// All seven puppets, one player to six players.
		{all + "0", sortedOrder(7), 0, []int{0}, 0, 7},
		{all + "1", sortedOrder(7), 1, []int{0, 1}, 1, 6},
		{all + "2", sortedOrder(7), 2, []int{0, 1, 2}, 2, 5},
		{all + "2 " + all + "1", sortedOrder(7), 3, []int{0, 1, 2, 3}, 3, 4},
		{all + "2 " + all + "2", sortedOrder(7), 4, []int{0, 1, 2, 3, 4}, 4, 3},
		{all + "1 " + all + "2 " + all + "2", sortedOrder(7), 5, []int{0, 1, 2, 3, 4, 5}, 5, 2},
		{all + "2 " + all + "2 " + all + "2", sortedOrder(7), 6, sortedOrder(7), 6, 1},
		{all + "2 " + all + "2 " + all + "2 " + all + "1", sortedOrder(7), 7, nil, 7, 0},
		{all + "2 " + all + "2 " + all + "2 " + all + "2", sortedOrder(7), 8, nil, 7, 0},
		{"5/1 4/1 3/2 2/1 1/2 0,6/1", sortedOrder(7), 8, []int{0, 6}, 6, 1},
		{"5/1 4/1 3/2 2/1 1/2 0,6/2", sortedOrder(7), 9, nil, 7, 0},
		{"-/2 -/2 -/2 -/2 -/2 -/2", sortedOrder(7), 0, []int{0}, 0, 7},
		{"-/2 -/2 -/2 -/2 -/2 -/2", []int{6}, 0, []int{6}, 0, 1},
		{"-/0 -/0 -/0 -/0 -/0 -/0", []int{2, 5}, 0, []int{2}, 0, 2},
		// Exactly as many hands, and one fewer.
		{"0,1/1 0,1/1", []int{0, 1}, 2, nil, 2, 0},
		{"0,1/1 0,1/0", []int{0, 1}, 1, []int{0, 1}, 1, 1},
		{"0,1,2/2 0,1,2/1", []int{0, 1, 2}, 3, nil, 3, 0},
		{"0,1,2/1 0,1,2/1", []int{0, 1, 2}, 2, []int{0, 1, 2}, 2, 1},
		{"-/2 0,1/1", []int{0, 1}, 1, []int{0, 1}, 1, 1},
		{"0,1/1 0/1", []int{0, 1}, 2, nil, 2, 0},
		{"0,1,6/1 1,2/1 2,3/1 3,4/1 4,5/1 0,5/1", []int{1, 2, 3, 4, 5, 6}, 6, nil, 6, 0},
		{"0,1,6/1 1,2/1 2,3/1 3,4/1 4,5/1 0,5/0", []int{1, 2, 3, 4, 5, 6}, 5, []int{1, 2, 3, 4, 5, 6}, 5, 1},
		{"0,1,6/1 1,2/1 2,3/1 3,4/1 4,5/1 0,5/1", sortedOrder(7), 6, sortedOrder(7), 6, 1},
		// All the puppets together are not short, but some are.
		{"0,1/1 2/2", []int{0, 1, 2}, 3, []int{0, 1}, 2, 1},
		{"0/2 1,2/1", []int{0, 1, 2}, 3, []int{1, 2}, 2, 1},
		{"0/2 1/2 2/2 3/2 4/2 5/2", sortedOrder(7), 12, []int{6}, 6, 1},
		{"0,1,2/2 3,4/2 5,6/2 5,6/2", sortedOrder(7), 8, []int{0, 1, 2}, 6, 1},
		{"0/2 2,3,4/2 5/1 6/2", []int{0, 2, 3, 4, 5, 6}, 7, []int{2, 3, 4}, 5, 1},
		{"1,6/1 4/2", []int{1, 4, 6}, 3, []int{1, 6}, 2, 1},
		{"0,1,2/1 3/2 4/2", []int{0, 1, 2, 3, 4}, 5, []int{0, 1}, 3, 2},
		// A later one is shorter.
		{"0,1,2/2 3/0", []int{0, 1, 2, 3}, 2, []int{0, 1, 2}, 2, 2},
		{"0,1/1 2/0", []int{0, 1, 2}, 1, []int{0, 1}, 1, 2},
		{"0,1,2,3,4,5/2 0,1,2,3,4,5/2 0,1,2,3,4,5/1 6/0", sortedOrder(7), 5, []int{0, 1, 2, 3, 4, 5}, 5, 2},
		{"1,4/1 5/2", []int{1, 4, 5, 6}, 3, []int{1, 4}, 2, 2},
		// Several are short.
		{"0/0 1/0 2/0", []int{0, 1, 2}, 0, []int{0}, 0, 3},
		{"1/0 0,2/2", []int{0, 1, 2}, 2, []int{1}, 2, 1},
		{"0,2/1 1,3/1", []int{0, 1, 2, 3}, 2, []int{0, 2}, 2, 2},
		{"1,2/1 0,3/1", []int{0, 1, 2, 3}, 2, []int{1, 2}, 2, 2},
		{"2,3/1 0,4/1 1,5/1", []int{0, 1, 2, 3, 4, 5}, 3, []int{2, 3}, 3, 3},
		{"0,1/1 2,3,4/1", []int{0, 1, 2, 3, 4}, 2, []int{0, 1}, 2, 3},
		{"0,3/2 4/2 6/2", []int{1, 3, 5}, 2, []int{1}, 1, 2},
	}
}

func TestHandsFor(t *testing.T) {
	for _, c := range knownProofs() {
		if got := impl.HandsFor(players(c.text), c.puppets); got != c.hands {
			t.Errorf("%q: HandsFor %v is %d, want %d", c.text, c.puppets, got, c.hands)
		}
	}
	// Each player is counted once, and whoever knows other puppets alone is not.
	for i, puppet := range sortedOrder(7) {
		others := slices.Delete(sortedOrder(7), i, i+1)
		list := withPlayer(withKnows(withFree(ableAll(2), 0, 1), 1, others...), 2, puppet)
		for _, puppets := range subsetsOf(sortedOrder(7)...) {
			want := 1
			if len(puppets) == 0 {
				want = 0
			}
			if slices.Contains(puppets, puppet) {
				want += 2
			}
			if slices.ContainsFunc(puppets, func(n int) bool { return n != puppet }) {
				want += 2
			}
			if got := impl.HandsFor(list, puppets); got != want {
				t.Errorf("%s: HandsFor %v is %d, want %d", playersText(list), puppets, got, want)
			}
		}
	}
}

// TestHandsForAll has all numbers of hands, also of players who know nothing.
func TestHandsForAll(t *testing.T) {
	forAllLists(4, 0, 2, func(free []int) {
		list := players("0,1/0 -/0 1,2,6/0 6/0")
		for i := range list {
			list[i].Free = free[i]
		}
		for _, c := range []struct {
			puppets []int
			want    int
		}{
			{nil, 0}, {[]int{0}, free[0]}, {[]int{1}, free[0] + free[2]}, {[]int{2}, free[2]}, {[]int{3}, 0},
			{[]int{3, 4, 5}, 0}, {[]int{6}, free[2] + free[3]}, {[]int{0, 6}, free[0] + free[2] + free[3]},
			{sortedOrder(7), free[0] + free[2] + free[3]},
		} {
			if got := impl.HandsFor(list, c.puppets); got != c.want {
				t.Errorf("%s: HandsFor %v is %d, want %d", playersText(list), c.puppets, got, c.want)
			}
		}
	})
}

func TestIsShort(t *testing.T) {
	for _, c := range []struct {
		text    string
		puppets []int
		want    bool
	}{
		{"0,1/1 1,2/2", []int{3}, true},
		{"0,1/1 1,2/2", []int{0}, false},
		{"0,1/1 1,2/2", []int{0, 1, 2}, false},
		{"0,1/1 1,2/2", []int{0, 3}, true},
		{"0,1/1 1,2/2", nil, false},
		{"-/0", nil, false},
		{"-/0", []int{}, false},
		{"-/2", []int{0}, true},
		{"0/0", []int{0}, true},
		{"0/0 0/1", []int{0}, false},
		{"0/1", []int{0}, false},
		{"0,1/1", []int{0, 1}, true},
		{"0,1/2", []int{0, 1}, false},
		{"0,1,2/2", []int{0, 1, 2}, true},
		{"0,1,2/2", []int{0, 2}, false},
		// They are not short together, although the puppet 3 is alone.
		{"0/2 1/2", []int{0, 1, 3}, false},
		{"0/2 1/2", []int{0, 3}, false},
		{"0/2 1/2", []int{3}, true},
		{"0/2 1/2", []int{3, 4}, true},
		{"0/2 1/2", []int{0, 3, 4}, true},
		// Nothing is short if it is not valid.
		{"", nil, false},
		{"", []int{0}, false},
		{"0/3", []int{1}, false},
		{"0/-1", []int{0}, false},
		{"0/0 1,1/0", []int{0}, false},
		{"-/0", []int{7}, false},
		{"-/0", []int{-1}, false},
		{"-/0", []int{1, 0}, false},
		{"-/0", []int{1, 1}, false},
		{"-/0 -/0 -/0 -/0 -/0 -/0 -/0", []int{0}, false},
	} {
		if got := impl.IsShort(players(c.text), c.puppets); got != c.want {
			t.Errorf("%q: IsShort of %v is %v", c.text, c.puppets, got)
		}
	}
}

func TestShortSet(t *testing.T) {
	for _, c := range knownProofs() {
		got, ok := impl.ShortSet(players(c.text), c.puppets)
		if !slices.Equal(got, c.short) || ok != (len(c.short) > 0) {
			t.Errorf("%q: ShortSet of %v is %v and %v, want %v", c.text, c.puppets, got, ok, c.short)
		}
	}
}

func TestMostCastAndLackOf(t *testing.T) {
	for _, c := range knownProofs() {
		if got := impl.MostCast(players(c.text), c.puppets); got != c.most {
			t.Errorf("%q: MostCast of %v is %d, want %d", c.text, c.puppets, got, c.most)
		}
		if got := impl.LackOf(players(c.text), c.puppets); got != c.lack {
			t.Errorf("%q: LackOf %v is %d, want %d", c.text, c.puppets, got, c.lack)
		}
	}
}

// checkProof compares all results of the chapter with the references, and with
// each other. It reports whether some puppets are short.
func checkProof(t *testing.T, list []impl.Player, puppets []int) bool {
	t.Helper()
	lacks := lacksOf(list, puppets)
	var want []int
	if first := slices.IndexFunc(lacks, func(lack int) bool { return lack > 0 }); first >= 0 {
		want = subsetsOf(puppets...)[first]
	}
	set, short := impl.ShortSet(list, puppets)
	if !slices.Equal(set, want) || short != (len(want) > 0) {
		t.Errorf("%s: ShortSet of %v is %v and %v, want %v", playersText(list), puppets, set, short, want)
	}
	last := lacks[len(lacks)-1]
	if got := impl.HandsFor(list, puppets); got != len(puppets)-last {
		t.Errorf("%s: HandsFor %v is %d, want %d", playersText(list), puppets, got, len(puppets)-last)
	}
	if got := impl.IsShort(list, puppets); got != (last > 0) {
		t.Errorf("%s: IsShort of %v is %v", playersText(list), puppets, got)
	}
	most, lack := impl.MostCast(list, puppets), impl.LackOf(list, puppets)
	if want := mostWithHands(list, puppets); most != want {
		t.Errorf("%s: MostCast of %v is %d, want %d", playersText(list), puppets, most, want)
	}
	if want := slices.Max(lacks); lack != want {
		t.Errorf("%s: LackOf %v is %d, want %d", playersText(list), puppets, lack, want)
	}
	_, ok := impl.FirstCasting(list, puppets)
	if ok == short || lack != len(puppets)-most || ok != (lack == 0) {
		t.Errorf("%s: of %v, FirstCasting is %v, ShortSet %v, MostCast %d and LackOf %d", playersText(list), puppets, ok, short, most, lack)
	}
	return short
}

// TestProofsOfAllPlayers checks promise 14 for all kinds of up to three players
// and all kinds of up to three puppets.
func TestProofsOfAllPlayers(t *testing.T) {
	short, enough := 0, 0
	forAllPlayers([]int{1, 2, 6}, func(list []impl.Player) {
		for _, puppets := range subsetsOf(1, 2, 6) {
			if checkProof(t, list, puppets) {
				short++
			} else {
				enough++
			}
		}
	})
	if short < 10000 || enough < 10000 {
		t.Errorf("there are only %d lists with a short set, and %d without one", short, enough)
	}
}

// TestProofsByDefinition checks promise 14 for players and puppets of all
// counts.
func TestProofsByDefinition(t *testing.T) {
	short, enough := 0, 0
	for i, c := range validPlayers() {
		for k, puppets := range subsetsOf(sortedOrder(7)...) {
			if len(puppets) > 2 && len(puppets) < 7 && (i+k)%4 > 0 {
				continue
			}
			if checkProof(t, c.list, puppets) {
				short++
			} else {
				enough++
			}
		}
	}
	if short < 1000 || enough < 1000 {
		t.Errorf("there are only %d lists with a short set, and %d without one", short, enough)
	}
}

// TestProofsOfFewHands has players who know few puppets, so that a casting needs
// almost all hands, or there is just none.
func TestProofsOfFewHands(t *testing.T) {
	next := fromChance(29)
	short, enough, together := 0, 0, 0
	for i := range 2000 {
		list := chancePlayers(next, 4+i%3, 2+i%2)
		for k := range list {
			list[k].Free = max(list[k].Free, 1)
			list[k].Knows = list[k].Knows[:min(len(list[k].Knows), 2+next(2))]
			for n := range list[k].Knows {
				// The same pattern, but not only of the first puppets.
				list[k].Knows[n] = (list[k].Knows[n] + k + i) % 7
			}
			slices.Sort(list[k].Knows)
		}
		puppets := subsetsOf(sortedOrder(7)...)[127-next(32)]
		if !checkProof(t, list, puppets) {
			enough++
			continue
		}
		short++
		if !impl.IsShort(list, puppets) {
			together++
		}
	}
	if short < 300 || enough < 300 || together < 100 {
		t.Errorf("there are only %d lists with a short set, %d without one, and %d that are not short together", short, enough, together)
	}
}

// TestShortSetProves checks promise 14 from both sides: a short set, and all that
// is more than it, has no casting; where none is short, there is one.
func TestShortSetProves(t *testing.T) {
	proofs, castings := 0, 0
	for _, c := range validPlayers() {
		for _, puppets := range subsetsOf(sortedOrder(7)...) {
			set, short := impl.ShortSet(c.list, puppets)
			if !short {
				cast, ok := impl.FirstCasting(c.list, puppets)
				if !ok || !castFits(c.list, puppets, cast) || len(set) != 0 {
					t.Errorf("%s: ShortSet of %v is %v and false, and FirstCasting is %v and %v", playersText(c.list), puppets, set, cast, ok)
				}
				castings++
				continue
			}
			proofs++
			if len(set) == 0 || !isRising(set, 7) || !impl.IsShort(c.list, set) || handsKnowing(c.list, set) >= len(set) {
				t.Errorf("%s: ShortSet of %v is %v, for which there are %d hands", playersText(c.list), puppets, set, handsKnowing(c.list, set))
			}
			for _, n := range set {
				if !slices.Contains(puppets, n) {
					t.Errorf("%s: ShortSet of %v is %v", playersText(c.list), puppets, set)
				}
			}
			if cast, ok := impl.FirstCasting(c.list, set); ok {
				t.Errorf("%s: %v is short, but FirstCasting is %v", playersText(c.list), set, cast)
			}
			if casts := castsOf(c.list, set); len(casts) > 0 {
				t.Errorf("%s: %v is short, but %v is a casting", playersText(c.list), set, casts[0])
			}
			if again, ok := impl.ShortSet(c.list, set); !ok || !slices.Equal(again, set) {
				t.Errorf("%s: ShortSet of %v, which is a ShortSet, is %v and %v", playersText(c.list), set, again, ok)
			}
		}
	}
	if proofs < 3000 || castings < 3000 {
		t.Errorf("there are only %d proofs and %d castings", proofs, castings)
	}
}

// numberOf is the sum of powers of 2 of a subset of the puppets.
func numberOf(puppets []int, subset []int) int {
	sum := 0
	for _, n := range subset {
		sum += 1 << slices.Index(puppets, n)
	}
	return sum
}

// TestShortSetIsTheFirstOne compares the numbers of all subsets that are short.
func TestShortSetIsTheFirstOne(t *testing.T) {
	several, shorter, smaller := 0, 0, 0
	for _, c := range validPlayers() {
		for _, puppets := range subsetsOf(sortedOrder(7)...) {
			set, short := impl.ShortSet(c.list, puppets)
			if !short {
				continue
			}
			shortest, least, others := set, set, 0
			for _, subset := range subsetsOf(puppets...) {
				if !impl.IsShort(c.list, subset) || slices.Equal(subset, set) {
					continue
				}
				others++
				if numberOf(puppets, subset) < numberOf(puppets, set) {
					t.Errorf("%s: ShortSet of %v is %v, but %v is short too", playersText(c.list), puppets, set, subset)
				}
				if len(subset) < len(shortest) {
					shortest = subset
				}
				if slices.Compare(subset, least) < 0 {
					least = subset
				}
			}
			several += min(others, 1)
			if len(shortest) < len(set) {
				shorter++
			}
			if slices.Compare(least, set) < 0 {
				smaller++
			}
		}
	}
	if several < 1000 || shorter < 50 || smaller < 50 {
		t.Errorf("only %d short sets have others behind them, %d a shorter one, %d one before them in lexicographic order", several, shorter, smaller)
	}
}

// TestProofsOfOnePuppet has each puppet alone, known to each one of up to six
// players.
func TestProofsOfOnePuppet(t *testing.T) {
	for puppet := range 7 {
		others := slices.Delete(sortedOrder(7), puppet, puppet+1)
		one := []int{puppet}
		check := func(name string, list []impl.Player, hands int) {
			t.Helper()
			set, short := impl.ShortSet(list, one)
			if got := impl.HandsFor(list, one); got != hands {
				t.Errorf("%s: HandsFor %d is %d, want %d", name, puppet, got, hands)
			}
			if impl.IsShort(list, one) != (hands == 0) || short != (hands == 0) || short != slices.Equal(set, one) {
				t.Errorf("%s: ShortSet of %d is %v and %v", name, puppet, set, short)
			}
			if most, lack := impl.MostCast(list, one), impl.LackOf(list, one); most != min(hands, 1) || lack != 1-min(hands, 1) {
				t.Errorf("%s: MostCast of %d is %d, LackOf %d", name, puppet, most, lack)
			}
			checkProof(t, list, one)
		}
		for count := 1; count <= 6; count++ {
			check("known to nobody", equalTo(count, 2, others...), 0)
			check("nobody knows anything", equalTo(count, 2), 0)
			check("only known to players without hands", equalTo(count, 0, puppet), 0)
			check("known to all", ableAll(count), 2*count)
			for i := range count {
				list := equalTo(count, 2, others...)
				check("known to one player without hands", withFree(withKnows(list, i, puppet), i, 0), 0)
				check("known to one player with one hand", withFree(withKnows(list, i, puppet), i, 1), 1)
				check("known to one player with two hands", withKnows(list, i, puppet), 2)
				check("one player with one hand, others without", withFree(equalTo(count, 0, puppet), i, 1), 1)
				check("one player with two hands, others without", withFree(equalTo(count, 0, puppet), i, 2), 2)
			}
		}
	}
}

func TestProofsOfNoPuppets(t *testing.T) {
	for _, c := range validPlayers() {
		for _, none := range [][]int{nil, {}} {
			hands, most, lack := impl.HandsFor(c.list, none), impl.MostCast(c.list, none), impl.LackOf(c.list, none)
			if hands != 0 || most != 0 || lack != 0 {
				t.Errorf("%s: of no puppets, HandsFor is %d, MostCast %d and LackOf %d", c.name, hands, most, lack)
			}
			if set, short := impl.ShortSet(c.list, none); impl.IsShort(c.list, none) || short || len(set) != 0 {
				t.Errorf("%s: ShortSet of no puppets is %v and %v", c.name, set, short)
			}
		}
	}
}

// TestProofsOfExactHands has as many hands as there are puppets, and then takes
// one of them away from each player in turn.
func TestProofsOfExactHands(t *testing.T) {
	for _, puppets := range subsetsOf(sortedOrder(7)...) {
		if len(puppets) == 0 {
			continue
		}
		forAllLists(4, 0, 2, func(free []int) {
			if sumOf(free) != len(puppets) {
				return
			}
			list := ableAll(4)
			for i := range list {
				list[i].Free = free[i]
			}
			if set, short := impl.ShortSet(list, puppets); short || impl.MostCast(list, puppets) != len(puppets) || impl.LackOf(list, puppets) != 0 {
				t.Errorf("%s: ShortSet of %v is %v", playersText(list), puppets, set)
			}
			for i := range list {
				if free[i] == 0 {
					continue
				}
				fewer := withFree(list, i, free[i]-1)
				set, short := impl.ShortSet(fewer, puppets)
				if !short || !slices.Equal(set, puppets) || !impl.IsShort(fewer, puppets) {
					t.Errorf("%s: ShortSet of %v is %v and %v", playersText(fewer), puppets, set, short)
				}
				if most, lack := impl.MostCast(fewer, puppets), impl.LackOf(fewer, puppets); most != len(puppets)-1 || lack != 1 {
					t.Errorf("%s: MostCast of %v is %d, LackOf %d", playersText(fewer), puppets, most, lack)
				}
			}
		})
	}
}

// TestLackIsFilled has one player more, who knows all puppets: the hands fill
// the lack, as far as they are enough.
func TestLackIsFilled(t *testing.T) {
	filled := 0
	for _, c := range validPlayers() {
		if len(c.list) == 6 {
			continue
		}
		for _, puppets := range subsetsOf(sortedOrder(7)...) {
			most, lack := impl.MostCast(c.list, puppets), impl.LackOf(c.list, puppets)
			for free := range 3 {
				more := withPlayer(c.list, free, sortedOrder(7)...)
				if got, want := impl.LackOf(more, puppets), max(lack-free, 0); got != want {
					t.Errorf("%s: LackOf %v is %d, want %d", playersText(more), puppets, got, want)
				}
				if got, want := impl.MostCast(more, puppets), min(most+free, len(puppets)); got != want {
					t.Errorf("%s: MostCast of %v is %d, want %d", playersText(more), puppets, got, want)
				}
				if _, short := impl.ShortSet(more, puppets); short != (lack > free) {
					t.Errorf("%s: ShortSet of %v is %v", playersText(more), puppets, short)
				}
				if free > 0 && lack == free {
					filled++
				}
			}
		}
	}
	if filled < 500 {
		t.Errorf("only %d lists have just the hands that they lack", filled)
	}
}

// TestMostCastOfFewerPuppets takes one puppet away, which had a hand or not.
func TestMostCastOfFewerPuppets(t *testing.T) {
	same, fewer := 0, 0
	for _, c := range validPlayers() {
		around := copyOfPlayers(c.list)
		slices.Reverse(around)
		for _, puppets := range subsetsOf(sortedOrder(7)...) {
			most, lack := impl.MostCast(c.list, puppets), impl.LackOf(c.list, puppets)
			if m, l := impl.MostCast(around, puppets), impl.LackOf(around, puppets); m != most || l != lack {
				t.Errorf("%s: MostCast of %v is %d, LackOf %d, but %d and %d backwards", playersText(c.list), puppets, most, lack, m, l)
			}
			if most > impl.HandsFor(c.list, puppets) || most > len(puppets) || most < 0 {
				t.Errorf("%s: MostCast of %v is %d", playersText(c.list), puppets, most)
			}
			for i := range puppets {
				rest := impl.MostCast(c.list, slices.Delete(slices.Clone(puppets), i, i+1))
				if rest != most && rest != most-1 {
					t.Errorf("%s: MostCast of %v is %d, but %d without one", playersText(c.list), puppets, most, rest)
				}
				fewer += most - rest
				same += 1 - (most - rest)
			}
		}
	}
	if same < 1000 || fewer < 1000 {
		t.Errorf("a puppet less only makes %d castings smaller, and leaves %d as they are", fewer, same)
	}
}

// checkNoProof checks the fixed results for what is not valid.
func checkNoProof(t *testing.T, name string, list []impl.Player, puppets []int) {
	t.Helper()
	hands, most, lack := impl.HandsFor(list, puppets), impl.MostCast(list, puppets), impl.LackOf(list, puppets)
	if hands != -1 || most != -1 || lack != -1 {
		t.Errorf("%s: of %v, HandsFor is %d, MostCast %d and LackOf %d, want -1", name, puppets, hands, most, lack)
	}
	if impl.IsShort(list, puppets) {
		t.Errorf("%s: IsShort of %v is true", name, puppets)
	}
	if set, short := impl.ShortSet(list, puppets); len(set) != 0 || short {
		t.Errorf("%s: ShortSet of %v is %v and %v", name, puppets, set, short)
	}
}

func TestProofsOfInvalidPlayers(t *testing.T) {
	for _, c := range invalidPlayers() {
		for _, puppets := range append(strangePuppets(), subsetsOf(0, 2, 6)...) {
			checkNoProof(t, c.name, c.list, puppets)
		}
	}
	for _, free := range numbersAround(0, 2) {
		for i := range 6 {
			list := withFree(ableAll(6), i, free)
			if free < 0 || free > 2 {
				checkNoProof(t, impl.FormatInt(free)+" hands", list, sortedOrder(7))
				checkNoProof(t, impl.FormatInt(free)+" hands", list, nil)
			} else {
				checkProof(t, list, sortedOrder(7))
			}
		}
	}
	for count := 7; count < 20; count++ {
		checkNoProof(t, impl.FormatInt(count)+" players", ableAll(count), []int{0})
		checkNoProof(t, impl.FormatInt(count)+" players", equalTo(count, 0), nil)
	}
}

func TestProofsOfStrangePuppets(t *testing.T) {
	for _, c := range validPlayers() {
		for _, puppets := range strangePuppets() {
			checkNoProof(t, c.name, c.list, puppets)
		}
	}
	list := players("0,1/1 1,2/2 6/0")
	forManyPuppets(func(puppets []int) {
		if isRising(puppets, 7) {
			checkProof(t, list, puppets)
		} else {
			checkNoProof(t, playersText(list), list, puppets)
		}
	})
}

// TestProofsForInvalidKnows has lists of Knows of all kinds for one player.
func TestProofsForInvalidKnows(t *testing.T) {
	for count := range 4 {
		forAllLists(count, -1, 7, func(knows []int) {
			list := withKnows(players("0/1 -/2 5,6/2"), 1, knows...)
			for _, puppets := range [][]int{nil, {0}, {3, 5}} {
				if isRising(knows, 7) {
					checkProof(t, list, puppets)
				} else {
					checkNoProof(t, playersText(list), list, puppets)
				}
			}
		})
	}
}

func TestProofArgumentsAreLeftUnchanged(t *testing.T) {
	forSomeCasts(func(c namedPlayers, puppets []int, _ []int) {
		list, checkList := watchedPlayers(t, c.list)
		roomyPuppets, checkPuppets := watchedList(t, puppets)
		check := func(by string) {
			t.Helper()
			checkList(by)
			checkPuppets(by)
		}
		impl.HandsFor(list, roomyPuppets)
		check("HandsFor")
		impl.IsShort(list, roomyPuppets)
		check("IsShort")
		impl.ShortSet(list, roomyPuppets)
		check("ShortSet")
		impl.MostCast(list, roomyPuppets)
		check("MostCast")
		impl.LackOf(list, roomyPuppets)
		check("LackOf")
		if len(list) > 0 {
			// The same list as both.
			knows := list[0].Knows
			impl.HandsFor(list, knows)
			impl.IsShort(list, knows)
			impl.ShortSet(list, knows)
			impl.MostCast(list, knows)
			impl.LackOf(list, knows)
			check("a call with Knows as puppets")
		}
	})
}

// forSomeShort visits players and puppets with a ShortSet.
func forSomeShort(visit func(c namedPlayers, puppets []int, set []int)) {
	for i, c := range validPlayers() {
		for k, puppets := range subsetsOf(sortedOrder(7)...) {
			if set, short := impl.ShortSet(c.list, puppets); short && (len(set) == len(puppets) || (i+k)%3 == 0) {
				visit(c, puppets, set)
			}
		}
	}
}

// TestShortSetIsNewMemory changes one of two results of the same call, also
// behind its end, and looks at the arguments and at the other one.
func TestShortSetIsNewMemory(t *testing.T) {
	whole := 0
	forSomeShort(func(c namedPlayers, puppets []int, want []int) {
		list, checkList := watchedPlayers(t, c.list)
		roomyPuppets, checkPuppets := watchedList(t, puppets)
		got, _ := impl.ShortSet(list, roomyPuppets)
		other, _ := impl.ShortSet(list, roomyPuppets)
		overwritePoses([][]int{other})
		checkList(c.name + ": a change of a result")
		checkPuppets(c.name + ": a change of a result")
		if again, _ := impl.ShortSet(list, roomyPuppets); !slices.Equal(got, want) || !slices.Equal(again, want) {
			t.Errorf("%s: a change of one ShortSet changes another one to %v or %v, want %v", c.name, got, again, want)
		}
		if len(got) == len(puppets) {
			whole++
		}
	})
	if whole < 100 {
		t.Errorf("only %d sets have all puppets", whole)
	}
}

// TestShortSetIsKeptApart changes the arguments behind the call.
func TestShortSetIsKeptApart(t *testing.T) {
	forSomeShort(func(c namedPlayers, puppets []int, want []int) {
		list, _ := roomyPlayers(c.list)
		roomyPuppets, _ := roomyList(puppets)
		got, _ := impl.ShortSet(list, roomyPuppets)
		// Knows as puppets, so that a set could be a part of the players.
		knows := list[0].Knows
		wantKnown, _ := impl.ShortSet(c.list, c.list[0].Knows)
		known, _ := impl.ShortSet(list, knows)
		for _, changed := range wholePlayers(list) {
			overwritePoses([][]int{changed.Knows})
		}
		clear(list)
		overwritePoses([][]int{roomyPuppets})
		if !slices.Equal(got, want) || !slices.Equal(known, wantKnown) {
			t.Errorf("%s: behind a change of the arguments, ShortSet is %v and %v, want %v and %v", c.name, got, known, want, wantKnown)
		}
	})
}

// TestProofResultsAreRepeated calls each function again, as the result of a call
// depends only on its arguments.
func TestProofResultsAreRepeated(t *testing.T) {
	results := func(list []impl.Player, puppets []int) []int {
		set, short := impl.ShortSet(list, puppets)
		numbers := append(set, impl.HandsFor(list, puppets), impl.MostCast(list, puppets), impl.LackOf(list, puppets))
		for _, is := range []bool{short, impl.IsShort(list, puppets)} {
			if is {
				numbers = append(numbers, 1)
			} else {
				numbers = append(numbers, 0)
			}
		}
		return numbers
	}
	forSomeCasts(func(c namedPlayers, puppets []int, _ []int) {
		want := results(c.list, puppets)
		for range 3 {
			if got := results(c.list, puppets); !slices.Equal(got, want) {
				t.Errorf("%s: the results of %v are %v and then %v", c.name, puppets, want, got)
			}
		}
	})
}
