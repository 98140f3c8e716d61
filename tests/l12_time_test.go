package tests

import (
	"math"
	"slices"
	"strings"
	"testing"

	"loop.example/g03306/impl"
)

// timedCues reads one cue from each field: the Ticks, the After and the Puppets
// with slashes between them, "3/0,1/-", say.
func timedCues(text string) []impl.Cue {
	var list []impl.Cue
	for _, field := range strings.Fields(text) {
		parts := strings.Split(field, "/")
		list = append(list, impl.Cue{Ticks: numbersIn(parts[0])[0], After: numbersIn(parts[1]), Puppets: numbersIn(parts[2])})
	}
	return list
}

// timedText is what timedCues reads.
func timedText(list []impl.Cue) string {
	fields := strings.Fields(afterText(list))
	for i, c := range list {
		puppets := afterText([]impl.Cue{{After: c.Puppets}})
		fields[i] = impl.FormatInt(c.Ticks) + "/" + fields[i] + "/" + puppets
	}
	return strings.Join(fields, " ")
}

// withAllTicks has the same Ticks for all cues.
func withAllTicks(list []impl.Cue, ticks int) []impl.Cue {
	changed := copyOfCues(list)
	for i := range changed {
		changed[i].Ticks = ticks
	}
	return changed
}

// withAllPuppets has the same Puppets for all cues.
func withAllPuppets(list []impl.Cue, puppets ...int) []impl.Cue {
	changed := copyOfCues(list)
	for i := range changed {
		changed[i].Puppets = slices.Clone(puppets)
	}
	return changed
}

// withChanceActing has Ticks and Puppets of all kinds: one puppet of a number of
// times acts in a cue.
func withChanceActing(next func(below int) int, list []impl.Cue, times int) []impl.Cue {
	changed := withAllPuppets(list)
	for i := range changed {
		changed[i].Ticks = next(50) + 1
		for puppet := range 7 {
			if next(times) == 0 {
				changed[i].Puppets = append(changed[i].Puppets, puppet)
			}
		}
	}
	return changed
}

// timedLists are valid: those of validCues, some with the fewest and the most
// Ticks, with no puppets, with one and with all, and many by chance.
func timedLists() []namedCues {
	next := fromChance(12)
	lists := validCues()
	for i, c := range validCues() {
		lists = append(lists, namedCues{c.name + ", by chance", withChanceActing(next, c.list, i%7+2)})
		switch i % 5 {
		case 0:
			lists = append(lists, namedCues{c.name + ", 1 tick and no puppets", withAllTicks(withAllPuppets(c.list), 1)})
		case 1:
			lists = append(lists, namedCues{c.name + ", 50 ticks and all puppets", withAllTicks(withAllPuppets(c.list, sortedOrder(7)...), 50)})
		case 2:
			lists = append(lists, namedCues{c.name + ", one puppet", withAllPuppets(c.list, i%7)})
		case 3:
			lists = append(lists, namedCues{c.name + ", no puppets", withAllPuppets(c.list)})
		}
	}
	return lists
}

// delayedStarts begin each cue as soon as all of its After are over, but no cue
// before its tick in least. It looks at all cues as often as there are some,
// whichever waits for which.
func delayedStarts(list []impl.Cue, least []int) []int {
	starts := slices.Clone(least)
	for range list {
		for i, c := range list {
			for _, k := range c.After {
				starts[i] = max(starts[i], starts[k]+list[k].Ticks)
			}
		}
	}
	return starts
}

// lengthOf is the tick after which all cues are over.
func lengthOf(list []impl.Cue, starts []int) int {
	length := 0
	for i, c := range list {
		length = max(length, starts[i]+c.Ticks)
	}
	return length
}

// actAt reports whether a cue acts at a tick, if it begins at start.
func actAt(c impl.Cue, start int, tick int) bool {
	return tick >= start && tick < start+c.Ticks
}

// collide reports whether two cues have a puppet in common, and a tick too, by
// looking at each tick of the first one.
func collide(c impl.Cue, start int, d impl.Cue, other int) bool {
	common := slices.ContainsFunc(c.Puppets, func(puppet int) bool { return slices.Contains(d.Puppets, puppet) })
	for tick := start; common && tick < start+c.Ticks; tick++ {
		if actAt(d, other, tick) {
			return true
		}
	}
	return false
}

// collisions are the clashes of a list with a start for each cue.
func collisions(list []impl.Cue, starts []int) [][]int {
	var pairs [][]int
	for i := range list {
		for k := range list {
			if i < k && collide(list[i], starts[i], list[k], starts[k]) {
				pairs = append(pairs, []int{i, k})
			}
		}
	}
	return pairs
}

// keepsAfter reports whether no cue begins before one of its After is over.
func keepsAfter(list []impl.Cue, starts []int) bool {
	return slices.Equal(delayedStarts(list, starts), starts)
}

// startsFit reports whether there is a start in its range for each of these many
// cues.
func startsFit(count int, starts []int) bool {
	return len(starts) == count && !slices.ContainsFunc(starts, func(n int) bool { return n < 0 || n > 10000 })
}

// simplePlanOf tries one tick after the other for each cue in the order.
func simplePlanOf(list []impl.Cue) []int {
	starts := make([]int, len(list))
	var placed []int
	for _, i := range impl.CueOrder(list) {
		for slices.ContainsFunc(placed, func(k int) bool {
			common := slices.ContainsFunc(list[i].Puppets, func(puppet int) bool { return slices.Contains(list[k].Puppets, puppet) })
			return (common || slices.Contains(list[i].After, k)) && starts[i] < starts[k]+list[k].Ticks
		}) {
			starts[i]++
		}
		placed = append(placed, i)
	}
	return starts
}

// startsAround are starts of all kinds for these many cues: all at once, one by
// one, by chance, at the ends of the range, and some that are not valid.
func startsAround(next func(below int) int, list []impl.Cue) [][]int {
	count := len(list)
	lists := [][]int{nil, {}, make([]int, count), make([]int, count+1), make([]int, max(count-1, 0)), make([]int, 30),
		slices.Repeat([]int{10000}, count), slices.Repeat([]int{10001}, count), slices.Repeat([]int{-1}, count),
		counted(count, 0, 50), counted(count, 1000, -50), counted(count, 0, 19), counted(count, 10000, -1)}
	for _, below := range []int{5, 60, 300, 600} {
		starts := make([]int, count)
		for i := range starts {
			starts[i] = next(below)
		}
		lists = append(lists, starts)
	}
	return lists
}

func TestStartsOf(t *testing.T) {
	for _, c := range []struct {
		text string
		want []int
	}{
		{"7/-/-", []int{0}},
		{"1/-/-", []int{0}},
		{"50/-/0,1,2,3,4,5,6", []int{0}},
		{"3/-/0,1 2/-/1 4/0/0", []int{0, 0, 3}},
		{"3/-/- 2/0/-", []int{0, 3}},
		{"3/1/- 2/-/-", []int{2, 0}},
		{"1/-/- 1/0/- 1/1/-", []int{0, 1, 2}},
		{"50/1/- 50/2/- 50/-/-", []int{100, 50, 0}},
		{"3/-/- 5/-/- 1/0,1/-", []int{0, 0, 5}},
		{"5/-/- 3/-/- 1/0,1/-", []int{0, 0, 5}},
		// The way over 1 is longer than the way over 2, or the same, or shorter.
		{"2/-/- 9/0/- 4/0/- 1/1,2/-", []int{0, 2, 2, 11}},
		{"2/-/- 4/0/- 4/0/- 1/1,2/-", []int{0, 2, 2, 6}},
		{"2/-/- 4/0/- 9/0/- 1/1,2/-", []int{0, 2, 2, 11}},
		// A short cue that waits is over later than a long one that does not.
		{"30/-/- 3/-/- 28/1/- 1/0,2/-", []int{0, 0, 3, 31}},
		{"9/1,2/- 4/3/- 7/3/- 2/-/-", []int{9, 2, 2, 0}},
		// Puppets in common do not keep a cue waiting.
		{"3/-/2 4/-/2 5/-/2", []int{0, 0, 0}},
		{"1/2/- 9/-/- 3/3/- 2/-/-", []int{5, 0, 2, 0}},
	} {
		if got := impl.StartsOf(timedCues(c.text)); !slices.Equal(got, c.want) {
			t.Errorf("%s: StartsOf are %v, want %v", c.text, got, c.want)
		}
	}
}

func TestPlayTime(t *testing.T) {
	for _, c := range []struct {
		name string
		list []impl.Cue
		want int
	}{
		{"one cue", timedCues("7/-/-"), 7},
		{"one cue of 1 tick", timedCues("1/-/0"), 1},
		{"one cue of 50 ticks", timedCues("50/-/0"), 50},
		{"three cues", timedCues("3/-/0,1 2/-/1 4/0/0"), 7},
		{"the first one is the longest", timedCues("9/-/- 2/-/- 4/1/-"), 9},
		{"the longest one is in the middle", timedCues("3/-/- 8/-/- 4/0/-"), 8},
		{"the last one waits", timedCues("3/-/- 8/-/- 6/0/-"), 9},
		{"the first one waits", timedCues("6/2/- 8/-/- 3/-/-"), 9},
		{"the one that begins last is not over last", timedCues("1/-/- 1/0/- 20/-/-"), 20},
		{"the longer way", timedCues("2/-/- 9/0/- 4/0/- 1/1,2/-"), 12},
		{"twelve free cues of 1 tick", withAllTicks(freeCues(12), 1), 1},
		{"twelve free cues of 50 ticks", withAllTicks(freeCues(12), 50), 50},
		{"twelve cues of 1 tick in a line", withAllTicks(cuesInChain(sortedOrder(12)), 1), 12},
		{"twelve cues of 50 ticks in a line", withAllTicks(cuesInChain(sortedOrder(12)), 50), 600},
		{"twelve cues of 50 ticks in a line of later numbers", withAllTicks(cuesInChain(reversedOrder(12)), 50), 600},
		{"twelve crowded cues of 50 ticks", withAllTicks(crowdedCues(reversedOrder(12)), 50), 600},
		{"all puppets in common", withAllPuppets(timedCues("3/-/- 2/-/- 4/-/-"), sortedOrder(7)...), 4},
		{"no cues", nil, -1},
		{"thirteen cues", freeCues(13), -1},
		{"a circle", timedCues("3/1/- 2/0/-"), -1},
		{"0 ticks", timedCues("0/-/-"), -1},
		{"51 ticks", timedCues("51/-/-"), -1},
	} {
		if got := impl.PlayTime(c.list); got != c.want {
			t.Errorf("%s: PlayTime is %d, want %d", c.name, got, c.want)
		}
	}
}

func TestLatestStarts(t *testing.T) {
	for _, c := range []struct {
		text string
		want []int
	}{
		{"7/-/-", []int{0}},
		{"50/-/-", []int{0}},
		{"3/-/0,1 2/-/1 4/0/0", []int{0, 5, 3}},
		{"3/-/- 2/-/- 4/-/-", []int{1, 2, 0}},
		{"3/-/- 2/0/-", []int{0, 3}},
		{"3/1/- 2/-/-", []int{2, 0}},
		{"1/-/- 1/0/- 1/1/-", []int{0, 1, 2}},
		{"50/1/- 50/2/- 50/-/-", []int{100, 50, 0}},
		{"3/-/- 5/-/- 1/0,1/-", []int{2, 0, 5}},
		{"2/-/- 9/0/- 4/0/- 1/1,2/-", []int{0, 2, 7, 11}},
		{"9/1,2/- 4/3/- 7/3/- 2/-/-", []int{9, 5, 2, 0}},
		// 0 has to be over before both, of which one comes as late as it can.
		{"2/-/- 3/0/- 8/0/- 20/-/-", []int{10, 17, 12, 0}},
		{"2/-/- 8/0/- 3/0/- 20/-/-", []int{10, 12, 17, 0}},
		// A line of two that waits for nothing and for which nothing waits.
		{"20/-/- 3/-/- 4/1/-", []int{0, 13, 16}},
		{"4/1/- 3/-/- 20/-/-", []int{16, 13, 0}},
		// Puppets in common do not keep a cue waiting.
		{"3/-/2 4/-/2 5/-/2", []int{2, 1, 0}},
	} {
		if got := impl.LatestStarts(timedCues(c.text)); !slices.Equal(got, c.want) {
			t.Errorf("%s: LatestStarts are %v, want %v", c.text, got, c.want)
		}
	}
}

// TestTimesByDefinition delays each cue alone: up to its latest start, all are
// over after the play time, and one tick more is too late.
func TestTimesByDefinition(t *testing.T) {
	for _, c := range timedLists() {
		name := c.name + ", " + timedText(c.list)
		want := delayedStarts(c.list, make([]int, len(c.list)))
		starts, latest, time := impl.StartsOf(c.list), impl.LatestStarts(c.list), impl.PlayTime(c.list)
		if !slices.Equal(starts, want) || time != lengthOf(c.list, want) || len(latest) != len(want) {
			t.Errorf("%s: StartsOf are %v, LatestStarts %v, PlayTime is %d", name, starts, latest, time)
			continue
		}
		for i := range c.list {
			least := make([]int, len(c.list))
			least[i] = latest[i]
			inTime := lengthOf(c.list, delayedStarts(c.list, least))
			least[i]++
			late := lengthOf(c.list, delayedStarts(c.list, least))
			if latest[i] < starts[i] || inTime != time || late != time+1 {
				t.Errorf("%s: LatestStarts are %v, which take %d of %d, and %d with one tick more", name, latest, inTime, time, late)
			}
		}
	}
}

// TestSomethingMustBeginAtOnce follows a way without any room from the first
// tick to the last one: on it, the latest starts are the earliest ones.
func TestSomethingMustBeginAtOnce(t *testing.T) {
	for _, c := range timedLists() {
		starts, latest, tick := impl.StartsOf(c.list), impl.LatestStarts(c.list), 0
		for tick < impl.PlayTime(c.list) {
			i := slices.IndexFunc(sortedOrder(len(c.list)), func(i int) bool { return starts[i] == tick && latest[i] == tick })
			if i < 0 {
				t.Errorf("%s: StartsOf are %v, LatestStarts %v, and no cue must begin at %d", timedText(c.list), starts, latest, tick)
				break
			}
			tick += c.list[i].Ticks
		}
	}
}

func TestClashesIn(t *testing.T) {
	seven := sortedOrder(7)
	for _, c := range []struct {
		name   string
		list   []impl.Cue
		starts []int
		want   [][]int
	}{
		{"one cue", timedCues("5/-/0"), []int{0}, nil},
		{"one cue at 10000", timedCues("50/-/0"), []int{10000}, nil},
		{"the same tick", timedCues("3/-/0,1 2/-/1 4/0/0"), []int{0, 0, 3}, [][]int{{0, 1}}},
		{"no puppets", timedCues("5/-/- 5/-/-"), []int{0, 0}, nil},
		{"puppets of the first one alone", timedCues("5/-/0,1 5/-/-"), []int{0, 0}, nil},
		{"puppets of the second one alone", timedCues("5/-/- 5/-/0,1"), []int{0, 0}, nil},
		{"no puppet in common", timedCues("5/-/0,2,4 5/-/1,3,5"), []int{0, 0}, nil},
		{"the puppet 0", timedCues("5/-/0 5/-/0"), []int{0, 0}, [][]int{{0, 1}}},
		{"the puppet 6", timedCues("5/-/6 5/-/6"), []int{0, 0}, [][]int{{0, 1}}},
		{"the last puppet of the first one", timedCues("5/-/0,1,2 5/-/2,3"), []int{0, 0}, [][]int{{0, 1}}},
		{"the last puppet of the second one", timedCues("5/-/4,5 5/-/0,1,4"), []int{0, 0}, [][]int{{0, 1}}},
		{"all puppets", withAllPuppets(timedCues("5/-/- 5/-/-"), seven...), []int{0, 0}, [][]int{{0, 1}}},
		{"the second one begins at the end", timedCues("5/-/0 7/-/0"), []int{10, 15}, nil},
		{"the second one begins before the end", timedCues("5/-/0 7/-/0"), []int{10, 14}, [][]int{{0, 1}}},
		{"the first one begins at the end", timedCues("5/-/0 7/-/0"), []int{10, 3}, nil},
		{"the first one begins before the end", timedCues("5/-/0 7/-/0"), []int{10, 4}, [][]int{{0, 1}}},
		{"the second one within the first one", timedCues("50/-/0 1/-/0"), []int{10, 30}, [][]int{{0, 1}}},
		{"the first one within the second one", timedCues("1/-/0 50/-/0"), []int{30, 10}, [][]int{{0, 1}}},
		{"1 tick at the same tick", timedCues("1/-/0 1/-/0"), []int{4, 4}, [][]int{{0, 1}}},
		{"1 tick side by side", timedCues("1/-/0 1/-/0"), []int{4, 5}, nil},
		{"1 tick at the end of 50", timedCues("50/-/0 1/-/0"), []int{0, 50}, nil},
		{"1 tick at the last one of 50", timedCues("50/-/0 1/-/0"), []int{0, 49}, [][]int{{0, 1}}},
		{"far from each other", timedCues("50/-/0 50/-/0"), []int{10000, 0}, nil},
		{"at 10000 both", timedCues("50/-/0 50/-/0"), []int{10000, 10000}, [][]int{{0, 1}}},
		{"at 10000 and just before", timedCues("50/-/0 50/-/0"), []int{10000, 9951}, [][]int{{0, 1}}},
		{"at 10000 and just at the end", timedCues("50/-/0 50/-/0"), []int{10000, 9950}, nil},
		{"one waits for the other one", timedCues("5/-/0 5/0/0"), []int{0, 4}, [][]int{{0, 1}}},
		{"one waits for the other one, which is later", timedCues("5/1/0 5/-/0"), []int{0, 0}, [][]int{{0, 1}}},
		{"one waits for the other one, but before it", timedCues("5/-/0 5/0/0"), []int{20, 0}, nil},
		{"one waits over another one", timedCues("5/-/3 5/0/- 5/1/3"), []int{0, 0, 0}, [][]int{{0, 2}}},
		{"neither waits for the other one", timedCues("5/-/- 5/0/3 5/0/3"), []int{0, 5, 5}, [][]int{{1, 2}}},
		{"three, the first and the last one", timedCues("5/-/1 5/-/2 5/-/1"), []int{2, 2, 2}, [][]int{{0, 2}}},
		{"three in a row, each with the next one", timedCues("5/-/1 5/-/1 5/-/1"), []int{0, 4, 8}, [][]int{{0, 1}, {1, 2}}},
		{"three in a row, backwards", timedCues("5/-/1 5/-/1 5/-/1"), []int{8, 4, 0}, [][]int{{0, 1}, {1, 2}}},
		{"by other puppets each", timedCues("5/-/0,1 5/-/1,2 5/-/0,2"), []int{0, 0, 0}, [][]int{{0, 1}, {0, 2}, {1, 2}}},
		{"four, all", timedCues("5/-/1 5/-/1 5/-/1 5/-/1"), []int{3, 0, 4, 1}, [][]int{{0, 1}, {0, 2}, {0, 3}, {1, 2}, {1, 3}, {2, 3}}},
		{"the last one begins first", timedCues("5/-/1 5/-/1 5/-/- 5/-/1"), []int{3, 30, 4, 0}, [][]int{{0, 3}}},
		{"too few starts", timedCues("5/-/0 5/-/0"), []int{0}, nil},
		{"too many starts", timedCues("5/-/0 5/-/0"), []int{0, 0, 0}, nil},
		{"nil starts", timedCues("5/-/0 5/-/0"), nil, nil},
		{"a start at -1", timedCues("5/-/0 5/-/0"), []int{0, -1}, nil},
		{"a first start at -1", timedCues("5/-/0 5/-/0"), []int{-1, 0}, nil},
		{"a start at 10001", timedCues("5/-/0 5/-/0"), []int{10000, 10001}, nil},
		{"a first start at 10001", timedCues("5/-/0 5/-/0"), []int{10001, 10000}, nil},
		{"a start at -1 beside", timedCues("5/-/0 5/-/0 5/-/-"), []int{0, 0, -1}, nil},
		{"a start at 10001 beside", timedCues("5/-/0 5/-/0 5/-/-"), []int{0, 0, 10001}, nil},
		{"no cues", nil, nil, nil},
		{"thirteen cues", withAllPuppets(freeCues(13), 1), make([]int, 13), nil},
		{"a circle beside", timedCues("5/-/0 5/-/0 5/2/-"), make([]int, 3), nil},
		{"0 ticks beside", timedCues("5/-/0 5/-/0 0/-/-"), make([]int, 3), nil},
	} {
		if got := impl.ClashesIn(c.list, c.starts); !equalPoses(got, c.want) {
			t.Errorf("%s: ClashesIn are %v, want %v", c.name, got, c.want)
		}
	}
}

// TestAllClashes has twelve cues with a puppet in common, and all pairs of them.
func TestAllClashes(t *testing.T) {
	var want [][]int
	for i := range 12 {
		for k := i + 1; k < 12; k++ {
			want = append(want, []int{i, k})
		}
	}
	for _, list := range [][]impl.Cue{freeCues(12), cuesInChain(reversedOrder(12)), crowdedCues(sortedOrder(12))} {
		got := impl.ClashesIn(withAllPuppets(list, 3), slices.Repeat([]int{10}, 12))
		if !equalPoses(got, want) {
			t.Errorf("%s: ClashesIn are %v, want %v", afterText(list), got, want)
		}
	}
}

func TestClashesByDefinition(t *testing.T) {
	next := fromChance(19)
	clashes := 0
	for _, c := range timedLists() {
		for _, starts := range startsAround(next, c.list) {
			var want [][]int
			if startsFit(len(c.list), starts) {
				want = collisions(c.list, starts)
			}
			clashes += len(want)
			if got := impl.ClashesIn(c.list, starts); !equalPoses(got, want) {
				t.Errorf("%s: ClashesIn of %v are %v, want %v", timedText(c.list), starts, got, want)
			}
		}
	}
	if clashes < 10000 {
		t.Errorf("there are only %d clashes", clashes)
	}
}

// TestClashesAtAllTicks moves one of two cues along the other one, of all pairs
// of short and long cues.
func TestClashesAtAllTicks(t *testing.T) {
	for _, a := range []int{1, 2, 3, 49, 50} {
		for _, b := range []int{1, 2, 3, 49, 50} {
			list := []impl.Cue{{Ticks: a, Puppets: []int{2, 5}}, {Ticks: b, Puppets: []int{1, 5, 6}}}
			for start := range 121 {
				starts := []int{60, start}
				want := collisions(list, starts)
				if got := impl.ClashesIn(list, starts); !equalPoses(got, want) || impl.IsPlan(list, starts) != (len(want) == 0) {
					t.Errorf("%s: ClashesIn of %v are %v, want %v", timedText(list), starts, got, want)
				}
			}
		}
	}
}

// TestClashesOfAllPuppets has all sets of puppets for two cues.
func TestClashesOfAllPuppets(t *testing.T) {
	setOf := func(bits int) []int {
		var puppets []int
		for puppet := range 7 {
			if bits>>puppet&1 == 1 {
				puppets = append(puppets, puppet)
			}
		}
		return puppets
	}
	for a := range 1 << 7 {
		for b := range 1 << 7 {
			list := []impl.Cue{{Ticks: 3, Puppets: setOf(a)}, {Ticks: 5, Puppets: setOf(b)}}
			if got := impl.ClashesIn(list, []int{2, 1}); (len(got) == 1) != (a&b != 0) {
				t.Errorf("%s: ClashesIn are %v", timedText(list), got)
			}
			if got := impl.ClashesIn(list, []int{2, 5}); len(got) != 0 {
				t.Errorf("%s: ClashesIn are %v, want none", timedText(list), got)
			}
		}
	}
}

func TestIsPlan(t *testing.T) {
	for _, c := range []struct {
		name   string
		list   []impl.Cue
		starts []int
		want   bool
	}{
		{"one cue", timedCues("5/-/0"), []int{0}, true},
		{"one cue later", timedCues("5/-/0"), []int{77}, true},
		{"one cue at 10000", timedCues("50/-/0"), []int{10000}, true},
		{"one cue at 10001", timedCues("50/-/0"), []int{10001}, false},
		{"one cue at -1", timedCues("50/-/0"), []int{-1}, false},
		{"no start", timedCues("5/-/0"), nil, false},
		{"no start, an empty list", timedCues("5/-/0"), []int{}, false},
		{"two starts of one cue", timedCues("5/-/0"), []int{0, 0}, false},
		{"one start of two cues", timedCues("5/-/0 5/-/1"), []int{0}, false},
		{"at the end of its After", timedCues("5/-/- 3/0/-"), []int{2, 7}, true},
		{"before the end of its After", timedCues("5/-/- 3/0/-"), []int{2, 6}, false},
		{"long after its After", timedCues("5/-/- 3/0/-"), []int{2, 70}, true},
		{"at the start of its After", timedCues("5/-/- 3/0/-"), []int{2, 2}, false},
		{"over before its After begins", timedCues("5/-/- 3/0/-"), []int{20, 2}, false},
		{"at the end of a later number", timedCues("3/1/- 5/-/-"), []int{7, 2}, true},
		{"before the end of a later number", timedCues("3/1/- 5/-/-"), []int{6, 2}, false},
		{"at the end of the last one of After", timedCues("5/-/- 8/-/- 3/0,1/-"), []int{0, 0, 8}, true},
		{"before the end of the last one of After", timedCues("5/-/- 8/-/- 3/0,1/-"), []int{0, 0, 7}, false},
		{"before the end of the first one of After", timedCues("8/-/- 5/-/- 3/0,1/-"), []int{0, 0, 7}, false},
		{"three in a line", timedCues("1/-/- 1/0/- 1/1/-"), []int{0, 1, 2}, true},
		{"three in a line, the last one too soon", timedCues("1/-/- 1/0/- 1/1/-"), []int{0, 1, 1}, false},
		{"a start that is not the earliest one", timedCues("3/-/0,1 2/-/1 4/0/0"), []int{10, 2, 13}, true},
		{"with a clash", timedCues("3/-/0,1 2/-/1 4/0/0"), []int{0, 0, 3}, false},
		{"without the clash", timedCues("3/-/0,1 2/-/1 4/0/0"), []int{0, 3, 3}, true},
		{"the same tick without puppets", timedCues("3/-/- 2/-/-"), []int{4, 4}, true},
		{"the same tick with other puppets", timedCues("3/-/1,2 2/-/3,4"), []int{4, 4}, true},
		{"the same tick with a puppet in common", timedCues("3/-/1,2 2/-/2,4"), []int{4, 4}, false},
		{"one ends at the tick at which the other one begins", timedCues("3/-/1,2 2/-/2,4"), []int{4, 7}, true},
		{"the first one begins at the end", timedCues("3/-/1,2 2/-/2,4"), []int{4, 2}, true},
		{"one tick earlier", timedCues("3/-/1,2 2/-/2,4"), []int{4, 6}, false},
		{"all at 10000", timedCues("3/-/- 2/-/-"), []int{10000, 10000}, true},
		{"the last start at 10001", timedCues("3/-/- 2/-/-"), []int{10000, 10001}, false},
		{"the last start at -1", timedCues("3/-/- 2/-/-"), []int{0, -1}, false},
		{"twelve cues at once", withAllPuppets(freeCues(12)), make([]int, 12), true},
		{"twelve cues side by side", withAllTicks(withAllPuppets(freeCues(12), 0), 50), counted(12, 0, 50), true},
		{"twelve cues, too close", withAllTicks(withAllPuppets(freeCues(12), 0), 50), counted(12, 0, 49), false},
		{"twelve cues in a line backwards", withAllTicks(cuesInChain(reversedOrder(12)), 50), counted(12, 550, -50), true},
		{"twelve cues in a line forwards", withAllTicks(cuesInChain(reversedOrder(12)), 50), counted(12, 0, 50), false},
		{"thirteen cues", withAllPuppets(freeCues(13)), make([]int, 13), false},
		{"a circle", timedCues("3/1/- 2/0/-"), []int{0, 3}, false},
		{"51 ticks", timedCues("51/-/-"), []int{0}, false},
		{"no cues", nil, nil, false},
		{"no cues, an empty list", []impl.Cue{}, []int{}, false},
	} {
		if got := impl.IsPlan(c.list, c.starts); got != c.want {
			t.Errorf("%s: IsPlan is %v", c.name, got)
		}
	}
}

func TestIsPlanByDefinition(t *testing.T) {
	next := fromChance(23)
	plans, close := 0, 0
	check := func(list []impl.Cue, starts []int) bool {
		want := startsFit(len(list), starts) && keepsAfter(list, starts) && len(collisions(list, starts)) == 0
		if got := impl.IsPlan(list, starts); got != want {
			t.Errorf("%s: IsPlan of %v is %v", timedText(list), starts, got)
		}
		return want
	}
	for _, c := range timedLists() {
		for _, starts := range startsAround(next, c.list) {
			check(c.list, starts)
		}
		// Plans with room between the cues, and with one tick less.
		starts := simplePlanOf(c.list)
		for i := range starts {
			later := withNumber(starts, i, starts[i]+next(3))
			if !check(c.list, later) {
				close++
			}
			if starts[i] > 0 && !check(c.list, withNumber(starts, i, starts[i]-1)) {
				close++
			}
		}
		if check(c.list, starts) {
			plans++
		}
	}
	if plans < 500 || close < 1000 {
		t.Errorf("there are only %d plans, and %d that are close to one", plans, close)
	}
}

// TestStartsInRange has starts around their range at each place.
func TestStartsInRange(t *testing.T) {
	list := withAllPuppets(freeCues(4), 2)
	for i := range list {
		for _, n := range append(numbersAround(0, 3), numbersAround(9997, 10000)...) {
			starts := withNumber(slices.Repeat([]int{500}, 4), i, n)
			fits := n >= 0 && n <= 10000
			if got := impl.ClashesIn(list, starts); (len(got) > 0) != fits {
				t.Errorf("ClashesIn of %v are %v", starts, got)
			}
			if got := impl.IsPlan(withAllPuppets(list), starts); got != fits {
				t.Errorf("IsPlan of %v is %v", starts, got)
			}
		}
	}
}

func TestNumberOfStarts(t *testing.T) {
	for count := 1; count <= 12; count++ {
		list := withAllPuppets(freeCues(count), 4)
		for starts := range 30 {
			fits := starts == count
			if got := impl.ClashesIn(list, make([]int, starts)); (len(got) > 0) != (fits && count > 1) {
				t.Errorf("ClashesIn of %d cues and %d starts are %v", count, starts, got)
			}
			if got := impl.IsPlan(withAllPuppets(list), make([]int, starts)); got != fits {
				t.Errorf("IsPlan of %d cues and %d starts is %v", count, starts, got)
			}
		}
	}
	many := make([]int, 10000)
	if impl.IsPlan(freeCues(3), many) || len(impl.ClashesIn(freeCues(3), many)) != 0 {
		t.Error("10000 starts are not too many")
	}
}

func TestSimplePlan(t *testing.T) {
	for _, c := range []struct {
		name string
		text string
		want []int
	}{
		{"one cue", "5/-/0", []int{0}},
		{"three cues", "3/-/0,1 2/-/1 4/0/0", []int{0, 3, 3}},
		{"no puppets", "3/-/- 2/-/- 4/-/-", []int{0, 0, 0}},
		{"no puppet in common", "3/-/0 2/-/1 4/-/2,3", []int{0, 0, 0}},
		{"one puppet in common", "3/-/0 2/-/0 4/-/0", []int{0, 3, 5}},
		{"all puppets in common", "3/-/0,1,2,3,4,5,6 2/-/0,1,2,3,4,5,6", []int{0, 3}},
		{"the puppet 6 in common", "3/-/6 2/-/1,6", []int{0, 3}},
		{"in a line", "3/-/- 2/0/- 4/1/-", []int{0, 3, 5}},
		{"in a line of later numbers", "3/1/- 2/2/- 4/-/-", []int{6, 4, 0}},
		{"1 tick", "1/-/0 1/-/0 1/-/0", []int{0, 1, 2}},
		{"50 ticks", "50/-/0 50/-/0 50/-/0", []int{0, 50, 100}},
		{"waits longer for a cue than for a puppet", "9/-/- 3/-/2 1/0/2", []int{0, 0, 9}},
		{"waits longer for a puppet than for a cue", "3/-/- 9/-/2 1/0/2", []int{0, 0, 9}},
		// 0 waits for 2, which has a greater index and was placed before it.
		{"a greater index was placed before", "4/2/1 5/-/3 6/-/1", []int{6, 0, 0}},
		{"a greater index with a puppet in common is over first", "4/2/1 5/-/1 6/-/-", []int{6, 0, 0}},
		{"a greater index with a puppet in common is over last", "4/2/1 9/-/1 6/-/-", []int{9, 0, 0}},
		{"a lesser index that waits is placed before a greater one", "4/1/1 5/-/- 6/-/1", []int{5, 0, 9}},
		{"a greater index waits for one with a lesser index", "4/2/0 7/-/0 6/1/-", []int{13, 0, 7}},
		{"the order 1, 2, 3, 0", "2/3/5 3/-/5 4/-/5 6/1/-", []int{9, 0, 3, 3}},
		{"the order 1, 2, 0, 3", "2/2/5 3/-/5 4/1/5 6/1/5", []int{7, 0, 3, 9}},
		// 2 would have room before 1, but was placed behind it.
		{"room is not filled", "9/-/- 3/0/1 2/-/1", []int{0, 9, 12}},
		{"room of many ticks is not filled", "50/-/2 50/0/3 1/-/3", []int{0, 50, 100}},
		{"the one before is over last", "20/-/0 2/-/1 3/-/0,1", []int{0, 0, 20}},
		{"the one long before is over last", "2/-/0 20/-/1 3/-/0,1", []int{0, 0, 20}},
		{"over one in the middle", "4/-/0 3/-/0,1 2/-/1", []int{0, 4, 7}},
	} {
		if got := impl.SimplePlan(timedCues(c.text)); !slices.Equal(got, c.want) {
			t.Errorf("%s: SimplePlan is %v, want %v", c.name, got, c.want)
		}
	}
}

func TestSimplePlanByDefinition(t *testing.T) {
	longer := 0
	for _, c := range timedLists() {
		want := simplePlanOf(c.list)
		if got := impl.SimplePlan(c.list); !slices.Equal(got, want) {
			t.Errorf("%s: SimplePlan is %v, want %v", timedText(c.list), got, want)
		}
		if lengthOf(c.list, want) > impl.PlayTime(c.list) {
			longer++
		}
	}
	if longer < 100 {
		t.Errorf("only %d simple plans are longer than the play time", longer)
	}
}

// TestSimplePlansHaveNoClashes checks the second half of promise 12, and that a
// simple plan is a plan.
func TestSimplePlansHaveNoClashes(t *testing.T) {
	clashing := 0
	for _, c := range timedLists() {
		plan, starts := impl.SimplePlan(c.list), impl.StartsOf(c.list)
		if clashes := impl.ClashesIn(c.list, plan); len(clashes) != 0 || !impl.IsPlan(c.list, plan) {
			t.Errorf("%s: SimplePlan is %v, with the clashes %v", timedText(c.list), plan, clashes)
		}
		if length := lengthOf(c.list, plan); length < impl.PlayTime(c.list) || length > 600 {
			t.Errorf("%s: SimplePlan is %v, of %d ticks", timedText(c.list), plan, length)
		}
		// The earliest starts have clashes just where they are not a plan.
		clashes := impl.ClashesIn(c.list, starts)
		if impl.IsPlan(c.list, starts) != (len(clashes) == 0) {
			t.Errorf("%s: StartsOf are %v, with the clashes %v", timedText(c.list), starts, clashes)
		}
		if len(clashes) > 0 {
			clashing++
		}
		for _, pair := range clashes {
			if impl.WaitsFor(c.list, pair[0], pair[1]) || impl.WaitsFor(c.list, pair[1], pair[0]) {
				t.Errorf("%s: StartsOf are %v, with the clash %v of cues that wait for each other", timedText(c.list), starts, pair)
			}
		}
	}
	if clashing < 100 {
		t.Errorf("only %d lists have clashes at their earliest starts", clashing)
	}
}

// checkNotShorter checks the first half of promise 12 for starts that may be a
// plan, and reports whether they are one.
func checkNotShorter(t *testing.T, list []impl.Cue, starts []int) bool {
	t.Helper()
	if !impl.IsPlan(list, starts) {
		return false
	}
	if length, time := lengthOf(list, starts), impl.PlayTime(list); length < time {
		t.Errorf("%s: the plan %v takes %d, but the PlayTime is %d", timedText(list), starts, length, time)
	}
	for i, earliest := range impl.StartsOf(list) {
		if starts[i] < earliest {
			t.Errorf("%s: in the plan %v, cue %d begins before %d", timedText(list), starts, i, earliest)
		}
	}
	return true
}

// TestNoPlanIsShorter tries all starts of short lists.
func TestNoPlanIsShorter(t *testing.T) {
	next := fromChance(29)
	plans, shortest := 0, 0
	for count := 1; count <= 3; count++ {
		forAllGraphs(count, func(list []impl.Cue) {
			if !impl.CuesOk(list) {
				return
			}
			for range 4 {
				list = withChanceActing(next, list, 5)
				for i := range list {
					list[i].Ticks = list[i].Ticks%3 + 1
				}
				least := math.MaxInt
				forAllLists(count, 0, 7, func(starts []int) {
					if checkNotShorter(t, list, starts) {
						plans++
						least = min(least, lengthOf(list, starts))
					}
				})
				if least == impl.PlayTime(list) {
					shortest++
				}
			}
		})
	}
	if plans < 1000 || shortest < 50 {
		t.Errorf("there are only %d plans, and %d lists with one as short as the play time", plans, shortest)
	}
}

// TestNoLongPlanIsShorter begins the cues of long lists in one way or another.
func TestNoLongPlanIsShorter(t *testing.T) {
	next := fromChance(31)
	plans := 0
	for _, c := range timedLists() {
		alone := withAllPuppets(c.list)
		// Without puppets, the earliest and the latest starts are plans as short as the
		// play time.
		for _, starts := range [][]int{impl.StartsOf(alone), impl.LatestStarts(alone)} {
			if !checkNotShorter(t, alone, starts) || lengthOf(alone, starts) != impl.PlayTime(c.list) {
				t.Errorf("%s: %v is not a plan as short as the PlayTime", timedText(alone), starts)
			}
		}
		for _, starts := range startsAround(next, c.list) {
			if !startsFit(len(c.list), starts) {
				continue
			}
			if checkNotShorter(t, c.list, delayedStarts(c.list, starts)) {
				plans++
			}
		}
		checkNotShorter(t, c.list, impl.SimplePlan(c.list))
	}
	if plans < 1000 {
		t.Errorf("there are only %d plans", plans)
	}
}

// TestMovedPlans moves a whole plan, which stays one, within the range of starts.
func TestMovedPlans(t *testing.T) {
	for _, c := range timedLists() {
		plan := impl.SimplePlan(c.list)
		for _, by := range []int{1, 100, 10000 - slices.Max(plan)} {
			if later := moved(plan, by); !impl.IsPlan(c.list, later) {
				t.Errorf("%s: IsPlan of %v is false", timedText(c.list), later)
			}
		}
		for _, by := range []int{-1, 10001 - slices.Max(plan), math.MaxInt} {
			if strange := moved(plan, by); impl.IsPlan(c.list, strange) {
				t.Errorf("%s: IsPlan of %v is true", timedText(c.list), strange)
			}
		}
	}
}

// checkNoTimes checks the fixed results for a list that is not valid.
func checkNoTimes(t *testing.T, name string, list []impl.Cue) {
	t.Helper()
	if starts, latest, plan := impl.StartsOf(list), impl.LatestStarts(list), impl.SimplePlan(list); len(starts)+len(latest)+len(plan) != 0 {
		t.Errorf("%s: StartsOf are %v, LatestStarts %v, and SimplePlan is %v, want none", name, starts, latest, plan)
	}
	if got := impl.PlayTime(list); got != -1 {
		t.Errorf("%s: PlayTime is %d, want -1", name, got)
	}
	for _, starts := range [][]int{nil, make([]int, len(list)), counted(len(list), 0, 50), counted(len(list), 10, -1), {-1}, {0, 50}} {
		if got := impl.ClashesIn(list, starts); len(got) != 0 {
			t.Errorf("%s: ClashesIn of %v are %v, want none", name, starts, got)
		}
		if impl.IsPlan(list, starts) {
			t.Errorf("%s: IsPlan of %v is true", name, starts)
		}
	}
}

func TestTimesOfInvalidCues(t *testing.T) {
	for _, c := range invalidCues() {
		checkNoTimes(t, c.name, c.list)
	}
	for _, n := range append(numbersAround(0, 51), 100) {
		if n < 1 || n > 50 {
			checkNoTimes(t, impl.FormatInt(n)+" ticks", withTicks(freeCues(3), 1, n))
		}
	}
	for count := 13; count < 30; count++ {
		checkNoTimes(t, impl.FormatInt(count)+" cues", withAllPuppets(freeCues(count), 1))
	}
}

// forSomeStarts visits valid and invalid cues, with starts of all kinds.
func forSomeStarts(visit func(c namedCues, starts []int)) {
	next := fromChance(37)
	for i, c := range append(timedLists(), invalidCues()...) {
		if len(c.list) > 100 {
			visit(c, nil)
			continue
		}
		around := startsAround(next, c.list)
		visit(c, impl.SimplePlan(c.list))
		visit(c, around[i%len(around)])
		visit(c, make([]int, len(c.list)))
	}
}

func TestTimeArgumentsAreLeftUnchanged(t *testing.T) {
	forSomeStarts(func(c namedCues, starts []int) {
		list, check := watchedCues(t, c.list)
		roomy, all := roomyList(starts)
		want := slices.Clone(all)
		impl.StartsOf(list)
		check("StartsOf")
		impl.PlayTime(list)
		check("PlayTime")
		impl.LatestStarts(list)
		check("LatestStarts")
		impl.ClashesIn(list, roomy)
		check("ClashesIn")
		if !slices.Equal(all, want) {
			t.Fatalf("ClashesIn changes %v to %v", want, all)
		}
		impl.IsPlan(list, roomy)
		check("IsPlan")
		if !slices.Equal(all, want) {
			t.Fatalf("IsPlan changes %v to %v", want, all)
		}
		impl.SimplePlan(list)
		check("SimplePlan")
	})
}

// timesOf are all results of the chapter that are lists.
func timesOf(list []impl.Cue, starts []int) [][]int {
	rows := [][]int{impl.StartsOf(list), impl.LatestStarts(list), impl.SimplePlan(list)}
	return append(rows, impl.ClashesIn(list, starts)...)
}

// TestTimesAreNewMemory changes one of two results of the same call, also behind
// its end, and looks at the arguments and at the other one.
func TestTimesAreNewMemory(t *testing.T) {
	forSomeStarts(func(c namedCues, starts []int) {
		list, check := watchedCues(t, c.list)
		roomy, all := roomyList(starts)
		whole := slices.Clone(all)
		want, got := timesOf(c.list, starts), timesOf(list, roomy)
		overwritePoses(timesOf(list, roomy))
		check(c.name + ": a change of a result")
		if !slices.Equal(all, whole) {
			t.Errorf("%s: a change of a result changes the starts %v to %v", c.name, whole, all)
		}
		if again := timesOf(list, roomy); !equalPoses(got, want) || !equalPoses(again, want) {
			t.Errorf("%s: a change of one result changes another one to %v or %v, want %v", c.name, got, again, want)
		}
	})
}

// TestTimesAreKeptApart changes the arguments behind the calls, and one row of
// a result after the other.
func TestTimesAreKeptApart(t *testing.T) {
	forSomeStarts(func(c namedCues, starts []int) {
		list, _ := roomyCues(c.list)
		roomy, _ := roomyList(starts)
		got := timesOf(list, roomy)
		for _, changed := range wholeCues(list) {
			overwritePoses([][]int{changed.After, changed.Puppets})
		}
		clear(list)
		overwritePoses([][]int{roomy})
		if want := timesOf(c.list, starts); !equalPoses(got, want) {
			t.Errorf("%s: behind a change of the arguments, the times are %v, want %v", c.name, got, want)
		}
	})
	list := withAllPuppets(freeCues(12), 3)
	checkKeptApart(t, "ClashesIn", func() [][]int { return impl.ClashesIn(list, make([]int, 12)) })
	checkKeptApart(t, "the times", func() [][]int { return timesOf(list, make([]int, 12)) })
}

// TestTimeResultsAreRepeated calls each function again, as the result of a call
// depends only on its arguments.
func TestTimeResultsAreRepeated(t *testing.T) {
	forSomeStarts(func(c namedCues, starts []int) {
		times, length, plan := timesOf(c.list, starts), impl.PlayTime(c.list), impl.IsPlan(c.list, starts)
		for range 3 {
			if got := timesOf(c.list, starts); !equalPoses(got, times) {
				t.Errorf("%s: the times are %v and then %v", c.name, times, got)
			}
			if impl.PlayTime(c.list) != length || impl.IsPlan(c.list, starts) != plan {
				t.Errorf("%s: PlayTime is not %d again, or IsPlan not %v", c.name, length, plan)
			}
		}
	})
}
