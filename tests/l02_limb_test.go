package tests

import (
	"math"
	"slices"
	"testing"

	"loop.example/g03306/impl"
)

// bodyOf makes a body of limbs of length 1, two ends each.
func bodyOf(joints int, ends ...int) impl.Body {
	b := impl.Body{Joints: joints}
	for i := 0; i < len(ends); i += 2 {
		b.Limbs = append(b.Limbs, impl.Limb{A: ends[i], B: ends[i+1], Length: 1})
	}
	return b
}

// withLengths gives the limbs of b these lengths.
func withLengths(b impl.Body, lengths ...int) impl.Body {
	for i, n := range lengths {
		b.Limbs[i].Length = n
	}
	return b
}

func chainOf(joints int) impl.Body {
	b := impl.Body{Joints: joints}
	for j := 1; j < joints; j++ {
		b.Limbs = append(b.Limbs, impl.Limb{A: j - 1, B: j, Length: j})
	}
	return b
}

// starOf has the middle joint as A and as B in turn.
func starOf(joints int, middle int) impl.Body {
	b := impl.Body{Joints: joints}
	for j := range joints {
		switch {
		case j < middle:
			b.Limbs = append(b.Limbs, impl.Limb{A: j, B: middle, Length: 1 + j})
		case j > middle:
			b.Limbs = append(b.Limbs, impl.Limb{A: middle, B: j, Length: 100 - j})
		}
	}
	return b
}

func equalBodies(b impl.Body, c impl.Body) bool {
	return b.Joints == c.Joints && slices.Equal(b.Limbs, c.Limbs)
}

func copyOf(b impl.Body) impl.Body {
	return impl.Body{Joints: b.Joints, Limbs: slices.Clone(b.Limbs)}
}

// validBodies are bodies of all sizes and of several shapes.
func validBodies() []impl.Body {
	bodies := []impl.Body{
		impl.SampleBody(),
		withLengths(bodyOf(2, 1, 0), 100),
		bodyOf(5, 3, 1, 4, 3, 0, 4, 2, 1),
		withLengths(bodyOf(6, 5, 0, 4, 5, 3, 4, 2, 3, 1, 2), 7, 100, 1, 50, 99),
		withLengths(bodyOf(7, 2, 6, 1, 5, 0, 6, 3, 5, 6, 5, 4, 0), 9, 8, 7, 6, 5, 4),
	}
	for joints := 1; joints <= 12; joints++ {
		bodies = append(bodies, chainOf(joints), starOf(joints, 0), starOf(joints, joints/2), starOf(joints, joints-1))
	}
	return bodies
}

type namedBody struct {
	name string
	body impl.Body
}

func invalidBodies() []namedBody {
	bodies := []namedBody{
		{"no joints", impl.Body{}},
		{"no joints and an empty list", impl.Body{Limbs: []impl.Limb{}}},
		{"no joints and a limb", bodyOf(0, 0, 1)},
		{"-1 joints", bodyOf(-1)},
		{"the least number of joints", bodyOf(math.MinInt)},
		{"the greatest number of joints", bodyOf(math.MaxInt)},
		{"a chain of 13", chainOf(13)},
		{"a star of 13", starOf(13, 6)},
		{"a chain of 100", chainOf(100)},
		{"13 joints without limbs", bodyOf(13)},
		{"one joint with a limb to itself", bodyOf(1, 0, 0)},
		{"one joint with a limb to no joint", bodyOf(1, 0, 1)},
		{"two joints without limbs", bodyOf(2)},
		{"a chain without its last limb", bodyOf(4, 0, 1, 1, 2)},
		{"a chain without its first limb", bodyOf(4, 1, 2, 2, 3)},
		{"12 joints without limbs", bodyOf(12)},
		{"one limb too many", bodyOf(2, 0, 1, 1, 0)},
		{"a limb that closes a circle of all", bodyOf(3, 0, 1, 1, 2, 2, 0)},
		{"a limb of a 13th joint", impl.Body{Joints: 12, Limbs: chainOf(13).Limbs}},
		{"many limbs", impl.Body{Joints: 2, Limbs: make([]impl.Limb, 10000)}},
		{"two limbs between the same joints", bodyOf(3, 0, 1, 0, 1)},
		{"two opposite limbs between the same joints", bodyOf(3, 0, 1, 1, 0)},
		{"two limbs between the same joints, without joint 0", bodyOf(3, 1, 2, 2, 1)},
		{"two limbs between the same joints of 12", bodyOf(12, 0, 1, 1, 2, 2, 3, 3, 4, 4, 5, 5, 6, 6, 7, 7, 8, 8, 9, 9, 10, 10, 9)},
		{"a circle with joint 0", bodyOf(4, 0, 1, 1, 2, 2, 0)},
		{"a circle without joint 0", bodyOf(4, 1, 2, 2, 3, 3, 1)},
		{"a circle of four and a joint", bodyOf(5, 0, 1, 1, 2, 2, 3, 3, 0)},
		{"a circle and a limb", bodyOf(5, 0, 1, 2, 3, 3, 4, 4, 2)},
		{"a circle of 11 and a joint", bodyOf(12, 0, 1, 1, 2, 2, 3, 3, 4, 4, 5, 5, 6, 6, 7, 7, 8, 8, 9, 9, 10, 10, 0)},
		{"two circles", bodyOf(7, 0, 1, 1, 2, 2, 0, 3, 4, 4, 5, 5, 3)},
	}
	for _, n := range []int{0, -1, 101, 102, math.MinInt, math.MaxInt} {
		bodies = append(bodies,
			namedBody{"first Length " + impl.FormatInt(n), withLengths(bodyOf(3, 0, 1, 1, 2), n, 1)},
			namedBody{"last Length " + impl.FormatInt(n), withLengths(bodyOf(3, 0, 1, 1, 2), 1, n)})
	}
	for _, j := range []int{-1, 3, 4, 12, math.MinInt, math.MaxInt} {
		bodies = append(bodies,
			namedBody{"A is " + impl.FormatInt(j), bodyOf(3, 0, 1, j, 2)},
			namedBody{"B is " + impl.FormatInt(j), bodyOf(3, 0, 1, 2, j)},
			namedBody{"A and B are " + impl.FormatInt(j), bodyOf(3, 0, 1, j, j)})
	}
	for j := range 3 {
		bodies = append(bodies,
			namedBody{"a limb before, from itself to " + impl.FormatInt(j), bodyOf(3, j, j, 1, 2)},
			namedBody{"a limb behind, from itself to " + impl.FormatInt(j), bodyOf(3, 0, 1, j, j)})
	}
	return bodies
}

func TestLimbConstants(t *testing.T) {
	if impl.MaxJoints != 12 {
		t.Errorf("MaxJoints is %d, want 12", impl.MaxJoints)
	}
}

func TestSampleBody(t *testing.T) {
	want := withLengths(bodyOf(7, 0, 1, 0, 2, 1, 3, 1, 4, 2, 5, 2, 6), 4, 6, 3, 3, 5, 5)
	first := impl.SampleBody()
	if !equalBodies(first, want) {
		t.Errorf("SampleBody is %v, want %v", first, want)
	}
	clear(first.Limbs)
	if got := impl.SampleBody(); !equalBodies(got, want) {
		t.Errorf("after a change of another result, SampleBody is %v, want %v", got, want)
	}
}

func TestBodyOk(t *testing.T) {
	for _, b := range validBodies() {
		if !impl.BodyOk(b) {
			t.Errorf("BodyOk(%v) is false", b)
		}
	}
	for _, c := range invalidBodies() {
		if impl.BodyOk(c.body) {
			t.Errorf("%s: BodyOk is true", c.name)
		}
	}
}

func TestBodyOkWithoutLimbs(t *testing.T) {
	for joints := -2; joints <= 14; joints++ {
		for _, limbs := range [][]impl.Limb{nil, {}} {
			if got, want := impl.BodyOk(impl.Body{Joints: joints, Limbs: limbs}), joints == 1; got != want {
				t.Errorf("BodyOk of %d joints without limbs is %v", joints, got)
			}
		}
	}
}

func TestBodyOkLengths(t *testing.T) {
	for n := -2; n <= 103; n++ {
		right := n >= 1 && n <= 100
		for i := range 11 {
			b := chainOf(12)
			b.Limbs[i].Length = n
			if got := impl.BodyOk(b); got != right {
				t.Errorf("BodyOk with the Length %d of limb %d is %v", n, i, got)
			}
		}
	}
}

// TestBodyOkOfAllSmallBodies takes every list of one to four limbs, with ends
// that are joints and ends that are not.
func TestBodyOkOfAllSmallBodies(t *testing.T) {
	trees := map[int]int{}
	for limbs := 1; limbs <= 3; limbs++ {
		for joints := limbs; joints <= limbs+2; joints++ {
			count := 0
			forAllEnds(limbs, -1, joints, func(ends []int) {
				b := bodyOf(joints, ends...)
				want := isTree(b)
				if want {
					count++
				}
				if got := impl.BodyOk(b); got != want {
					t.Errorf("BodyOk(%v) is %v, want %v", b, got, want)
				}
			})
			trees[joints*10+limbs] = count
		}
	}
	// joints ^ (joints - 2) trees, their limbs in any order and either way round
	for key, want := range map[int]int{21: 1 * 1 * 2, 32: 3 * 2 * 4, 43: 16 * 6 * 8, 11: 0, 22: 0, 31: 0, 42: 0} {
		if trees[key] != want {
			t.Errorf("%d joints and %d limbs: %d valid bodies, want %d", key/10, key%10, trees[key], want)
		}
	}
	forAllEnds(4, 0, 4, func(ends []int) {
		if b := bodyOf(5, ends...); impl.BodyOk(b) != isTree(b) {
			t.Errorf("BodyOk(%v) is %v", b, impl.BodyOk(b))
		}
	})
}

// forAllEnds calls visit with all lists of twice as many numbers as limbs.
func forAllEnds(limbs int, low int, high int, visit func(ends []int)) {
	forAllLists(2*limbs, low, high, visit)
}

// forAllLists calls visit with all lists of this many numbers from low to high.
// It hands out copies, as a change of its own list might keep it from ending.
func forAllLists(count int, low int, high int, visit func(list []int)) {
	list := slices.Repeat([]int{low}, count)
	for {
		visit(slices.Clone(list))
		i := 0
		for i < count && list[i] == high {
			list[i] = low
			i++
		}
		if i == count {
			return
		}
		list[i]++
	}
}

// isTree joins groups of joints: each limb of a tree joins two groups, and one
// group is left. Lengths are not looked at.
func isTree(b impl.Body) bool {
	if b.Joints < 1 || len(b.Limbs) != b.Joints-1 {
		return false
	}
	group := make([]int, b.Joints)
	for j := range group {
		group[j] = j
	}
	for _, limb := range b.Limbs {
		if min(limb.A, limb.B) < 0 || max(limb.A, limb.B) >= b.Joints || group[limb.A] == group[limb.B] {
			return false
		}
		from, to := group[limb.A], group[limb.B]
		for j := range group {
			if group[j] == from {
				group[j] = to
			}
		}
	}
	return true
}

func TestLimbsAt(t *testing.T) {
	sample := impl.SampleBody()
	for _, c := range []struct {
		body impl.Body
		j    int
		want []int
	}{
		{sample, 0, []int{0, 1}},
		{sample, 1, []int{0, 2, 3}},
		{sample, 2, []int{1, 4, 5}},
		{sample, 3, []int{2}},
		{sample, 6, []int{5}},
		{bodyOf(1), 0, nil},
		{bodyOf(2, 1, 0), 0, []int{0}},
		{bodyOf(2, 1, 0), 1, []int{0}},
		{bodyOf(5, 3, 1, 4, 3, 0, 4, 2, 1), 3, []int{0, 1}},
		{bodyOf(5, 3, 1, 4, 3, 0, 4, 2, 1), 4, []int{1, 2}},
		{bodyOf(5, 3, 1, 4, 3, 0, 4, 2, 1), 1, []int{0, 3}},
		{chainOf(12), 11, []int{10}},
		{starOf(12, 5), 5, []int{0, 1, 2, 3, 4, 5, 6, 7, 8, 9, 10}},
		{starOf(12, 5), 11, []int{10}},
	} {
		if got := impl.LimbsAt(c.body, c.j); !slices.Equal(got, c.want) {
			t.Errorf("LimbsAt(%v, %d) is %v, want %v", c.body, c.j, got, c.want)
		}
	}
}

func TestLimbsAtByDefinition(t *testing.T) {
	for _, b := range validBodies() {
		for _, j := range []int{math.MinInt, -2, -1, b.Joints, b.Joints + 1, math.MaxInt} {
			if got := impl.LimbsAt(b, j); len(got) != 0 {
				t.Errorf("LimbsAt(%v, %d) is %v, want none", b, j, got)
			}
		}
		for j := range b.Joints {
			var want []int
			for i, limb := range b.Limbs {
				if limb.A == j || limb.B == j {
					want = append(want, i)
				}
			}
			if got := impl.LimbsAt(b, j); !slices.Equal(got, want) {
				t.Errorf("LimbsAt(%v, %d) is %v, want %v", b, j, got, want)
			}
		}
	}
	for _, c := range invalidBodies() {
		for j := -1; j <= 13; j++ {
			if got := impl.LimbsAt(c.body, j); len(got) != 0 {
				t.Errorf("%s: LimbsAt %d is %v, want none", c.name, j, got)
			}
		}
	}
}

// TestEachJointHasItsLimb checks promise 2: each limb has two ends, and every
// joint but the first one has the limb that leads towards it from the first.
func TestEachJointHasItsLimb(t *testing.T) {
	for _, b := range validBodies() {
		ends := make([]int, len(b.Limbs))
		for j := range b.Joints {
			for _, i := range impl.LimbsAt(b, j) {
				ends[i]++
			}
		}
		for i, n := range ends {
			if n != 2 {
				t.Errorf("%v: limb %d has %d ends", b, i, n)
			}
		}
		own := map[int]int{}
		takeLimbs(b, 0, -1, own)
		if _, first := own[0]; first || len(own) != b.Joints-1 {
			t.Errorf("%v: the joints have the limbs %v", b, own)
		}
	}
}

// takeLimbs gives the joint at the other end of each limb that leads away from
// the joint j its limb.
func takeLimbs(b impl.Body, j int, came int, own map[int]int) {
	for _, i := range impl.LimbsAt(b, j) {
		other := b.Limbs[i].A + b.Limbs[i].B - j
		if _, has := own[other]; i == came || has {
			continue
		}
		own[other] = i
		takeLimbs(b, other, i, own)
	}
}

func TestEndsOf(t *testing.T) {
	for _, c := range []struct {
		body impl.Body
		want []int
	}{
		{impl.SampleBody(), []int{3, 4, 5, 6}},
		{bodyOf(1), []int{0}},
		{bodyOf(2, 0, 1), []int{0, 1}},
		{bodyOf(2, 1, 0), []int{0, 1}},
		{bodyOf(3, 0, 2, 2, 1), []int{0, 1}},
		{bodyOf(5, 3, 1, 4, 3, 0, 4, 2, 1), []int{0, 2}},
		{bodyOf(5, 4, 1, 3, 1, 2, 1, 1, 0), []int{0, 2, 3, 4}},
		{chainOf(12), []int{0, 11}},
		{starOf(12, 0), []int{1, 2, 3, 4, 5, 6, 7, 8, 9, 10, 11}},
		{starOf(12, 11), []int{0, 1, 2, 3, 4, 5, 6, 7, 8, 9, 10}},
	} {
		if got := impl.EndsOf(c.body); !slices.Equal(got, c.want) {
			t.Errorf("EndsOf(%v) is %v, want %v", c.body, got, c.want)
		}
	}
	for _, b := range validBodies() {
		var want []int
		for j := range b.Joints {
			if len(impl.LimbsAt(b, j)) <= 1 {
				want = append(want, j)
			}
		}
		if got := impl.EndsOf(b); !slices.Equal(got, want) {
			t.Errorf("EndsOf(%v) is %v, want %v", b, got, want)
		}
	}
	for _, c := range invalidBodies() {
		if got := impl.EndsOf(c.body); len(got) != 0 {
			t.Errorf("%s: EndsOf is %v, want none", c.name, got)
		}
	}
}

func TestLengthOf(t *testing.T) {
	for _, c := range []struct {
		body impl.Body
		want int
	}{
		{impl.SampleBody(), 26},
		{bodyOf(1), 0},
		{bodyOf(2, 0, 1), 1},
		{withLengths(bodyOf(2, 1, 0), 100), 100},
		{withLengths(bodyOf(3, 0, 1, 1, 2), 1, 100), 101},
		{withLengths(bodyOf(3, 0, 2, 1, 2), 41, 37), 78},
		{chainOf(12), 66},
		{withLengths(chainOf(12), slices.Repeat([]int{100}, 11)...), 1100},
	} {
		if got := impl.LengthOf(c.body); got != c.want {
			t.Errorf("LengthOf(%v) is %d, want %d", c.body, got, c.want)
		}
	}
	for _, c := range invalidBodies() {
		if got := impl.LengthOf(c.body); got != -1 {
			t.Errorf("%s: LengthOf is %d, want -1", c.name, got)
		}
	}
}

func TestAddLimb(t *testing.T) {
	for _, b := range validBodies() {
		for j := range b.Joints {
			for _, length := range []int{1, 2, 50, 99, 100} {
				got, ok := impl.AddLimb(b, j, length)
				want, right := copyOf(b), b.Joints < 12
				if right {
					want.Joints++
					want.Limbs = append(want.Limbs, impl.Limb{A: j, B: b.Joints, Length: length})
				}
				if ok != right || !equalBodies(got, want) {
					t.Errorf("AddLimb(%v, %d, %d) = %v, %v, want %v, %v", b, j, length, got, ok, want, right)
				}
				if !impl.BodyOk(got) {
					t.Errorf("AddLimb(%v, %d, %d) = %v is not valid", b, j, length, got)
				}
			}
		}
	}
}

func TestAddLimbRejects(t *testing.T) {
	for _, b := range validBodies() {
		for _, j := range []int{math.MinInt, -2, -1, b.Joints, b.Joints + 1, 12, 13, math.MaxInt} {
			checkRejected(t, b, j, 8)
		}
		for _, length := range []int{math.MinInt, -1, 0, 101, 102, math.MaxInt} {
			for j := -1; j <= b.Joints; j++ {
				checkRejected(t, b, j, length)
			}
		}
	}
	for _, c := range invalidBodies() {
		for j := -1; j <= 13; j++ {
			checkRejected(t, c.body, j, 8)
		}
		checkRejected(t, c.body, 0, 0)
		checkRejected(t, c.body, 0, 101)
	}
}

// TestAddLimbDoesNotRepair adds what would complete a body that is not valid.
func TestAddLimbDoesNotRepair(t *testing.T) {
	checkRejected(t, bodyOf(0), 0, 1)
	checkRejected(t, bodyOf(0), -1, 1)
	checkRejected(t, bodyOf(2), 1, 1)
	checkRejected(t, bodyOf(2, 2, 1), 0, 1)
	checkRejected(t, bodyOf(2, 0, 2), 1, 1)
}

func checkRejected(t *testing.T, b impl.Body, j int, length int) {
	t.Helper()
	want := copyOf(b)
	if got, ok := impl.AddLimb(b, j, length); ok || !equalBodies(got, want) {
		t.Errorf("AddLimb(%v, %d, %d) = %v, %v, want it unchanged, false", b, j, length, got, ok)
	}
}

func TestAddLimbBuildsABody(t *testing.T) {
	b := bodyOf(1)
	for joints := 1; joints < 12; joints++ {
		longer, ok := impl.AddLimb(b, joints/2, 10*joints%100+1)
		if !ok || longer.Joints != joints+1 || len(longer.Limbs) != joints {
			t.Fatalf("AddLimb(%v, %d, ..) = %v, %v", b, joints/2, longer, ok)
		}
		b = longer
	}
	checkRejected(t, b, 0, 1)
}

func TestLimbArgumentsAreLeftUnchanged(t *testing.T) {
	checkBodiesUnchanged(t, func(b impl.Body) {
		impl.BodyOk(b)
		impl.EndsOf(b)
		impl.LengthOf(b)
		for j := -1; j <= 12; j++ {
			impl.LimbsAt(b, j)
			impl.AddLimb(b, j, 8)
			impl.AddLimb(b, j, 0)
		}
	})
}

// checkBodiesUnchanged calls use with valid and invalid bodies. Their lists have
// spare capacity, which is part of what is left unchanged.
func checkBodiesUnchanged(t *testing.T, use func(b impl.Body)) {
	t.Helper()
	bodies := validBodies()
	for _, c := range invalidBodies() {
		bodies = append(bodies, c.body)
	}
	for _, b := range bodies {
		roomy := append(slices.Clone(b.Limbs), impl.Limb{A: 70, B: 71, Length: 72}, impl.Limb{A: 73, B: 74, Length: 75})
		before := slices.Clone(roomy)
		use(impl.Body{Joints: b.Joints, Limbs: roomy[:len(b.Limbs)]})
		if !slices.Equal(roomy, before) {
			t.Errorf("%v: the argument is changed to %v", b, roomy)
		}
	}
}

func TestAddLimbReturnsNewMemory(t *testing.T) {
	bodies := validBodies()
	for _, c := range invalidBodies() {
		bodies = append(bodies, c.body)
	}
	for _, b := range bodies {
		for _, length := range []int{0, 8} {
			for j := -1; j <= 1; j++ {
				roomy := append(slices.Clone(b.Limbs), make([]impl.Limb, 3)...)
				before := slices.Clone(roomy)
				got, _ := impl.AddLimb(impl.Body{Joints: b.Joints, Limbs: roomy[:len(b.Limbs)]}, j, length)
				all := got.Limbs[:cap(got.Limbs)]
				for i := range all {
					all[i] = impl.Limb{A: 90, B: 91, Length: 92}
				}
				if !slices.Equal(roomy, before) {
					t.Errorf("AddLimb(%v, %d, %d): a change of the result changes the argument", b, j, length)
				}
			}
		}
	}
}

func TestLimbListsAreNewMemory(t *testing.T) {
	b := impl.SampleBody()
	at, ends := impl.LimbsAt(b, 1), impl.EndsOf(b)
	clear(at)
	clear(ends)
	if got, want := impl.LimbsAt(b, 1), []int{0, 2, 3}; !slices.Equal(got, want) {
		t.Errorf("after a change of another result, LimbsAt is %v, want %v", got, want)
	}
	if got, want := impl.EndsOf(b), []int{3, 4, 5, 6}; !slices.Equal(got, want) {
		t.Errorf("after a change of another result, EndsOf is %v, want %v", got, want)
	}
}
