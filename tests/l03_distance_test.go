package tests

import (
	"math"
	"slices"
	"testing"

	"loop.example/g03306/impl"
)

// distancesByLimbs finds the distances of all joints without walking: it makes
// them shorter over each joint in turn.
func distancesByLimbs(b impl.Body) [][]int {
	far := make([][]int, b.Joints)
	for i := range far {
		far[i] = slices.Repeat([]int{1000000}, b.Joints)
		far[i][i] = 0
	}
	for _, limb := range b.Limbs {
		far[limb.A][limb.B], far[limb.B][limb.A] = limb.Length, limb.Length
	}
	for over := range far {
		for i := range far {
			for j := range far {
				far[i][j] = min(far[i][j], far[i][over]+far[over][j])
			}
		}
	}
	return far
}

// limbBetween is the index of the limb between two joints, or -1.
func limbBetween(b impl.Body, i int, j int) int {
	return slices.IndexFunc(b.Limbs, func(limb impl.Limb) bool {
		return limb.A == i && limb.B == j || limb.A == j && limb.B == i
	})
}

// turnedAround exchanges A and B of all limbs and reverses their order.
func turnedAround(b impl.Body) impl.Body {
	turned := copyOf(b)
	for i, limb := range turned.Limbs {
		turned.Limbs[i].A, turned.Limbs[i].B = limb.B, limb.A
	}
	slices.Reverse(turned.Limbs)
	return turned
}

// noJointsOf are numbers that are not joints of b.
func noJointsOf(b impl.Body) []int {
	return []int{math.MinInt, -2, -1, b.Joints, b.Joints + 1, 12, 13, math.MaxInt}
}

func TestPathBetween(t *testing.T) {
	sample := impl.SampleBody()
	mixed := bodyOf(5, 3, 1, 4, 3, 0, 4, 2, 1)
	for _, c := range []struct {
		body impl.Body
		i, j int
		want []int
	}{
		{sample, 3, 6, []int{3, 1, 0, 2, 6}},
		{sample, 6, 3, []int{6, 2, 0, 1, 3}},
		{sample, 3, 4, []int{3, 1, 4}},
		{sample, 0, 5, []int{0, 2, 5}},
		{sample, 5, 0, []int{5, 2, 0}},
		{sample, 1, 2, []int{1, 0, 2}},
		{sample, 0, 1, []int{0, 1}},
		{sample, 6, 2, []int{6, 2}},
		{sample, 0, 0, []int{0}},
		{sample, 6, 6, []int{6}},
		{bodyOf(1), 0, 0, []int{0}},
		{bodyOf(2, 1, 0), 0, 1, []int{0, 1}},
		{bodyOf(2, 1, 0), 1, 0, []int{1, 0}},
		{bodyOf(2, 1, 0), 1, 1, []int{1}},
		{mixed, 0, 2, []int{0, 4, 3, 1, 2}},
		{mixed, 2, 0, []int{2, 1, 3, 4, 0}},
		{mixed, 1, 4, []int{1, 3, 4}},
		{chainOf(12), 0, 11, []int{0, 1, 2, 3, 4, 5, 6, 7, 8, 9, 10, 11}},
		{chainOf(12), 11, 0, []int{11, 10, 9, 8, 7, 6, 5, 4, 3, 2, 1, 0}},
		{chainOf(12), 8, 5, []int{8, 7, 6, 5}},
		{starOf(12, 5), 0, 11, []int{0, 5, 11}},
		{starOf(12, 5), 11, 5, []int{11, 5}},
	} {
		if got := impl.PathBetween(c.body, c.i, c.j); !slices.Equal(got, c.want) {
			t.Errorf("PathBetween(%v, %d, %d) is %v, want %v", c.body, c.i, c.j, got, c.want)
		}
	}
}

// TestPathsLeadAlongLimbs checks that each path has both of its ends, goes from
// limb to limb without coming back, and has the DistanceOf as its length.
func TestPathsLeadAlongLimbs(t *testing.T) {
	for _, b := range validBodies() {
		for i := range b.Joints {
			for j := range b.Joints {
				way := impl.PathBetween(b, i, j)
				if len(way) == 0 || way[0] != i || way[len(way)-1] != j {
					t.Fatalf("PathBetween(%v, %d, %d) is %v", b, i, j, way)
				}
				length := 0
				seen := map[int]bool{i: true}
				for k := 1; k < len(way); k++ {
					limb := limbBetween(b, way[k-1], way[k])
					if limb == -1 || seen[way[k]] {
						t.Fatalf("PathBetween(%v, %d, %d) is %v", b, i, j, way)
					}
					seen[way[k]] = true
					length += b.Limbs[limb].Length
				}
				if got := impl.DistanceOf(b, i, j); got != length {
					t.Errorf("DistanceOf(%v, %d, %d) is %d, want %d", b, i, j, got, length)
				}
				back := impl.PathBetween(b, j, i)
				slices.Reverse(back)
				if !slices.Equal(back, way) {
					t.Errorf("PathBetween(%v, %d, %d) is %v, but the way back is %v from behind", b, i, j, way, back)
				}
			}
		}
	}
}

func TestDistanceOf(t *testing.T) {
	sample := impl.SampleBody()
	for _, c := range []struct {
		body impl.Body
		i, j int
		want int
	}{
		{sample, 3, 6, 18},
		{sample, 6, 3, 18},
		{sample, 3, 4, 6},
		{sample, 5, 6, 10},
		{sample, 0, 6, 11},
		{sample, 0, 2, 6},
		{sample, 2, 0, 6},
		{sample, 3, 3, 0},
		{bodyOf(1), 0, 0, 0},
		{withLengths(bodyOf(2, 1, 0), 100), 0, 1, 100},
		{withLengths(bodyOf(2, 1, 0), 100), 1, 0, 100},
		{chainOf(12), 0, 11, 66},
		{chainOf(12), 11, 10, 11},
		{withLengths(chainOf(12), slices.Repeat([]int{100}, 11)...), 11, 0, 1100},
		{starOf(12, 5), 0, 11, 90},
		{starOf(12, 5), 5, 5, 0},
	} {
		if got := impl.DistanceOf(c.body, c.i, c.j); got != c.want {
			t.Errorf("DistanceOf(%v, %d, %d) is %d, want %d", c.body, c.i, c.j, got, c.want)
		}
	}
}

func TestDistancesFrom(t *testing.T) {
	sample := impl.SampleBody()
	for _, c := range []struct {
		body impl.Body
		i    int
		want []int
	}{
		{sample, 0, []int{0, 4, 6, 7, 7, 11, 11}},
		{sample, 3, []int{7, 3, 13, 0, 6, 18, 18}},
		{sample, 6, []int{11, 15, 5, 18, 18, 10, 0}},
		{bodyOf(1), 0, []int{0}},
		{withLengths(bodyOf(2, 1, 0), 37), 0, []int{0, 37}},
		{withLengths(bodyOf(2, 1, 0), 37), 1, []int{37, 0}},
		{withLengths(bodyOf(5, 3, 1, 4, 3, 0, 4, 2, 1), 2, 3, 4, 5), 4, []int{4, 5, 10, 3, 0}},
		{chainOf(12), 11, []int{66, 65, 63, 60, 56, 51, 45, 38, 30, 21, 11, 0}},
	} {
		if got := impl.DistancesFrom(c.body, c.i); !slices.Equal(got, c.want) {
			t.Errorf("DistancesFrom(%v, %d) is %v, want %v", c.body, c.i, got, c.want)
		}
	}
}

func TestDistancesByLimbs(t *testing.T) {
	for _, b := range validBodies() {
		want := distancesByLimbs(b)
		for i := range b.Joints {
			if got := impl.DistancesFrom(b, i); !slices.Equal(got, want[i]) {
				t.Errorf("DistancesFrom(%v, %d) is %v, want %v", b, i, got, want[i])
			}
			for j := range b.Joints {
				if got := impl.DistanceOf(b, i, j); got != want[i][j] {
					t.Errorf("DistanceOf(%v, %d, %d) is %d, want %d", b, i, j, got, want[i][j])
				}
			}
		}
	}
}

// TestDistancesAreDistances checks the first half of promise 3: only a joint
// itself is at the distance 0, the way back is as long, and a way over another
// joint is longer just if that joint is not on the way.
func TestDistancesAreDistances(t *testing.T) {
	for _, b := range validBodies() {
		for i := range b.Joints {
			for j := range b.Joints {
				d := impl.DistanceOf(b, i, j)
				if (d == 0) != (i == j) || d < 0 {
					t.Errorf("DistanceOf(%v, %d, %d) is %d", b, i, j, d)
				}
				if back := impl.DistanceOf(b, j, i); back != d {
					t.Errorf("DistanceOf(%v, %d, %d) is %d, but the way back %d", b, i, j, d, back)
				}
				way := impl.PathBetween(b, i, j)
				for over := range b.Joints {
					around := impl.DistanceOf(b, i, over) + impl.DistanceOf(b, over, j)
					if around < d || (around == d) != slices.Contains(way, over) {
						t.Errorf("%v: from %d to %d it is %d, over %d it is %d", b, i, j, d, over, around)
					}
				}
			}
		}
	}
}

func TestSpanAndCenter(t *testing.T) {
	for _, c := range []struct {
		body         impl.Body
		span, center int
	}{
		{impl.SampleBody(), 18, 0},
		{bodyOf(1), 0, 0},
		{bodyOf(2, 0, 1), 1, 0},
		{withLengths(bodyOf(2, 1, 0), 100), 100, 0},
		{bodyOf(3, 0, 2, 2, 1), 2, 2},
		{withLengths(bodyOf(3, 0, 2, 2, 1), 1, 2), 3, 2},
		{withLengths(bodyOf(3, 1, 2, 1, 0), 9, 1), 10, 1},
		// two joints in the middle, the lesser one first
		{bodyOf(4, 0, 1, 1, 2, 2, 3), 3, 1},
		{bodyOf(4, 0, 3, 3, 2, 2, 1), 3, 2},
		{bodyOf(4, 1, 3, 3, 0, 2, 0), 3, 0},
		{withLengths(bodyOf(4, 1, 3, 0, 3, 0, 2), 7, 100, 7), 114, 0},
		{withLengths(bodyOf(4, 1, 3, 0, 3, 0, 2), 8, 100, 7), 115, 3},
		{withLengths(bodyOf(4, 1, 3, 0, 3, 0, 2), 7, 100, 8), 115, 0},
		{bodyOf(12, 0, 1, 1, 2, 2, 3, 3, 4, 4, 5, 5, 6, 6, 7, 7, 8, 8, 9, 9, 10, 10, 11), 11, 5},
		{chainOf(12), 66, 8},
		{starOf(12, 5), 94 + 93, 5},
		{withLengths(chainOf(12), slices.Repeat([]int{100}, 11)...), 1100, 5},
		// joint 0 has the most limbs, but is not in the middle
		{withLengths(bodyOf(5, 0, 1, 0, 2, 0, 3, 3, 4), 1, 1, 40, 30), 71, 3},
	} {
		if got := impl.SpanOf(c.body); got != c.span {
			t.Errorf("SpanOf(%v) is %d, want %d", c.body, got, c.span)
		}
		if got := impl.CenterOf(c.body); got != c.center {
			t.Errorf("CenterOf(%v) is %d, want %d", c.body, got, c.center)
		}
	}
}

func TestSpanAndCenterByLimbs(t *testing.T) {
	for _, b := range validBodies() {
		span, center, least := 0, 0, math.MaxInt
		for j, far := range distancesByLimbs(b) {
			greatest := slices.Max(far)
			span = max(span, greatest)
			if greatest < least {
				center, least = j, greatest
			}
		}
		if got := impl.SpanOf(b); got != span {
			t.Errorf("SpanOf(%v) is %d, want %d", b, got, span)
		}
		if got := impl.CenterOf(b); got != center {
			t.Errorf("CenterOf(%v) is %d, want %d", b, got, center)
		}
	}
}

// TestCenterIsInTheMiddleOfTheSpan checks the second half of promise 3: on each
// way that is as long as the span, the center is the joint nearest to its
// middle.
func TestCenterIsInTheMiddleOfTheSpan(t *testing.T) {
	for _, b := range validBodies() {
		span, center := impl.SpanOf(b), impl.CenterOf(b)
		ways := 0
		for i := range b.Joints {
			for j := range b.Joints {
				if impl.DistanceOf(b, i, j) != span {
					continue
				}
				ways++
				way := impl.PathBetween(b, i, j)
				if !slices.Contains(way, center) {
					t.Errorf("%v: the center %d is not on the way %v", b, center, way)
				}
				for _, at := range way {
					if longerPart(b, i, at, j) < longerPart(b, i, center, j) {
						t.Errorf("%v: %d is nearer to the middle of the way %v than the center %d", b, at, way, center)
					}
				}
			}
		}
		if ways == 0 {
			t.Errorf("%v: no way is as long as the span %d", b, span)
		}
	}
}

func longerPart(b impl.Body, i int, at int, j int) int {
	return max(impl.DistanceOf(b, i, at), impl.DistanceOf(b, at, j))
}

func TestAreSameShape(t *testing.T) {
	sample := impl.SampleBody()
	for _, c := range []struct {
		name string
		b, c impl.Body
		want bool
	}{
		{"the same body", sample, impl.SampleBody(), true},
		{"one joint", bodyOf(1), impl.Body{Joints: 1, Limbs: []impl.Limb{}}, true},
		{"two joints, A and B exchanged", bodyOf(2, 0, 1), bodyOf(2, 1, 0), true},
		{"limbs in another order", withLengths(bodyOf(3, 0, 1, 1, 2), 4, 5), withLengths(bodyOf(3, 1, 2, 0, 1), 5, 4), true},
		{"one limb exchanged", withLengths(bodyOf(3, 0, 1, 1, 2), 4, 5), withLengths(bodyOf(3, 0, 1, 2, 1), 4, 5), true},
		{"another Length", sample, withLengths(impl.SampleBody(), 4, 6, 3, 3, 5, 6), false},
		{"Lengths exchanged", withLengths(bodyOf(3, 0, 1, 1, 2), 4, 5), withLengths(bodyOf(3, 0, 1, 1, 2), 5, 4), false},
		{"a joint elsewhere", bodyOf(4, 0, 1, 1, 2, 2, 3), bodyOf(4, 0, 1, 1, 2, 1, 3), false},
		{"joints numbered otherwise", bodyOf(3, 0, 1, 1, 2), bodyOf(3, 1, 0, 0, 2), false},
		{"the same distances from joint 0", bodyOf(5, 0, 1, 0, 2, 1, 3, 2, 4), bodyOf(5, 0, 1, 0, 2, 2, 3, 1, 4), false},
		{"one joint more", chainOf(4), chainOf(5), false},
		{"one joint and two", bodyOf(1), bodyOf(2, 0, 1), false},
		{"11 joints and 12", chainOf(11), chainOf(12), false},
	} {
		if got := impl.AreSameShape(c.b, c.c); got != c.want {
			t.Errorf("%s: AreSameShape(%v, %v) is %v", c.name, c.b, c.c, got)
		}
		if got := impl.AreSameShape(c.c, c.b); got != c.want {
			t.Errorf("%s, the other way round: AreSameShape(%v, %v) is %v", c.name, c.c, c.b, got)
		}
	}
}

func TestAreSameShapeByLimbs(t *testing.T) {
	bodies := validBodies()
	for _, b := range bodies {
		if turned := turnedAround(b); !impl.AreSameShape(b, turned) || !impl.AreSameShape(turned, b) {
			t.Errorf("AreSameShape(%v, %v) is false", b, turned)
		}
		for i := range b.Limbs {
			longer := copyOf(b)
			longer.Limbs[i].Length = b.Limbs[i].Length%100 + 1
			if impl.AreSameShape(b, longer) || impl.AreSameShape(longer, b) {
				t.Errorf("AreSameShape(%v, %v) is true", b, longer)
			}
		}
		for _, c := range bodies {
			want := slices.EqualFunc(distancesByLimbs(b), distancesByLimbs(c), slices.Equal)
			if got := impl.AreSameShape(b, c); got != want {
				t.Errorf("AreSameShape(%v, %v) is %v", b, c, got)
			}
		}
	}
}

// checkNoWay checks the results for numbers i and j of which one at least is no
// joint of b.
func checkNoWay(t *testing.T, b impl.Body, i int, j int) {
	t.Helper()
	if got := impl.PathBetween(b, i, j); len(got) != 0 {
		t.Errorf("PathBetween(%v, %d, %d) is %v, want none", b, i, j, got)
	}
	if got := impl.DistanceOf(b, i, j); got != -1 {
		t.Errorf("DistanceOf(%v, %d, %d) is %d, want -1", b, i, j, got)
	}
}

func TestDistancesOfNoJoint(t *testing.T) {
	for _, b := range validBodies() {
		for _, no := range noJointsOf(b) {
			if got := impl.DistancesFrom(b, no); len(got) != 0 {
				t.Errorf("DistancesFrom(%v, %d) is %v, want none", b, no, got)
			}
			checkNoWay(t, b, no, no)
			for j := range b.Joints {
				checkNoWay(t, b, no, j)
				checkNoWay(t, b, j, no)
			}
		}
	}
}

func TestDistancesOfInvalidBodies(t *testing.T) {
	for _, c := range invalidBodies() {
		for i := -1; i <= 13; i++ {
			if got := impl.DistancesFrom(c.body, i); len(got) != 0 {
				t.Errorf("%s: DistancesFrom %d is %v, want none", c.name, i, got)
			}
			for j := -1; j <= 13; j++ {
				checkNoWay(t, c.body, i, j)
			}
		}
		if got := impl.SpanOf(c.body); got != -1 {
			t.Errorf("%s: SpanOf is %d, want -1", c.name, got)
		}
		if got := impl.CenterOf(c.body); got != -1 {
			t.Errorf("%s: CenterOf is %d, want -1", c.name, got)
		}
	}
}

func TestAreSameShapeOfInvalidBodies(t *testing.T) {
	for _, c := range invalidBodies() {
		if impl.AreSameShape(c.body, copyOf(c.body)) {
			t.Errorf("%s: AreSameShape with itself is true", c.name)
		}
		for _, b := range validBodies() {
			if impl.AreSameShape(b, c.body) || impl.AreSameShape(c.body, b) {
				t.Errorf("%s: AreSameShape with %v is true", c.name, b)
			}
		}
		for _, d := range invalidBodies() {
			if impl.AreSameShape(c.body, d.body) {
				t.Errorf("%s: AreSameShape with another one (%s) is true", c.name, d.name)
			}
		}
	}
}

func TestDistanceArgumentsAreLeftUnchanged(t *testing.T) {
	checkBodiesUnchanged(t, func(b impl.Body) {
		impl.SpanOf(b)
		impl.CenterOf(b)
		impl.AreSameShape(b, b)
		for i := -1; i <= 12; i++ {
			impl.DistancesFrom(b, i)
			for j := -1; j <= 12; j++ {
				impl.PathBetween(b, i, j)
				impl.DistanceOf(b, i, j)
			}
		}
	})
}

func TestDistanceListsAreNewMemory(t *testing.T) {
	b := impl.SampleBody()
	way, from := impl.PathBetween(b, 3, 6), impl.DistancesFrom(b, 3)
	clear(way[:cap(way)])
	clear(from[:cap(from)])
	if want := impl.SampleBody(); !equalBodies(b, want) {
		t.Errorf("a change of a result changes the argument to %v", b)
	}
	if got, want := impl.PathBetween(b, 3, 6), []int{3, 1, 0, 2, 6}; !slices.Equal(got, want) {
		t.Errorf("after a change of another result, PathBetween is %v, want %v", got, want)
	}
	if got, want := impl.DistancesFrom(b, 3), []int{7, 3, 13, 0, 6, 18, 18}; !slices.Equal(got, want) {
		t.Errorf("after a change of another result, DistancesFrom is %v, want %v", got, want)
	}
}
