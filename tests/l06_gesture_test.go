package tests

import (
	"math"
	"runtime"
	"slices"
	"sync"
	"testing"
	"time"

	"loop.example/g03306/impl"
)

// counted is the list of these many numbers from first on, each one by more than
// the number before it.
func counted(count int, first int, by int) []int {
	list := make([]int, count)
	for i := range list {
		list[i] = first + i*by
	}
	return list
}

// fromChance is a short rule with a long period, which stands for numbers of all
// kinds from 0 up to a limit, without it.
func fromChance(seed int) func(below int) int {
	n := seed
	return func(below int) int {
		n = (n*1103 + 12345) % 65521
		return n / 3 % below
	}
}

type twoPoses struct {
	name string
	p    []int
	q    []int
}

// comparedPoses are lists of which StepSize is a number.
func comparedPoses() []twoPoses {
	pairs := []twoPoses{
		{"no numbers", nil, nil},
		{"no numbers, an empty list", []int{}, nil},
		{"one number", []int{4}, []int{7}},
		{"one number, downwards", []int{7}, []int{4}},
		{"one number at 0", []int{0}, []int{0}},
		{"one number from -1 to 0", []int{-1}, []int{0}},
		{"one number from -2000 to 2000", []int{-2000}, []int{2000}},
		{"one number from 2000 to -2000", []int{2000}, []int{-2000}},
		{"one number from -2000 to 1999", []int{-2000}, []int{1999}},
		{"one number at -2000", []int{-2000}, []int{-2000}},
		{"one number at 2000", []int{2000}, []int{2000}},
		{"the greatest step first", []int{9, 1, 1}, []int{1, 2, 3}},
		{"the greatest step last", []int{1, 2, -3}, []int{3, 2, 9}},
		{"the greatest step in the middle, downwards", []int{1, 50, 3}, []int{9, -50, 4}},
		{"the greatest step in the middle, upwards", []int{9, -50, 4}, []int{1, 50, 3}},
		{"equal poses", []int{3, -1, 8}, []int{3, -1, 8}},
		{"odd differences", []int{-3, 4, -6, 5}, []int{0, 7, -1, -8}},
		{"twelve numbers", counted(12, -6, 1), counted(12, 9, -3)},
		{"twelve equal numbers", counted(12, 5, 0), counted(12, 5, 0)},
		{"twelve numbers from end to end", counted(12, -2000, 0), counted(12, 2000, 0)},
	}
	next := fromChance(41)
	for i := range 200 {
		p, q := make([]int, i%13), make([]int, i%13)
		for j := range p {
			p[j] = []int{-2000, next(4001) - 2000, next(9) - 4, 2000}[next(4)]
			q[j] = []int{-2000, next(4001) - 2000, next(9) - 4, 2000, p[j]}[next(5)]
		}
		pairs = append(pairs, twoPoses{"numbers of all kinds", p, q})
	}
	return pairs
}

// strangePoses are lists of which StepSize is -1.
func strangePoses() []twoPoses {
	pairs := []twoPoses{
		{"one number and none", []int{1}, nil},
		{"one number and an empty list", []int{1}, []int{}},
		{"no numbers and one", nil, []int{1}},
		{"the first one is longer", []int{1, 2, 3}, []int{1, 2}},
		{"the second one is longer", []int{1, 2}, []int{1, 2, 3}},
		{"eleven and twelve numbers", make([]int, 11), make([]int, 12)},
		{"twelve and thirteen numbers", make([]int, 12), make([]int, 13)},
		{"thirteen and twelve numbers", make([]int, 13), make([]int, 12)},
		{"thirteen numbers", counted(13, 0, 1), counted(13, 5, 1)},
		{"thirteen equal numbers", make([]int, 13), make([]int, 13)},
		{"many numbers", make([]int, 100000), make([]int, 100000)},
		{"different lengths and a wrong number", []int{2001}, []int{1, 2}},
		{"the least and the greatest int", []int{math.MinInt}, []int{math.MaxInt}},
		{"the greatest and the least int", []int{math.MaxInt}, []int{math.MinInt}},
		{"-1 and the greatest int", []int{-1}, []int{math.MaxInt}},
		{"0 and the least int", []int{0}, []int{math.MinInt}},
	}
	for _, n := range []int{math.MinInt, -4000, -2001, 2001, 4000, math.MaxInt} {
		for j := range 3 {
			right, wrong := []int{1, 2, 3}, withNumber([]int{1, 2, 3}, j, n)
			name := impl.FormatInt(n) + " at joint " + impl.FormatInt(j)
			pairs = append(pairs,
				twoPoses{name + " of the first pose", wrong, right},
				twoPoses{name + " of the second pose", right, wrong},
				twoPoses{name + " of both poses", wrong, slices.Clone(wrong)})
		}
	}
	for _, n := range []int{-2001, 2001} {
		twelve := slices.Repeat([]int{n - n/2001}, 12)
		pairs = append(pairs,
			twoPoses{"the twelfth number of the first pose", withNumber(twelve, 11, n), twelve},
			twoPoses{"the twelfth number of the second pose", twelve, withNumber(twelve, 11, n)})
	}
	return pairs
}

func greatestDifference(p []int, q []int) int {
	greatest := 0
	for j := range p {
		if p[j] > q[j] {
			greatest = max(greatest, p[j]-q[j])
		} else {
			greatest = max(greatest, q[j]-p[j])
		}
	}
	return greatest
}

func TestStepSize(t *testing.T) {
	for _, c := range []struct {
		p    []int
		q    []int
		want int
	}{
		{nil, nil, 0},
		{[]int{}, nil, 0},
		{[]int{1, 5}, []int{4, 3}, 3},
		{[]int{4, 3}, []int{1, 5}, 3},
		{[]int{0}, []int{-7}, 7},
		{[]int{-7}, []int{0}, 7},
		{[]int{-7}, []int{-9}, 2},
		{[]int{-7, 12, 3}, []int{-7, 12, 3}, 0},
		{[]int{-7, 12, 3}, []int{-7, 12, 4}, 1},
		{[]int{-7, 12, 3}, []int{-8, 12, 3}, 1},
		{[]int{1, 2, 3}, []int{0, 0, 0}, 3},
		{[]int{3, 2, 1}, []int{0, 0, 0}, 3},
		{[]int{-2000}, []int{2000}, 4000},
		{[]int{2000}, []int{-2000}, 4000},
		{[]int{2000, -2000}, []int{2000, -2000}, 0},
		{[]int{2000, -2000}, []int{-1999, -2000}, 3999},
		{make([]int, 12), counted(12, -5, 1), 6},
		{make([]int, 12), make([]int, 12), 0},
		{make([]int, 13), make([]int, 13), -1},
		{[]int{1}, nil, -1},
		{nil, []int{1}, -1},
		{[]int{1, 2}, []int{1}, -1},
		{[]int{2001}, []int{2001}, -1},
		{[]int{2001}, []int{2000}, -1},
		{[]int{2000}, []int{2001}, -1},
		{[]int{-2001}, []int{-2000}, -1},
		{[]int{-2000}, []int{-2001}, -1},
	} {
		if got := impl.StepSize(c.p, c.q); got != c.want {
			t.Errorf("StepSize(%v, %v) is %d, want %d", c.p, c.q, got, c.want)
		}
	}
	for _, c := range comparedPoses() {
		want := greatestDifference(c.p, c.q)
		if got := impl.StepSize(c.p, c.q); got != want {
			t.Errorf("%s: StepSize(%v, %v) is %d, want %d", c.name, c.p, c.q, got, want)
		}
		if got := impl.StepSize(c.q, c.p); got != want {
			t.Errorf("%s: StepSize(%v, %v) is %d, want %d", c.name, c.q, c.p, got, want)
		}
	}
}

func TestStepSizeRange(t *testing.T) {
	for _, n := range numbersAround(-2003, 2003) {
		want := -1
		if n >= -2000 && n <= 2000 {
			want = max(n, -n)
		}
		for j := range 3 {
			list := withNumber([]int{0, 0, 0}, j, n)
			if got := impl.StepSize(list, make([]int, 3)); got != want {
				t.Errorf("StepSize(%v, zeros) is %d, want %d", list, got, want)
			}
			if got := impl.StepSize(make([]int, 3), list); got != want {
				t.Errorf("StepSize(zeros, %v) is %d, want %d", list, got, want)
			}
		}
	}
}

func TestStepSizeCounts(t *testing.T) {
	for n := range 20 {
		for m := range 20 {
			want := -1
			if n == m && n <= 12 {
				want = 0
			}
			if got := impl.StepSize(make([]int, n), make([]int, m)); got != want {
				t.Errorf("StepSize of %d and %d zeros is %d, want %d", n, m, got, want)
			}
		}
	}
}

// checkNoStep checks the results for lists of which StepSize is -1.
func checkNoStep(t *testing.T, c twoPoses) {
	t.Helper()
	if got := impl.StepSize(c.p, c.q); got != -1 {
		t.Errorf("%s: StepSize is %d, want -1", c.name, got)
	}
	if got := impl.MiddlePose(c.p, c.q); len(got) != 0 {
		t.Errorf("%s: MiddlePose is %v, want none", c.name, got)
	}
	if got := impl.HighestPose(c.p, c.q); len(got) != 0 {
		t.Errorf("%s: HighestPose is %v, want none", c.name, got)
	}
	if got := impl.LowerPose(c.p, c.q); len(got) != 0 {
		t.Errorf("%s: LowerPose is %v, want none", c.name, got)
	}
	// The body is that of the first or of the second list.
	for _, joints := range []int{len(c.p), len(c.q)} {
		for _, b := range []impl.Body{chainOf(joints), starOf(joints, 0)} {
			checkNotSmoothed(t, c.name, b, c.p, c.q, 4000)
			if impl.IsGesture(b, [][]int{c.p, c.q}, 4000) {
				t.Errorf("%s: IsGesture is true", c.name)
			}
		}
	}
}

func checkNotSmoothed(t *testing.T, name string, b impl.Body, p []int, q []int, most int) {
	t.Helper()
	if got := impl.Smoothed(b, p, q, most); len(got) != 0 {
		t.Errorf("%s: Smoothed(%v, %v, %v, %d) is %v, want none", name, b, p, q, most, got)
	}
}

func TestStrangePoses(t *testing.T) {
	for _, c := range strangePoses() {
		checkNoStep(t, c)
		checkNoStep(t, twoPoses{c.name + ", exchanged", c.q, c.p})
	}
}

func TestMiddlePose(t *testing.T) {
	for _, c := range []struct {
		p    []int
		q    []int
		want []int
	}{
		{nil, nil, nil},
		{[]int{}, []int{}, nil},
		{[]int{-3, 4}, []int{0, 7}, []int{-2, 5}},
		{[]int{0, 7}, []int{-3, 4}, []int{-2, 5}},
		{[]int{-1}, []int{0}, []int{-1}},
		{[]int{0}, []int{-1}, []int{-1}},
		{[]int{0}, []int{1}, []int{0}},
		{[]int{-1}, []int{1}, []int{0}},
		{[]int{-2}, []int{1}, []int{-1}},
		{[]int{-1}, []int{-2}, []int{-2}},
		{[]int{-5}, []int{-8}, []int{-7}},
		{[]int{-5}, []int{-7}, []int{-6}},
		{[]int{5}, []int{8}, []int{6}},
		{[]int{-2000}, []int{2000}, []int{0}},
		{[]int{-2000}, []int{1999}, []int{-1}},
		{[]int{-1999}, []int{2000}, []int{0}},
		{[]int{-2000}, []int{-1999}, []int{-2000}},
		{[]int{2000}, []int{1999}, []int{1999}},
		{[]int{2000, -2000}, []int{2000, -2000}, []int{2000, -2000}},
		{[]int{3, -1, 8}, []int{3, -1, 8}, []int{3, -1, 8}},
		{make([]int, 12), counted(12, -6, 1), []int{-3, -3, -2, -2, -1, -1, 0, 0, 1, 1, 2, 2}},
		{make([]int, 13), make([]int, 13), nil},
	} {
		if got := impl.MiddlePose(c.p, c.q); !slices.Equal(got, c.want) {
			t.Errorf("MiddlePose(%v, %v) is %v, want %v", c.p, c.q, got, c.want)
		}
	}
	for _, c := range comparedPoses() {
		checkEachHeight(t, "MiddlePose", impl.MiddlePose, c, func(a int, b int) int {
			return int(math.Floor((float64(a) + float64(b)) / 2))
		})
	}
}

// checkEachHeight checks a function of two poses that makes each height of both
// heights at the same joint.
func checkEachHeight(t *testing.T, name string, use func(p []int, q []int) []int, c twoPoses, height func(a int, b int) int) {
	t.Helper()
	want := make([]int, len(c.p))
	for j := range want {
		want[j] = height(c.p[j], c.q[j])
	}
	if got := use(c.p, c.q); !slices.Equal(got, want) {
		t.Errorf("%s: %s(%v, %v) is %v, want %v", c.name, name, c.p, c.q, got, want)
	}
	if got := use(c.q, c.p); !slices.Equal(got, want) {
		t.Errorf("%s: %s(%v, %v) is %v, want %v", c.name, name, c.q, c.p, got, want)
	}
}

func TestMiddlePoseOfAllSmallHeights(t *testing.T) {
	for a := -9; a <= 9; a++ {
		for b := -9; b <= 9; b++ {
			got := impl.MiddlePose([]int{a}, []int{b})
			// The middle of a and b is rounded down by nothing or a half.
			if len(got) != 1 || a+b-2*got[0] < 0 || a+b-2*got[0] > 1 {
				t.Errorf("MiddlePose([%d], [%d]) is %v", a, b, got)
			}
		}
	}
}

func TestHighestAndLowerPose(t *testing.T) {
	for _, c := range []struct {
		p    []int
		q    []int
		high []int
		low  []int
	}{
		{nil, nil, nil, nil},
		{[]int{}, []int{}, nil, nil},
		{[]int{1, 9}, []int{4, 2}, []int{4, 9}, []int{1, 2}},
		{[]int{4, 2}, []int{1, 9}, []int{4, 9}, []int{1, 2}},
		{[]int{-1}, []int{0}, []int{0}, []int{-1}},
		{[]int{-4}, []int{-5}, []int{-4}, []int{-5}},
		{[]int{-2000}, []int{2000}, []int{2000}, []int{-2000}},
		{[]int{-2000}, []int{-2000}, []int{-2000}, []int{-2000}},
		{[]int{2000}, []int{2000}, []int{2000}, []int{2000}},
		{[]int{3, -1, 8}, []int{3, -1, 8}, []int{3, -1, 8}, []int{3, -1, 8}},
		{[]int{3, -1, 8}, []int{4, 0, 9}, []int{4, 0, 9}, []int{3, -1, 8}},
		{counted(12, 0, 1), counted(12, 11, -1), []int{11, 10, 9, 8, 7, 6, 6, 7, 8, 9, 10, 11}, []int{0, 1, 2, 3, 4, 5, 5, 4, 3, 2, 1, 0}},
		{make([]int, 13), make([]int, 13), nil, nil},
	} {
		if got := impl.HighestPose(c.p, c.q); !slices.Equal(got, c.high) {
			t.Errorf("HighestPose(%v, %v) is %v, want %v", c.p, c.q, got, c.high)
		}
		if got := impl.LowerPose(c.p, c.q); !slices.Equal(got, c.low) {
			t.Errorf("LowerPose(%v, %v) is %v, want %v", c.p, c.q, got, c.low)
		}
	}
	for _, c := range comparedPoses() {
		checkEachHeight(t, "HighestPose", impl.HighestPose, c, func(a int, b int) int {
			if a < b {
				return b
			}
			return a
		})
		checkEachHeight(t, "LowerPose", impl.LowerPose, c, func(a int, b int) int {
			if a < b {
				return a
			}
			return b
		})
	}
}

func TestIsGesture(t *testing.T) {
	chain := withLengths(bodyOf(3, 0, 1, 1, 2), 4, 5)
	flat := []int{0, 0, 0}
	for _, c := range []struct {
		name  string
		body  impl.Body
		poses [][]int
		most  int
		want  bool
	}{
		{"no poses", chain, nil, 4000, false},
		{"no poses, an empty list", chain, [][]int{}, 4000, false},
		{"one pose", chain, [][]int{{10, 6, 1}}, 0, true},
		{"one pose at -2000", chain, [][]int{{-2000, -2000, -2000}}, 0, true},
		{"one pose at 2000", chain, [][]int{{2000, 2000, 2000}}, 4000, true},
		{"one joint", bodyOf(1), [][]int{{7}}, 0, true},
		{"one joint, no numbers", bodyOf(1), [][]int{nil}, 0, false},
		{"equal poses", chain, [][]int{{10, 6, 1}, {10, 6, 1}, {10, 6, 1}}, 0, true},
		{"a step of exactly most", chain, [][]int{flat, {4, 4, 4}}, 4, true},
		{"a step of one more than most", chain, [][]int{flat, {4, 4, 4}}, 3, false},
		{"a step down of exactly most", chain, [][]int{{4, 4, 4}, flat}, 4, true},
		{"a step down of one more than most", chain, [][]int{{4, 4, 4}, flat}, 3, false},
		{"a step of 1 and most 0", chain, [][]int{flat, {0, 0, 1}}, 0, false},
		{"the first joint alone steps", chain, [][]int{flat, {4, 0, 0}}, 3, false},
		{"the last joint alone steps", chain, [][]int{flat, {0, 0, 5}}, 4, false},
		{"the joints step in different directions", chain, [][]int{flat, {2, 0, -3}}, 3, true},
		{"a great step between the first two", chain, [][]int{flat, {9, 9, 9}, {10, 10, 10}, {11, 11, 11}}, 8, false},
		{"a great step in the middle", chain, [][]int{flat, {1, 1, 1}, {10, 10, 10}, {11, 11, 11}}, 8, false},
		{"a great step between the last two", chain, [][]int{flat, {1, 1, 1}, {2, 2, 2}, {11, 11, 11}}, 8, false},
		{"far away in small steps", chain, [][]int{flat, {5, 5, 5}, {10, 10, 10}, {15, 15, 15}}, 5, true},
		{"there and back", chain, [][]int{flat, {5, 5, 5}, flat, {-5, -5, -5}}, 5, true},
		{"from end to end", chain, [][]int{{-2000, -2000, -2000}, {2000, 2000, 2000}}, 4000, true},
		{"from end to end, most 3999", chain, [][]int{{-2000, -2000, -2000}, {2000, 2000, 2000}}, 3999, false},
		{"one step less than from end to end", chain, [][]int{{-2000, -2000, -2000}, {1999, 1999, 1999}}, 3999, true},
		{"the first one is no pose", chain, [][]int{{5, 0, 0}, flat, flat}, 10, false},
		{"the middle one is no pose", chain, [][]int{flat, {0, 0, 6}, flat}, 10, false},
		{"the last one is no pose", chain, [][]int{flat, flat, {0, -5, 0}}, 10, false},
		{"the only one is no pose", chain, [][]int{{0, -5, 0}}, 10, false},
		{"a pose at 2001", chain, [][]int{{2000, 2000, 2000}, {2001, 2000, 2000}}, 10, false},
		{"a pose at -2001", chain, [][]int{{-2000, -2000, -2001}, {-2000, -2000, -2000}}, 10, false},
		{"the first one has too few numbers", chain, [][]int{{0, 0}, flat}, 10, false},
		{"the last one has too few numbers", chain, [][]int{flat, {0, 0}}, 10, false},
		{"one has no numbers", chain, [][]int{flat, nil, flat}, 10, false},
		{"one has too many numbers", chain, [][]int{flat, {0, 0, 0, 0}}, 10, false},
		{"all have too few numbers", chain, [][]int{{0, 0}, {0, 0}}, 10, false},
		{"all have too many numbers", chain, [][]int{{0, 0, 0, 0}, {0, 0, 0, 0}}, 10, false},
		{"twelve joints", chainOf(12), [][]int{make([]int, 12), slices.Repeat([]int{3}, 12)}, 3, true},
		{"thirteen joints", chainOf(13), [][]int{make([]int, 13), make([]int, 13)}, 3, false},
		{"poses of another body", withLengths(bodyOf(3, 0, 1, 1, 2), 4, 4), [][]int{{10, 6, 1}}, 10, false},
		{"no body and no poses", impl.Body{}, nil, 10, false},
		{"no body and an empty pose", impl.Body{}, [][]int{nil}, 10, false},
		{"the least and the greatest int", bodyOf(1), [][]int{{math.MinInt}, {math.MaxInt}}, 4000, false},
	} {
		if got := impl.IsGesture(c.body, c.poses, c.most); got != c.want {
			t.Errorf("%s: IsGesture(%v, %v, %d) is %v", c.name, c.body, c.poses, c.most, got)
		}
	}
}

func TestIsGestureMost(t *testing.T) {
	for _, most := range append(numbersAround(0, 30), numbersAround(3995, 4005)...) {
		right := most >= 0 && most <= 4000
		for _, step := range []int{0, 1, 20, 3999, 4000} {
			poses := [][]int{{-2000, -2000}, {step - 2000, step - 2000}}
			want := right && step <= most
			if got := impl.IsGesture(bodyOf(2, 0, 1), poses, most); got != want {
				t.Errorf("IsGesture with a step of %d and most %d is %v", step, most, got)
			}
		}
		if got := impl.IsGesture(bodyOf(2, 0, 1), [][]int{{0, 0}}, most); got != right {
			t.Errorf("IsGesture of one pose with most %d is %v", most, got)
		}
		if impl.IsGesture(bodyOf(2, 0, 1), nil, most) {
			t.Errorf("IsGesture of no poses with most %d is true", most)
		}
	}
}

func TestIsGestureCounts(t *testing.T) {
	for n := range 30 {
		poses, equal := make([][]int, n), make([][]int, n)
		for i := range poses {
			poses[i] = []int{3 * i, 3*i + 1}
			equal[i] = []int{8, 7}
		}
		want := n >= 1 && n <= 20
		if got := impl.IsGesture(bodyOf(2, 0, 1), poses, 3); got != want {
			t.Errorf("IsGesture of %d poses is %v", n, got)
		}
		if got := impl.IsGesture(bodyOf(2, 0, 1), equal, 0); got != want {
			t.Errorf("IsGesture of %d equal poses is %v", n, got)
		}
		if got := impl.IsGesture(bodyOf(2, 0, 1), poses, 2); got != (n == 1) {
			t.Errorf("IsGesture of %d poses with steps that are too great is %v", n, got)
		}
	}
	if impl.IsGesture(bodyOf(1), slices.Repeat([][]int{{0}}, 10000), 0) {
		t.Error("IsGesture of many poses is true")
	}
}

// TestIsGestureOfEachPose spoils each pose of a gesture in turn.
func TestIsGestureOfEachPose(t *testing.T) {
	b := impl.SampleBody()
	for i := range 20 {
		for j := range b.Joints {
			for _, n := range []int{math.MinInt, -2001, 5, 6, 7, 13, 2001, math.MaxInt} {
				poses := slices.Repeat([][]int{{6, 6, 6, 6, 6, 6, 6}}, 20)
				poses[i] = withNumber(poses[i], j, n)
				for _, most := range []int{0, 1, 4000} {
					want := n >= 6-most && n <= 6+most && n >= 5 && n <= 7
					if got := impl.IsGesture(b, poses, most); got != want {
						t.Errorf("IsGesture with the height %d of joint %d in pose %d and most %d is %v", n, j, i, most, got)
					}
				}
			}
		}
	}
}

func equalPoses(a [][]int, b [][]int) bool {
	return slices.EqualFunc(a, b, func(p []int, q []int) bool { return slices.Equal(p, q) })
}

func TestSmoothed(t *testing.T) {
	two := withLengths(bodyOf(2, 0, 1), 5)
	chain := withLengths(bodyOf(3, 0, 1, 1, 2), 4, 5)
	for _, c := range []struct {
		name string
		body impl.Body
		p    []int
		q    []int
		most int
		want [][]int
	}{
		{"up", two, []int{0, 0}, []int{25, 20}, 10, [][]int{{0, 0}, {10, 10}, {20, 20}, {25, 20}}},
		{"down", two, []int{25, 20}, []int{0, 0}, 10, [][]int{{25, 20}, {15, 10}, {5, 0}, {0, 0}}},
		{"through 0", two, []int{-14, -12}, []int{12, 14}, 10, [][]int{{-14, -12}, {-4, -2}, {6, 8}, {12, 14}}},
		{"equal poses", two, []int{3, 4}, []int{3, 4}, 10, [][]int{{3, 4}}},
		{"equal poses, by 4000", two, []int{3, 4}, []int{3, 4}, 4000, [][]int{{3, 4}}},
		{"equal poses at -2000", two, []int{-2000, -2000}, []int{-2000, -2000}, 10, [][]int{{-2000, -2000}}},
		{"equal poses of one joint", bodyOf(1), []int{0}, []int{0}, 10, [][]int{{0}}},
		{"a step of 1", two, []int{3, 4}, []int{3, 5}, 10, [][]int{{3, 4}, {3, 5}}},
		{"a step of -1", two, []int{3, 4}, []int{2, 4}, 10, [][]int{{3, 4}, {2, 4}}},
		{"a step of one less than most", two, []int{0, 0}, []int{9, 9}, 10, [][]int{{0, 0}, {9, 9}}},
		{"a step of exactly most", two, []int{0, 0}, []int{10, 10}, 10, [][]int{{0, 0}, {10, 10}}},
		{"a step of one more than most", two, []int{0, 0}, []int{11, 11}, 10, [][]int{{0, 0}, {10, 10}, {11, 11}}},
		{"a step down of exactly most", two, []int{0, 0}, []int{-10, -10}, 10, [][]int{{0, 0}, {-10, -10}}},
		{"a step down of one more than most", two, []int{0, 0}, []int{-11, -11}, 10, [][]int{{0, 0}, {-10, -10}, {-11, -11}}},
		{"one joint is one more than most away", two, []int{0, 0}, []int{10, 11}, 10, [][]int{{0, 0}, {10, 10}, {10, 11}}},
		{"twice most", two, []int{0, 0}, []int{20, 20}, 10, [][]int{{0, 0}, {10, 10}, {20, 20}}},
		{"twice most and 1", two, []int{0, 0}, []int{21, 20}, 10, [][]int{{0, 0}, {10, 10}, {20, 20}, {21, 20}}},
		{"the joints cross", withLengths(bodyOf(2, 0, 1), 30), []int{0, 30}, []int{30, 0}, 11, [][]int{{0, 30}, {11, 19}, {22, 8}, {30, 0}}},
		{"one joint stays", withLengths(bodyOf(2, 0, 1), 30), []int{0, 30}, []int{60, 30}, 25, [][]int{{0, 30}, {25, 30}, {50, 30}, {60, 30}}},
		{"three joints", chain, []int{10, 6, 1}, []int{-9, -5, 0}, 10, [][]int{{10, 6, 1}, {0, -4, 0}, {-9, -5, 0}}},
		{"from end to end", bodyOf(1), []int{-2000}, []int{2000}, 4000, [][]int{{-2000}, {2000}}},
		{"from end to end, by 3999", bodyOf(1), []int{-2000}, []int{2000}, 3999, [][]int{{-2000}, {1999}, {2000}}},
		{"from end to end, downwards", bodyOf(1), []int{2000}, []int{-2000}, 2001, [][]int{{2000}, {-1}, {-2000}}},
		{"far up at 2000", bodyOf(1), []int{1995}, []int{2000}, 4000, [][]int{{1995}, {2000}}},
		{"far down at -2000", bodyOf(1), []int{-1995}, []int{-2000}, 4000, [][]int{{-1995}, {-2000}}},
		{"by 9", two, []int{0, 0}, []int{25, 20}, 9, nil},
		{"equal poses, by 9", two, []int{0, 0}, []int{0, 0}, 9, nil},
		{"by 0", two, []int{0, 0}, []int{25, 20}, 0, nil},
		{"equal poses, by 0", two, []int{0, 0}, []int{0, 0}, 0, nil},
		{"by -10", two, []int{0, 0}, []int{25, 20}, -10, nil},
		{"by 4001", two, []int{0, 0}, []int{25, 20}, 4001, nil},
		{"by the least int", two, []int{0, 0}, []int{25, 20}, math.MinInt, nil},
		{"by the greatest int", two, []int{0, 0}, []int{25, 20}, math.MaxInt, nil},
		{"the first one is no pose", two, []int{0, 6}, []int{25, 20}, 10, nil},
		{"the second one is no pose", two, []int{0, 0}, []int{26, 20}, 10, nil},
		{"equal lists that are no pose", two, []int{0, 6}, []int{0, 6}, 10, nil},
		{"the first one at 2001", two, []int{2001, 2000}, []int{25, 20}, 10, nil},
		{"the second one at -2001", two, []int{0, 0}, []int{-2000, -2001}, 10, nil},
		{"the first one has too few numbers", two, []int{0}, []int{25, 20}, 10, nil},
		{"the second one has too few numbers", two, []int{0, 0}, []int{25}, 10, nil},
		{"the first one has too many numbers", two, []int{0, 0, 0}, []int{25, 20}, 10, nil},
		{"the second one has too many numbers", two, []int{0, 0}, []int{25, 20, 20}, 10, nil},
		{"both have too few numbers", two, []int{0}, []int{25}, 10, nil},
		{"no numbers", two, nil, nil, 10, nil},
		{"no body and no numbers", impl.Body{}, nil, nil, 10, nil},
		{"a body of 13 joints", chainOf(13), make([]int, 13), make([]int, 13), 10, nil},
	} {
		if got := impl.Smoothed(c.body, c.p, c.q, c.most); !equalPoses(got, c.want) {
			t.Errorf("%s: Smoothed(%v, %v, %v, %d) is %v, want %v", c.name, c.body, c.p, c.q, c.most, got, c.want)
		}
	}
}

func TestSmoothedMost(t *testing.T) {
	b, p, q := bodyOf(2, 0, 1), []int{-2000, -1999}, []int{2000, 2000}
	for _, most := range append(numbersAround(9, 30), numbersAround(3995, 4005)...) {
		got := impl.Smoothed(b, p, q, most)
		if most < 10 || most > 4000 {
			if len(got) != 0 {
				t.Errorf("Smoothed by %d has %d poses, want none", most, len(got))
			}
			continue
		}
		if want := smoothedAtOnce(p, q, most); !equalPoses(got, want) {
			t.Errorf("Smoothed by %d is %v, want %v", most, got, want)
		}
	}
}

// TestSmoothedIsLong has more poses than a gesture may have.
func TestSmoothedIsLong(t *testing.T) {
	for _, c := range []struct {
		from int
		to   int
		most int
		want int
	}{
		{-2000, 2000, 10, 401}, {2000, -2000, 10, 401}, {-2000, 1999, 10, 401}, {-2000, 1990, 10, 400},
		{0, 190, 10, 20}, {0, 191, 10, 21}, {0, -200, 10, 21},
	} {
		joints := 12
		p, q := slices.Repeat([]int{c.from}, joints), slices.Repeat([]int{c.to}, joints)
		got := impl.Smoothed(chainOf(joints), p, q, c.most)
		if len(got) != c.want || !equalPoses(got, smoothedAtOnce(p, q, c.most)) {
			t.Errorf("Smoothed from %d to %d by %d has %d poses, want %d: %v", c.from, c.to, c.most, len(got), c.want, got)
		}
		if gesture := impl.IsGesture(chainOf(joints), got, c.most); gesture != (c.want <= 20) {
			t.Errorf("Smoothed from %d to %d by %d is a gesture: %v", c.from, c.to, c.most, gesture)
		}
	}
}

// smoothedAtOnce finds each pose from the first one and the last one alone.
func smoothedAtOnce(p []int, q []int, most int) [][]int {
	last := (greatestDifference(p, q) + most - 1) / most
	poses := make([][]int, last+1)
	for i := range poses {
		for j := range p {
			way := min(i*most, max(q[j]-p[j], p[j]-q[j]))
			if q[j] < p[j] {
				way = -way
			}
			poses[i] = append(poses[i], p[j]+way)
		}
	}
	return poses
}

// moved is a pose that is higher by a number everywhere.
func moved(pose []int, by int) []int {
	list := slices.Clone(pose)
	for j := range list {
		list[j] += by
	}
	return list
}

// validPoses are poses of b: flat ones, those of the puppet as it hangs, the
// same ones upside down, and all of them up to the ends of the range.
func validPoses(b impl.Body) [][]int {
	poses := [][]int{make([]int, b.Joints), slices.Repeat([]int{-2000}, b.Joints), slices.Repeat([]int{2000}, b.Joints)}
	lists := validPulls(b)
	for i := 0; i < len(lists); i += 11 {
		pose := hangByLimbs(b, lists[i])
		turned := slices.Clone(pose)
		for j := range turned {
			turned[j] = -pose[j]
		}
		poses = append(poses, pose, turned, moved(pose, 2000-slices.Max(pose)), moved(turned, -2000-slices.Min(turned)))
	}
	return poses
}

func TestValidPoses(t *testing.T) {
	for _, b := range validBodies() {
		for _, pose := range validPoses(b) {
			if !impl.PoseOk(b, pose) {
				t.Errorf("PoseOk(%v, %v) is false", b, pose)
			}
		}
	}
}

// forAllPairs visits all pairs of the validPoses of all validBodies.
func forAllPairs(visit func(b impl.Body, p []int, q []int)) {
	for _, b := range validBodies() {
		poses := validPoses(b)
		for _, p := range poses {
			for _, q := range poses {
				visit(b, p, q)
			}
		}
	}
}

// TestSmoothedGesturesHaveSmallSteps checks the first half of promise 6.
func TestSmoothedGesturesHaveSmallSteps(t *testing.T) {
	forAllPairs(func(b impl.Body, p []int, q []int) {
		for _, most := range []int{73, 250, 4000} {
			got := impl.Smoothed(b, p, q, most)
			if !equalPoses(got, smoothedAtOnce(p, q, most)) {
				t.Fatalf("Smoothed(%v, %v, %v, %d) is %v", b, p, q, most, got)
			}
			for i, pose := range got {
				if !holds(b, nil, pose) || len(pose) != b.Joints {
					t.Errorf("Smoothed(%v, %v, %v, %d) has %v, which is no pose", b, p, q, most, pose)
				}
				if i > 0 && (impl.StepSize(got[i-1], pose) > most || impl.StepSize(got[i-1], pose) < 1) {
					t.Errorf("Smoothed(%v, %v, %v, %d) has the step from %v to %v", b, p, q, most, got[i-1], pose)
				}
			}
			if !slices.Equal(got[0], p) || !slices.Equal(got[len(got)-1], q) {
				t.Errorf("Smoothed(%v, %v, %v, %d) does not lead from the first pose to the second one", b, p, q, most)
			}
		}
		if got := impl.Smoothed(b, p, q, 250); !impl.IsGesture(b, got, 250) {
			t.Errorf("Smoothed(%v, %v, %v, 250) is %v, which is no gesture", b, p, q, got)
		}
	})
}

// TestTheHigherOfTwoPosesIsAPose checks the second half of promise 6, and that
// the lower one and the middle one are between both as well.
func TestTheHigherOfTwoPosesIsAPose(t *testing.T) {
	forAllPairs(func(b impl.Body, p []int, q []int) {
		low, middle, high := impl.LowerPose(p, q), impl.MiddlePose(p, q), impl.HighestPose(p, q)
		if !impl.PoseOk(b, high) {
			t.Errorf("%v: HighestPose(%v, %v) is %v, which is no pose", b, p, q, high)
		}
		if !impl.PoseOk(b, low) {
			t.Errorf("%v: LowerPose(%v, %v) is %v, which is no pose", b, p, q, low)
		}
		if !impl.PoseOk(b, middle) {
			t.Errorf("%v: MiddlePose(%v, %v) is %v, which is no pose", b, p, q, middle)
		}
		for j := range p {
			if low[j]+high[j] != p[j]+q[j] || low[j] > middle[j] || middle[j] > high[j] {
				t.Errorf("LowerPose, MiddlePose and HighestPose of %v and %v are %v, %v and %v", p, q, low, middle, high)
			}
		}
	})
}

func TestGesturesOfInvalidBodies(t *testing.T) {
	for _, c := range invalidBodies() {
		counts := []int{0, 1, 2, 3, 4, 11, 12, 13}
		if c.body.Joints >= 0 && c.body.Joints <= 100 {
			counts = append(counts, c.body.Joints)
		}
		for _, n := range counts {
			p, q := make([]int, n), slices.Repeat([]int{3}, n)
			checkNotSmoothed(t, c.name, c.body, p, q, 10)
			checkNotSmoothed(t, c.name, c.body, p, p, 10)
			for _, poses := range [][][]int{nil, {p}, {p, q}, {p, p}} {
				if impl.IsGesture(c.body, poses, 10) {
					t.Errorf("%s: IsGesture(%v, %v, 10) is true", c.name, c.body, poses)
				}
			}
		}
	}
}

// TestGesturesOfNoPoses spoils one pose of two.
func TestGesturesOfNoPoses(t *testing.T) {
	for _, b := range validBodies() {
		right := slices.Repeat([]int{1000}, b.Joints)
		wrongs := [][]int{nil, right[1:], append(slices.Clone(right), 1000)}
		for j := range right {
			for _, n := range []int{math.MinInt, -2001, 2001, math.MaxInt} {
				wrongs = append(wrongs, withNumber(right, j, n))
			}
			if b.Joints > 1 {
				// No limb is longer than 100.
				wrongs = append(wrongs, withNumber(right, j, 899), withNumber(right, j, 1101))
			}
		}
		for _, wrong := range wrongs {
			checkNotSmoothed(t, "the first one is no pose", b, wrong, right, 1000)
			checkNotSmoothed(t, "the second one is no pose", b, right, wrong, 1000)
			checkNotSmoothed(t, "both are no pose", b, wrong, wrong, 1000)
			for _, poses := range [][][]int{{wrong}, {wrong, right}, {right, wrong}, {wrong, wrong}} {
				if impl.IsGesture(b, poses, 4000) {
					t.Errorf("IsGesture(%v, %v, 4000) is true", b, poses)
				}
			}
		}
	}
}

// allPairs are lists for all functions of two poses, right and wrong ones, also
// with the same list as both.
func allPairs() []twoPoses {
	pairs := append(comparedPoses(), strangePoses()...)
	for _, b := range validBodies() {
		poses := validPoses(b)
		pairs = append(pairs, twoPoses{"poses", poses[3], poses[4]}, twoPoses{"equal poses", poses[3], slices.Clone(poses[3])})
	}
	return pairs
}

// bodyFor is a body of which flat lists of this length are poses.
func bodyFor(list []int) impl.Body {
	joints := min(max(len(list), 1), 13)
	return withLengths(chainOf(joints), slices.Repeat([]int{100}, joints-1)...)
}

func TestGestureArgumentsAreLeftUnchanged(t *testing.T) {
	for _, c := range allPairs() {
		p, allOfP := roomyList(c.p)
		q, allOfQ := roomyList(c.q)
		poses := [][]int{p, q, p, nil}
		b := bodyFor(p)
		for _, most := range []int{-1, 0, 9, 10, 300, 4000, 4001} {
			impl.IsGesture(b, poses[:3], most)
			impl.Smoothed(b, p, q, most)
			impl.Smoothed(b, p, p, most)
		}
		impl.StepSize(p, q)
		impl.MiddlePose(p, q)
		impl.HighestPose(p, q)
		impl.LowerPose(p, q)
		_, wantP := roomyList(c.p)
		_, wantQ := roomyList(c.q)
		if !slices.Equal(allOfP, wantP) || !slices.Equal(allOfQ, wantQ) {
			t.Errorf("%s: the arguments %v and %v are changed to %v and %v", c.name, wantP, wantQ, allOfP, allOfQ)
		}
		if !equalPoses(poses, [][]int{c.p, c.q, c.p, nil}) {
			t.Errorf("%s: the list of poses is changed to %v", c.name, poses)
		}
	}
	p, q := []int{0, 0, 0, 0, 0, 0, 0}, []int{3, 3, 3, 3, 3, 3, 3}
	checkBodiesUnchanged(t, func(b impl.Body) {
		impl.IsGesture(b, [][]int{p, q}, 10)
		impl.Smoothed(b, p[:min(max(b.Joints, 0), 7)], q[:min(max(b.Joints, 0), 7)], 10)
	})
}

// overwritePoses changes all that belongs to a list of poses.
func overwritePoses(poses [][]int) {
	for i := range poses {
		pose := poses[i][:cap(poses[i])]
		for j := range pose {
			pose[j] = 90
		}
	}
}

func TestPosesAreNewMemory(t *testing.T) {
	for _, c := range allPairs() {
		p, allOfP := roomyList(c.p)
		q, allOfQ := roomyList(c.q)
		b := bodyFor(p)
		overwritePoses([][]int{
			impl.MiddlePose(p, q), impl.HighestPose(p, q), impl.LowerPose(p, q),
			impl.MiddlePose(p, p), impl.HighestPose(p, p), impl.LowerPose(p, p),
		})
		overwritePoses(impl.Smoothed(b, p, q, 300))
		overwritePoses(impl.Smoothed(b, p, q, 4000))
		overwritePoses(impl.Smoothed(b, p, p, 10))
		_, wantP := roomyList(c.p)
		_, wantQ := roomyList(c.q)
		if !slices.Equal(allOfP, wantP) || !slices.Equal(allOfQ, wantQ) {
			t.Errorf("%s: a change of a result changes the arguments %v and %v to %v and %v", c.name, wantP, wantQ, allOfP, allOfQ)
		}
	}
}

// TestSmoothedPosesShareNoMemory changes one pose after the other, also behind
// its end, and looks at all others.
func TestSmoothedPosesShareNoMemory(t *testing.T) {
	b, p, q := impl.SampleBody(), make([]int, 7), slices.Repeat([]int{95}, 7)
	want := smoothedAtOnce(p, q, 10)
	for i := range want {
		got := impl.Smoothed(b, p, q, 10)
		if !equalPoses(got, want) {
			t.Fatalf("Smoothed is %v, want %v", got, want)
		}
		overwritePoses(got[i : i+1])
		for k := range got {
			if k != i && !slices.Equal(got[k], want[k]) {
				t.Errorf("a change of pose %d changes pose %d to %v", i, k, got[k])
			}
		}
	}
}

// TestSmoothedAtTheSameTime has several callers, each of which changes its
// arguments as soon as it has a result.
func TestSmoothedAtTheSameTime(t *testing.T) {
	before := runtime.NumGoroutine()
	var callers sync.WaitGroup
	for i := range 8 {
		callers.Go(func() {
			for k := range 50 {
				p, q := []int{-i, 0, i}, []int{100 * i, 100 * i, 100*i - k%3}
				b := withLengths(bodyOf(3, 0, 1, 1, 2), 20, 20)
				want := smoothedAtOnce(p, q, 10+k)
				got := impl.Smoothed(b, p, q, 10+k)
				impl.Smoothed(b, p, q, 9)
				clear(p)
				clear(q)
				clear(b.Limbs)
				if !equalPoses(got, want) {
					t.Errorf("Smoothed by %d is %v, want %v", 10+k, got, want)
				}
			}
		})
	}
	callers.Wait()
	// Whoever has sent the last pose may need a moment to end.
	for range 1000 {
		if runtime.NumGoroutine() <= before {
			return
		}
		time.Sleep(time.Millisecond)
	}
	t.Errorf("%d goroutines are left, there were %d", runtime.NumGoroutine(), before)
}
