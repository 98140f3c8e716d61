package tests

import (
	"math"
	"slices"
	"testing"

	"loop.example/g03306/impl"
)

// controlOf makes a control with cords of three numbers each: the arm, the
// joint and the Length.
func controlOf(height int, arms []int, cords ...int) impl.Control {
	c := impl.Control{Height: height, Arms: arms}
	for i := 0; i < len(cords); i += 3 {
		c.Cords = append(c.Cords, impl.Cord{Arm: cords[i], Joint: cords[i+1], Length: cords[i+2]})
	}
	return c
}

// withCords has these many cords of the arm 0, at the joints from 0 on.
func withCords(c impl.Control, cords int) impl.Control {
	c.Cords = nil
	for j := range cords {
		c.Cords = append(c.Cords, impl.Cord{Arm: 0, Joint: j, Length: 10 * j})
	}
	return c
}

func equalControls(c impl.Control, d impl.Control) bool {
	return c.Height == d.Height && slices.Equal(c.Arms, d.Arms) && slices.Equal(c.Cords, d.Cords)
}

func copyOfControl(c impl.Control) impl.Control {
	return impl.Control{Height: c.Height, Arms: slices.Clone(c.Arms), Cords: slices.Clone(c.Cords)}
}

// validControls are controls for 12 joints: with one to eight arms, with no cord
// to 12 cords, and at the ends of all ranges.
func validControls() []impl.Control {
	controls := []impl.Control{
		controlOf(50, []int{5, 0, -5}, 0, 2, 20, 2, 0, 60),
		controlOf(0, []int{0}),
		controlOf(500, []int{50}, 0, 0, 0),
		controlOf(0, []int{-50}, 0, 11, 500),
		controlOf(50, []int{-50, 50}, 1, 3, 0, 0, 4, 0),
		controlOf(100, []int{0, 0, 0, 0}, 3, 3, 1, 2, 2, 2, 1, 1, 3, 0, 0, 4),
		controlOf(500, []int{50, 50, 50, 50, 50, 50, 50, 50}, 7, 0, 500),
		controlOf(300, slices.Repeat([]int{-50}, 8), 0, 11, 250, 7, 0, 249, 3, 5, 251),
		withCords(controlOf(60, []int{1, 2}), 12),
	}
	// A short rule with a long period stands for controls of all kinds.
	n := 23
	next := func(below int) int {
		n = (n*1103 + 12345) % 65521
		return n / 3 % below
	}
	for i := range 64 {
		c := impl.Control{Height: []int{0, next(60), next(501), 500}[next(4)]}
		for range i%8 + 1 {
			c.Arms = append(c.Arms, []int{-50, next(101) - 50, next(21) - 10, 50}[next(4)])
		}
		for j := range 12 {
			// 7 has no divisor in common with 12, so that no joint comes twice.
			if next(3) > 0 {
				c.Cords = append(c.Cords, impl.Cord{Arm: next(len(c.Arms)), Joint: (7*j + i) % 12, Length: []int{0, next(100), next(501), 500}[next(4)]})
			}
		}
		controls = append(controls, c)
	}
	return controls
}

type namedControl struct {
	name    string
	control impl.Control
}

// invalidControls are not valid for 12 joints.
func invalidControls() []namedControl {
	arms := []int{5, 0, -5}
	return []namedControl{
		{"nothing", impl.Control{}},
		{"no arms", controlOf(50, nil)},
		{"no arms, an empty list", controlOf(50, []int{})},
		{"no arms and a cord", controlOf(50, nil, 0, 0, 0)},
		{"nine arms", controlOf(50, make([]int, 9))},
		{"nine arms and a cord at the last one", controlOf(50, make([]int, 9), 8, 0, 0)},
		{"many arms", controlOf(50, make([]int, 10000))},
		{"the only arm at -51", controlOf(50, []int{-51})},
		{"the only arm at 51", controlOf(50, []int{51})},
		{"the first arm at -51", controlOf(50, []int{-51, 0, 0})},
		{"the middle arm at 51", controlOf(50, []int{0, 51, 0})},
		{"the last arm at 51", controlOf(50, []int{0, 0, 51})},
		{"the eighth arm at -51", controlOf(50, []int{0, 0, 0, 0, 0, 0, 0, -51})},
		{"an arm at the least int", controlOf(50, []int{0, math.MinInt})},
		{"an arm at the greatest int", controlOf(50, []int{0, math.MaxInt})},
		{"a Height of -1", controlOf(-1, arms)},
		{"a Height of 501", controlOf(501, arms)},
		{"the least Height", controlOf(math.MinInt, arms)},
		{"the greatest Height", controlOf(math.MaxInt, arms)},
		{"thirteen cords", withCords(controlOf(50, arms), 13)},
		{"thirteen cords, two at one joint", controlOf(50, arms, append(cordNumbers(12), 0, 0, 0)...)},
		{"many cords", impl.Control{Height: 50, Arms: arms, Cords: make([]impl.Cord, 10000)}},
		{"a cord at arm -1", controlOf(50, arms, -1, 0, 5)},
		{"a cord at arm 3 of 3", controlOf(50, arms, 3, 0, 5)},
		{"a cord at arm 8 of 8", controlOf(50, make([]int, 8), 8, 0, 5)},
		{"a cord at the greatest arm", controlOf(50, arms, math.MaxInt, 0, 5)},
		{"a cord at joint -1", controlOf(50, arms, 0, -1, 5)},
		{"a cord at joint 12", controlOf(50, arms, 0, 12, 5)},
		{"a cord at the least joint", controlOf(50, arms, 0, math.MinInt, 5)},
		{"a cord at the greatest joint", controlOf(50, arms, 0, math.MaxInt, 5)},
		{"a Length of -1", controlOf(50, arms, 0, 0, -1)},
		{"a Length of 501", controlOf(50, arms, 0, 0, 501)},
		{"the least Length", controlOf(50, arms, 0, 0, math.MinInt)},
		{"the greatest Length", controlOf(50, arms, 0, 0, math.MaxInt)},
		{"the first cord is wrong", controlOf(50, arms, 3, 0, 5, 0, 1, 5)},
		{"the last cord is wrong", controlOf(50, arms, 0, 0, 5, 0, 1, 5, 0, 2, 501)},
		{"the same cord twice", controlOf(50, arms, 0, 2, 5, 0, 2, 5)},
		{"two cords at one joint", controlOf(50, arms, 0, 2, 5, 1, 2, 6)},
		{"two cords at one joint, others between", controlOf(50, arms, 0, 11, 5, 1, 2, 6, 1, 0, 6, 2, 11, 7)},
		{"two cords at joint 0", controlOf(50, arms, 0, 0, 5, 1, 1, 6, 2, 0, 7)},
	}
}

// cordNumbers are the numbers of as many cords of the arm 0.
func cordNumbers(cords int) []int {
	var numbers []int
	for j := range cords {
		numbers = append(numbers, 0, j, 7)
	}
	return numbers
}

// allControls are the valid and the invalid ones.
func allControls() []impl.Control {
	controls := validControls()
	for _, c := range invalidControls() {
		controls = append(controls, c.control)
	}
	return controls
}

func TestControlOk(t *testing.T) {
	for _, c := range validControls() {
		if !impl.ControlOk(c, 12) || !impl.ControlOk(c, 13) || !impl.ControlOk(c, math.MaxInt) {
			t.Errorf("ControlOk(%v, 12 and more) is false", c)
		}
	}
	for _, c := range invalidControls() {
		for joints := -1; joints <= 12; joints++ {
			if impl.ControlOk(c.control, joints) {
				t.Errorf("%s: ControlOk(%v, %d) is true", c.name, c.control, joints)
			}
		}
	}
}

func TestControlOkForJoints(t *testing.T) {
	arms := []int{5, 0, -5}
	for _, c := range []struct {
		name    string
		control impl.Control
		// the least number of joints that is enough
		least int
	}{
		{"no cords", controlOf(50, arms), math.MinInt},
		{"no cords, an empty list", impl.Control{Arms: arms, Cords: []impl.Cord{}}, math.MinInt},
		{"joint 0", controlOf(50, arms, 0, 0, 5), 1},
		{"joint 1", controlOf(50, arms, 0, 1, 5), 2},
		{"joints out of order", controlOf(50, arms, 0, 5, 5, 0, 2, 5, 0, 9, 5, 0, 0, 5), 10},
		{"joint 11", controlOf(50, arms, 2, 11, 5), 12},
		{"joint 12", controlOf(50, arms, 2, 12, 5), 13},
		{"twelve cords", withCords(controlOf(50, arms), 12), 12},
		{"joint 1000", controlOf(50, arms, 2, 1000, 5, 2, 999, 5), 1001},
		{"the last joint but one of all", controlOf(50, arms, 2, math.MaxInt-1, 5), math.MaxInt},
	} {
		for _, joints := range []int{math.MinInt, -1, 0, 1, 2, 9, 10, 11, 12, 13, 999, 1000, 1001, math.MaxInt - 1, math.MaxInt} {
			want := joints >= c.least
			if got := impl.ControlOk(c.control, joints); got != want {
				t.Errorf("%s: ControlOk(%v, %d) is %v", c.name, c.control, joints, got)
			}
		}
	}
}

// numbersAround are the numbers around a range, and some far from it.
func numbersAround(low int, high int) []int {
	numbers := []int{math.MinInt, math.MinInt + 1, -10000, 10000, math.MaxInt - 1, math.MaxInt}
	for n := low - 5; n <= high+5; n++ {
		numbers = append(numbers, n)
	}
	return numbers
}

func TestControlOkRanges(t *testing.T) {
	c := controlOf(50, []int{5, 0, -5}, 0, 2, 20, 2, 0, 60)
	check := func(c impl.Control, want bool) {
		t.Helper()
		if got := impl.ControlOk(c, 3); got != want {
			t.Errorf("ControlOk(%v, 3) is %v", c, got)
		}
	}
	for _, n := range numbersAround(0, 500) {
		d := copyOfControl(c)
		d.Height = n
		check(d, n >= 0 && n <= 500)
		for i := range c.Cords {
			d := copyOfControl(c)
			d.Cords[i].Length = n
			check(d, n >= 0 && n <= 500)
		}
	}
	for _, n := range numbersAround(-50, 50) {
		for i := range c.Arms {
			d := copyOfControl(c)
			d.Arms[i] = n
			check(d, n >= -50 && n <= 50)
		}
		for i := range c.Cords {
			d := copyOfControl(c)
			d.Cords[i].Arm = n
			check(d, n >= 0 && n <= 2)
			d = copyOfControl(c)
			d.Cords[i].Joint = n
			check(d, n >= 0 && n <= 2 && n != c.Cords[1-i].Joint)
		}
	}
}

func TestControlOkCounts(t *testing.T) {
	for n := range 20 {
		if got, want := impl.ControlOk(controlOf(50, make([]int, n)), 5), n >= 1 && n <= 8; got != want {
			t.Errorf("ControlOk with %d arms is %v", n, got)
		}
		if got, want := impl.ControlOk(withCords(controlOf(50, []int{0}), n), 20), n <= 12; got != want {
			t.Errorf("ControlOk with %d cords is %v", n, got)
		}
	}
}

// TestControlOkTwoCords has two cords at all pairs of joints.
func TestControlOkTwoCords(t *testing.T) {
	for i := range 12 {
		for j := range 12 {
			c := controlOf(50, []int{0, 0}, 0, i, 1, 1, j, 2)
			if got := impl.ControlOk(c, 12); got != (i != j) {
				t.Errorf("ControlOk with cords at the joints %d and %d is %v", i, j, got)
			}
		}
	}
}

func TestPullsOf(t *testing.T) {
	for _, c := range []struct {
		name    string
		control impl.Control
		joints  int
		want    []int
	}{
		{"three arms", controlOf(50, []int{5, 0, -5}, 0, 2, 20, 2, 0, 60), 3, []int{0, -1, 35}},
		{"one arm", controlOf(50, []int{5}, 0, 0, 20), 1, []int{35}},
		{"one arm, two cords", controlOf(50, []int{-5}, 0, 1, 20, 0, 0, 21), 2, []int{24, 25}},
		{"no cords", controlOf(50, []int{5}), 1, []int{-1}},
		{"no cords for 12 joints", controlOf(50, []int{5}), 12, slices.Repeat([]int{-1}, 12)},
		{"more joints than cords", controlOf(50, []int{5, 0, -5}, 0, 2, 20, 2, 0, 60), 5, []int{0, -1, 35, -1, -1}},
		{"a cord that just reaches", controlOf(50, []int{-10}, 0, 0, 40), 1, []int{0}},
		{"a cord that is 1 shorter", controlOf(50, []int{-10}, 0, 0, 39), 1, []int{1}},
		{"a cord that is 1 longer", controlOf(50, []int{-10}, 0, 0, 41), 1, []int{0}},
		{"a cord that is 2 longer", controlOf(50, []int{-10}, 0, 0, 42), 1, []int{0}},
		{"the longest cord", controlOf(0, []int{-50}, 0, 0, 500), 1, []int{0}},
		{"an arm below the floor", controlOf(0, []int{-1}, 0, 0, 0), 1, []int{0}},
		{"an arm at the floor", controlOf(0, []int{0}, 0, 0, 0), 1, []int{0}},
		{"an arm over the floor", controlOf(0, []int{50}, 0, 0, 49), 1, []int{1}},
		{"the highest arm", controlOf(500, []int{50}, 0, 0, 0), 1, []int{550}},
		{"the highest arm and the longest cord", controlOf(500, []int{50}, 0, 0, 500), 1, []int{50}},
		{"the highest control and an arm at -50", controlOf(500, []int{-50}, 0, 0, 0), 1, []int{450}},
		{"eight arms", controlOf(100, []int{1, 2, 3, 4, 5, 6, 7, 8}, 0, 7, 0, 1, 6, 0, 2, 5, 0, 3, 4, 0, 4, 3, 0, 5, 2, 0, 6, 1, 0, 7, 0, 0), 8, []int{108, 107, 106, 105, 104, 103, 102, 101}},
		{"twelve cords", withCords(controlOf(60, []int{1, 2}), 12), 12, []int{61, 51, 41, 31, 21, 11, 1, 0, 0, 0, 0, 0}},
		{"no joints", controlOf(50, []int{5}), 0, nil},
		{"13 joints", controlOf(50, []int{5}), 13, nil},
		{"13 joints and a cord", controlOf(50, []int{5}, 0, 0, 20), 13, nil},
		{"13 joints and a cord at the last one", controlOf(50, []int{5}, 0, 12, 20), 13, nil},
		{"-1 joints", controlOf(50, []int{5}), -1, nil},
		{"the least number of joints", controlOf(50, []int{5}), math.MinInt, nil},
		{"the greatest number of joints", controlOf(50, []int{5}), math.MaxInt, nil},
		{"a joint too few", controlOf(50, []int{5, 0, -5}, 0, 2, 20, 2, 0, 60), 2, nil},
	} {
		if got := impl.PullsOf(c.control, c.joints); !slices.Equal(got, c.want) {
			t.Errorf("%s: PullsOf(%v, %d) is %v, want %v", c.name, c.control, c.joints, got, c.want)
		}
	}
	for _, c := range invalidControls() {
		for joints := -1; joints <= 13; joints++ {
			// joint 12 is there with 13 joints, which are too many
			if got := impl.PullsOf(c.control, joints); len(got) != 0 {
				t.Errorf("%s: PullsOf(%v, %d) is %v, want none", c.name, c.control, joints, got)
			}
		}
	}
}

// freeEnds are the heights of the ends of all cords, also below the floor.
func freeEnds(c impl.Control) map[int]int {
	ends := map[int]int{}
	for _, cord := range c.Cords {
		ends[cord.Joint] = c.Height + c.Arms[cord.Arm] - cord.Length
	}
	return ends
}

func TestPullsOfByDefinition(t *testing.T) {
	for _, c := range validControls() {
		ends := freeEnds(c)
		least := 1
		for j := range ends {
			least = max(least, j+1)
		}
		for joints := -1; joints <= 14; joints++ {
			var want []int
			if joints >= least && joints <= 12 {
				for j := range joints {
					end, held := ends[j]
					switch {
					case !held:
						want = append(want, -1)
					case end < 0:
						want = append(want, 0)
					default:
						want = append(want, end)
					}
				}
			}
			if got := impl.PullsOf(c, joints); !slices.Equal(got, want) {
				t.Errorf("PullsOf(%v, %d) is %v, want %v", c, joints, got, want)
			}
		}
	}
}

func TestTiltArm(t *testing.T) {
	for _, c := range []struct {
		name string
		arms []int
		arm  int
		by   int
		want []int
		ok   bool
	}{
		{"the first of three", []int{5, 0, -5}, 0, 4, []int{9, 0, -9}, true},
		{"the last of three", []int{5, 0, -5}, 2, 4, []int{1, 0, -1}, true},
		{"the middle of three", []int{5, 0, -5}, 1, 4, []int{5, 0, -5}, true},
		{"the middle of three, which is at 50", []int{5, 50, -5}, 1, 50, []int{5, 50, -5}, true},
		{"the middle of three, which is at -50", []int{5, -50, -5}, 1, 50, []int{5, -50, -5}, true},
		{"the middle of three, by more than 50", []int{5, 0, -5}, 1, 51, nil, false},
		{"the middle of three, by less than -50", []int{5, 0, -5}, 1, -51, nil, false},
		{"the middle of three, beside one at 51", []int{51, 0, -5}, 1, 1, nil, false},
		{"the middle of three, which is at 51", []int{5, 51, -5}, 1, -1, nil, false},
		{"one arm", []int{7}, 0, 3, []int{7}, true},
		{"one arm at 50, by 50", []int{50}, 0, 50, []int{50}, true},
		{"one arm at -50, by -50", []int{-50}, 0, -50, []int{-50}, true},
		{"one arm, by 51", []int{0}, 0, 51, nil, false},
		{"one arm at 51", []int{51}, 0, 0, nil, false},
		{"the first of two", []int{3, 4}, 0, 10, []int{13, -6}, true},
		{"the second of two", []int{3, 4}, 1, 10, []int{-7, 14}, true},
		{"the first of four", []int{1, 2, 3, 4}, 0, 5, []int{6, 2, 3, -1}, true},
		{"the second of four", []int{1, 2, 3, 4}, 1, 5, []int{1, 7, -2, 4}, true},
		{"the third of four", []int{1, 2, 3, 4}, 2, 5, []int{1, -3, 8, 4}, true},
		{"the last of four", []int{1, 2, 3, 4}, 3, 5, []int{-4, 2, 3, 9}, true},
		{"the second of five", []int{1, 2, 3, 4, 5}, 1, -2, []int{1, 0, 3, 6, 5}, true},
		{"the middle of seven", []int{1, 2, 3, 4, 5, 6, 7}, 3, 50, []int{1, 2, 3, 4, 5, 6, 7}, true},
		{"the first of eight", []int{0, 1, 2, 3, 4, 5, 6, 7}, 0, 43, []int{43, 1, 2, 3, 4, 5, 6, -36}, true},
		{"the fifth of eight", []int{0, 1, 2, 3, 4, 5, 6, 7}, 4, 1, []int{0, 1, 2, 2, 5, 5, 6, 7}, true},
		{"the last of eight", []int{0, 1, 2, 3, 4, 5, 6, 7}, 7, 43, []int{-43, 1, 2, 3, 4, 5, 6, 50}, true},
		{"by 0", []int{3, 4}, 0, 0, []int{3, 4}, true},
		{"by 50", []int{0, 0}, 0, 50, []int{50, -50}, true},
		{"by -50", []int{0, 0}, 0, -50, []int{-50, 50}, true},
		{"by 51", []int{0, 0}, 0, 51, nil, false},
		{"by 51 from below", []int{-50, 50}, 0, 51, nil, false},
		{"by -51", []int{0, 0}, 0, -51, nil, false},
		{"by -51 from above", []int{50, -50}, 0, -51, nil, false},
		{"by 500", []int{0, 0}, 0, 500, nil, false},
		{"by -500", []int{0, 0}, 0, -500, nil, false},
		{"just up to 50", []int{49, 0}, 0, 1, []int{50, -1}, true},
		{"just down to -50", []int{-49, 0}, 0, -1, []int{-50, 1}, true},
		{"the arm would be at 51", []int{50, 0}, 0, 1, nil, false},
		{"the arm would be at -51", []int{-50, 0}, 0, -1, nil, false},
		{"the opposite arm alone would be at -51", []int{0, -50}, 0, 1, nil, false},
		{"the opposite arm alone would be at 51", []int{0, 50}, 0, -1, nil, false},
		{"the opposite arm of the last one would be at -51", []int{-50, 0, 0}, 2, 1, nil, false},
		{"both would be out of range", []int{50, 0, -50}, 0, 1, nil, false},
		{"the arm is at 51 and would be at 50", []int{51, 0}, 0, -1, nil, false},
		{"the arm is at -51 and would be at 0", []int{-51, 0}, 0, 50, nil, false},
		{"the opposite arm is at 51 and would be at 50", []int{0, 51}, 0, 1, nil, false},
		{"another arm is at 51", []int{0, 51, 0, 0}, 0, 1, nil, false},
		{"another arm is at -51", []int{0, 0, -51, 0}, 3, 1, nil, false},
		{"no arms", nil, 0, 1, nil, false},
		{"no arms, an empty list", []int{}, 0, 0, nil, false},
		{"arm -1", []int{1, 2, 3}, -1, 1, nil, false},
		{"arm 3 of 3", []int{1, 2, 3}, 3, 1, nil, false},
		{"arm 8 of 8", make([]int, 8), 8, 1, nil, false},
		{"nine arms", make([]int, 9), 0, 1, nil, false},
		{"nine arms, the middle one", make([]int, 9), 4, 1, nil, false},
		{"nine arms, by 0", make([]int, 9), 8, 0, nil, false},
		{"many arms", make([]int, 10000), 5, 1, nil, false},
	} {
		before := controlOf(50, c.arms, 0, 2, 20, 0, 1, 60)
		want := copyOfControl(before)
		if c.ok {
			want.Arms = c.want
		}
		if got, ok := impl.TiltArm(before, c.arm, c.by); ok != c.ok || !equalControls(got, want) {
			t.Errorf("%s: TiltArm(%v, %d, %d) is %v, %v, want %v, %v", c.name, before, c.arm, c.by, got, ok, want, c.ok)
		}
	}
}

// tilted finds the arms after tilting, or none, by looking at each of them.
func tilted(arms []int, arm int, by int) []int {
	if arm < 0 || arm >= len(arms) || by < -50 || by > 50 || len(arms) > 8 {
		return nil
	}
	var after []int
	for i, raise := range arms {
		left, right := i, len(arms)-1-i
		next := raise
		if left != right && left == arm {
			next = raise + by
		} else if left != right && right == arm {
			next = raise - by
		}
		if min(raise, next) < -50 || max(raise, next) > 50 {
			return nil
		}
		after = append(after, next)
	}
	return after
}

func checkTilt(t *testing.T, c impl.Control, arm int, by int) {
	t.Helper()
	want := copyOfControl(c)
	arms := tilted(c.Arms, arm, by)
	if arms != nil {
		want.Arms = arms
	}
	if got, ok := impl.TiltArm(c, arm, by); ok != (arms != nil) || !equalControls(got, want) {
		t.Errorf("TiltArm(%v, %d, %d) is %v, %v, want %v, %v", c, arm, by, got, ok, want, arms != nil)
	}
}

func TestTiltArmByDefinition(t *testing.T) {
	raises := []int{-51, -50, -49, 0, 49, 50, 51}
	for count := range 4 {
		forAllLists(count, 0, len(raises)-1, func(list []int) {
			for i, n := range list {
				list[i] = raises[n]
			}
			for arm := -1; arm <= count; arm++ {
				for _, by := range []int{-51, -50, -1, 0, 1, 50, 51} {
					checkTilt(t, controlOf(7, list, 0, 0, 1), arm, by)
				}
			}
		})
	}
	for _, c := range validControls() {
		for _, arm := range append(numbersAround(0, 8), 12) {
			for _, by := range []int{math.MinInt, -500, -51, -50, -17, -1, 0, 1, 17, 50, 51, 500, math.MaxInt} {
				checkTilt(t, c, arm, by)
			}
		}
	}
	for _, c := range invalidControls() {
		for _, arm := range []int{math.MinInt, -1, 0, 1, 2, 3, 7, 8, 9, math.MaxInt} {
			for _, by := range []int{-50, -1, 0, 1, 50} {
				checkTilt(t, c.control, arm, by)
			}
		}
	}
}

func TestTiltArmBy(t *testing.T) {
	for _, by := range numbersAround(-50, 50) {
		for arm := range 4 {
			checkTilt(t, controlOf(0, []int{0, 0, 0, 0}), arm, by)
			checkTilt(t, controlOf(0, []int{-50, 50, -50, 50}), arm, by)
		}
		checkTilt(t, controlOf(0, []int{50}), 0, by)
		checkTilt(t, controlOf(0, []int{-50}), 0, by)
	}
}

// TestTiltArmDoesNotLookFurther tilts controls whose Height and cords are not
// valid, which tilting does not ask for.
func TestTiltArmDoesNotLookFurther(t *testing.T) {
	for _, c := range []impl.Control{
		controlOf(-1, []int{1, 2}),
		controlOf(501, []int{1, 2}),
		controlOf(math.MaxInt, []int{1, 2}),
		controlOf(math.MinInt, []int{1, 2}),
		controlOf(50, []int{1, 2}, 2, 0, 0),
		controlOf(50, []int{1, 2}, 0, -1, 0, 0, 12, 501),
		controlOf(50, []int{1, 2}, 0, 3, 0, 0, 3, -1),
		withCords(controlOf(50, []int{1, 2}), 13),
	} {
		want := copyOfControl(c)
		want.Arms = []int{-2, 5}
		if got, ok := impl.TiltArm(c, 1, 3); !ok || !equalControls(got, want) {
			t.Errorf("TiltArm(%v, 1, 3) is %v, %v, want %v, true", c, got, ok, want)
		}
	}
}

func checkLift(t *testing.T, c impl.Control, by int, ok bool) {
	t.Helper()
	want := copyOfControl(c)
	if ok {
		want.Height += by
	}
	if got, lifted := impl.LiftControl(c, by); lifted != ok || !equalControls(got, want) {
		t.Errorf("LiftControl(%v, %d) is %v, %v, want %v, %v", c, by, got, lifted, want, ok)
	}
}

func TestLiftControl(t *testing.T) {
	for _, c := range []struct {
		height int
		by     int
		ok     bool
	}{
		{50, 30, true}, {50, -50, true}, {50, -51, false}, {50, 450, true}, {50, 451, false},
		{0, 0, true}, {0, 500, true}, {0, 501, false}, {0, -1, false}, {0, -500, false},
		{500, 0, true}, {500, -500, true}, {500, -501, false}, {500, 1, false}, {500, 500, false},
		// The Height may be below the range that the new one is to be in.
		{-1, 0, false}, {-1, 1, true}, {-1, 500, true}, {-500, 500, true}, {-500, 499, false}, {-499, 500, true},
		{-501, 500, false}, {-501, 501, false}, {-501, 502, false},
		{501, 0, false}, {501, -1, false}, {501, -500, false}, {501, -501, false},
		{0, math.MinInt, false}, {0, math.MaxInt, false},
		{math.MinInt, math.MinInt, false}, {math.MinInt, math.MaxInt, false}, {math.MaxInt, math.MaxInt, false},
		{math.MaxInt, math.MinInt, false}, {math.MinInt, -500, false}, {math.MaxInt, 500, false}, {math.MinInt, 500, false},
		{math.MaxInt, -math.MaxInt, false}, {-math.MaxInt, math.MaxInt, false},
	} {
		checkLift(t, controlOf(c.height, []int{5, 0, -5}, 0, 2, 20, 2, 0, 60), c.by, c.ok)
	}
}

func TestLiftControlByDefinition(t *testing.T) {
	var numbers []int
	for _, n := range numbersAround(-505, 505) {
		if n%100 == 0 || n%250 == 0 || max(n, -n) < 3 || max(n, -n) > 497 {
			numbers = append(numbers, n)
		}
	}
	for _, height := range numbers {
		for _, by := range numbers {
			near := height >= -500 && height <= 500 && by >= -500 && by <= 500
			ok := near && height+by >= 0 && height+by <= 500
			checkLift(t, controlOf(height, []int{1, 2}, 1, 3, 4), by, ok)
		}
	}
}

// TestLiftControlDoesNotLookFurther lifts controls whose arms and cords are not
// valid, which lifting does not ask for.
func TestLiftControlDoesNotLookFurther(t *testing.T) {
	for _, c := range []impl.Control{
		controlOf(50, nil),
		controlOf(50, make([]int, 9)),
		controlOf(50, []int{51, -51}),
		controlOf(50, []int{1}, 1, 0, 0),
		controlOf(50, []int{1}, 0, -1, 0, 0, 12, 501),
		controlOf(50, []int{1}, 0, 3, 0, 0, 3, -1),
		withCords(controlOf(50, nil), 13),
	} {
		checkLift(t, c, 30, true)
		checkLift(t, c, -51, false)
	}
}

func TestJointsHeld(t *testing.T) {
	arms := []int{5, 0, -5}
	for _, c := range []struct {
		name    string
		control impl.Control
		want    []int
	}{
		{"two cords", controlOf(50, arms, 0, 2, 20, 2, 0, 60), []int{0, 2}},
		{"nothing", impl.Control{}, nil},
		{"no cords", controlOf(50, arms), nil},
		{"one cord", controlOf(50, arms, 0, 7, 0), []int{7}},
		{"joints out of order", controlOf(50, arms, 0, 9, 0, 0, 3, 0, 0, 11, 0, 0, 0, 0, 0, 10, 0), []int{0, 3, 9, 10, 11}},
		{"the same joint twice", controlOf(50, arms, 0, 4, 0, 1, 4, 7), []int{4}},
		{"the same joint twice, others between", controlOf(50, arms, 0, 4, 0, 1, 2, 7, 2, 4, 5, 0, 2, 0), []int{2, 4}},
		{"joint 0", controlOf(50, arms, 0, 0, 0), []int{0}},
		{"joint 11", controlOf(50, arms, 0, 11, 0), []int{11}},
		{"joint -1", controlOf(50, arms, 0, -1, 0), nil},
		{"joint 12", controlOf(50, arms, 0, 12, 0), nil},
		{"joints -1, 0, 11 and 12", controlOf(50, arms, 0, 12, 0, 0, 11, 0, 0, 0, 0, 0, -1, 0), []int{0, 11}},
		{"the least and the greatest joint", controlOf(50, arms, 0, math.MinInt, 0, 0, 5, 0, 0, math.MaxInt, 0), []int{5}},
		{"twelve cords", withCords(controlOf(50, arms), 12), []int{0, 1, 2, 3, 4, 5, 6, 7, 8, 9, 10, 11}},
		{"thirteen cords", withCords(controlOf(50, arms), 13), []int{0, 1, 2, 3, 4, 5, 6, 7, 8, 9, 10, 11}},
		{"many cords", impl.Control{Cords: make([]impl.Cord, 10000)}, []int{0}},
		{"a cord at no arm", controlOf(50, nil, 3, 6, 0), []int{6}},
		{"a cord of no Length", controlOf(-1, []int{51}, 0, 6, -1, 0, 5, 501), []int{5, 6}},
	} {
		if got := impl.JointsHeld(c.control); !slices.Equal(got, c.want) {
			t.Errorf("%s: JointsHeld(%v) is %v, want %v", c.name, c.control, got, c.want)
		}
	}
	for _, c := range validControls() {
		var want []int
		for j, pull := range impl.PullsOf(c, 12) {
			if pull != -1 {
				want = append(want, j)
			}
		}
		if got := impl.JointsHeld(c); !slices.Equal(got, want) {
			t.Errorf("JointsHeld(%v) is %v, want %v", c, got, want)
		}
	}
}

// TestLiftingLiftsAllThatIsHeld checks the first half of promise 5: what is held
// goes up and down with the control, as far as it does not lie on the floor.
func TestLiftingLiftsAllThatIsHeld(t *testing.T) {
	for _, c := range validControls() {
		ends := freeEnds(c)
		before := impl.PullsOf(c, 12)
		for by := -c.Height; by <= 500-c.Height; by += 7 {
			lifted, ok := impl.LiftControl(c, by)
			after := impl.PullsOf(lifted, 12)
			if !ok || len(after) != 12 {
				t.Fatalf("LiftControl(%v, %d) is %v, %v with the pulls %v", c, by, lifted, ok, after)
			}
			for j := range before {
				end, held := ends[j]
				switch {
				case !held && after[j] == -1:
				case held && after[j] == max(end+by, 0):
				default:
					t.Errorf("LiftControl(%v, %d) takes joint %d from %d to %d", c, by, j, before[j], after[j])
				}
			}
			back, ok := impl.LiftControl(lifted, -by)
			if !ok || !equalControls(back, c) {
				t.Errorf("LiftControl(%v, %d) is %v, %v, want %v, true", lifted, -by, back, ok, c)
			}
		}
	}
}

// TestTiltingKeepsTheSum checks the second half of promise 5.
func TestTiltingKeepsTheSum(t *testing.T) {
	tilts := 0
	for _, c := range allControls() {
		for arm := -1; arm <= 8; arm++ {
			for by := -52; by <= 52; by++ {
				got, ok := impl.TiltArm(c, arm, by)
				if sumOf(got.Arms) != sumOf(c.Arms) || len(got.Arms) != len(c.Arms) {
					t.Errorf("TiltArm(%v, %d, %d) is %v, %v with another sum", c, arm, by, got, ok)
				}
				if ok && impl.ControlOk(c, 12) && !impl.ControlOk(got, 12) {
					t.Errorf("TiltArm(%v, %d, %d) is %v, which is not valid", c, arm, by, got)
				}
				if !ok {
					continue
				}
				tilts++
				if back, ok := impl.TiltArm(got, arm, -by); !ok || !equalControls(back, c) {
					t.Errorf("TiltArm(%v, %d, %d) is %v, %v, want %v, true", got, arm, -by, back, ok, c)
				}
			}
		}
	}
	if tilts == 0 {
		t.Error("no arm can be tilted")
	}
}

func sumOf(numbers []int) int {
	sum := 0
	for _, n := range numbers {
		sum += n
	}
	return sum
}

// roomyControl is a control whose lists have spare capacity, and all of them.
func roomyControl(c impl.Control) (impl.Control, []int, []impl.Cord) {
	arms, allArms := roomyList(c.Arms)
	allCords := append(slices.Clone(c.Cords), impl.Cord{Arm: 73, Joint: 74, Length: 75}, impl.Cord{Arm: 76, Joint: 77, Length: 78})
	return impl.Control{Height: c.Height, Arms: arms, Cords: allCords[:len(c.Cords)]}, allArms, allCords
}

func checkControlUnchanged(t *testing.T, c impl.Control, arms []int, cords []impl.Cord, by string) {
	t.Helper()
	_, wantArms, wantCords := roomyControl(c)
	if !slices.Equal(arms, wantArms) || !slices.Equal(cords, wantCords) {
		t.Errorf("%v: %s changes the argument to %v and %v", c, by, arms, cords)
	}
}

func TestControlArgumentsAreLeftUnchanged(t *testing.T) {
	for _, c := range allControls() {
		roomy, arms, cords := roomyControl(c)
		for _, joints := range []int{-1, 0, 1, 3, 12, 13} {
			impl.ControlOk(roomy, joints)
			impl.PullsOf(roomy, joints)
		}
		for arm := -1; arm <= 8; arm++ {
			for _, by := range []int{-51, -50, -1, 0, 1, 50, 51} {
				impl.TiltArm(roomy, arm, by)
			}
		}
		for _, by := range []int{-501, -500, -1, 0, 1, 500, 501} {
			impl.LiftControl(roomy, by)
		}
		impl.JointsHeld(roomy)
		checkControlUnchanged(t, c, arms, cords, "a call")
	}
}

// overwriteControl changes all that belongs to a control.
func overwriteControl(c impl.Control) {
	arms, cords := c.Arms[:cap(c.Arms)], c.Cords[:cap(c.Cords)]
	for i := range arms {
		arms[i] = 90
	}
	for i := range cords {
		cords[i] = impl.Cord{Arm: 91, Joint: 92, Length: 93}
	}
}

func TestControlsAreNewMemory(t *testing.T) {
	for _, c := range allControls() {
		roomy, arms, cords := roomyControl(c)
		for arm := -1; arm <= 3; arm++ {
			for _, by := range []int{-51, 0, 1} {
				got, _ := impl.TiltArm(roomy, arm, by)
				overwriteControl(got)
			}
		}
		checkControlUnchanged(t, c, arms, cords, "a change of a tilted control")
		for _, by := range []int{-501, 0, 1} {
			got, _ := impl.LiftControl(roomy, by)
			overwriteControl(got)
		}
		checkControlUnchanged(t, c, arms, cords, "a change of a lifted control")
	}
}

func TestControlListsAreNewMemory(t *testing.T) {
	for _, c := range allControls() {
		pulls, held := impl.PullsOf(c, 12), impl.JointsHeld(c)
		wantPulls, wantHeld := slices.Clone(pulls), slices.Clone(held)
		clear(pulls[:cap(pulls)])
		clear(held[:cap(held)])
		if got := impl.PullsOf(c, 12); !slices.Equal(got, wantPulls) {
			t.Errorf("after a change of another result, PullsOf(%v, 12) is %v, want %v", c, got, wantPulls)
		}
		if got := impl.JointsHeld(c); !slices.Equal(got, wantHeld) {
			t.Errorf("after a change of another result, JointsHeld(%v) is %v, want %v", c, got, wantHeld)
		}
	}
}
