package tests

import (
	"math"
	"slices"
	"testing"

	"loop.example/g03306/impl"
)

// hangByLimbs finds the lowest pose without distances: it raises the lower end
// of each limb that is too short, until none is left.
func hangByLimbs(b impl.Body, pulls []int) []int {
	pose := slices.Repeat([]int{-1000000}, b.Joints)
	for j, pull := range pulls {
		if pull != -1 {
			pose[j] = pull
		}
	}
	for changed := true; changed; {
		changed = false
		for _, limb := range b.Limbs {
			for _, ends := range [][2]int{{limb.A, limb.B}, {limb.B, limb.A}} {
				if least := pose[ends[0]] - limb.Length; pose[ends[1]] < least {
					pose[ends[1]] = least
					changed = true
				}
			}
		}
	}
	return pose
}

func slackIn(pose []int, pulls []int) []int {
	var slack []int
	for j, pull := range pulls {
		if pull != -1 && pose[j] > pull {
			slack = append(slack, j)
		}
	}
	return slack
}

// alone has the pull of the joint j as the only one.
func alone(joints int, j int, pull int) []int {
	pulls := slices.Repeat([]int{-1}, joints)
	pulls[j] = pull
	return pulls
}

// withNumber has another number in place of that of the joint j.
func withNumber(list []int, j int, n int) []int {
	changed := slices.Clone(list)
	changed[j] = n
	return changed
}

// validPulls are pulls for b: one string alone, a string at each joint, some
// joints without a string, and the least and the greatest pulls.
func validPulls(b impl.Body) [][]int {
	lists := [][]int{slices.Repeat([]int{0}, b.Joints), slices.Repeat([]int{500}, b.Joints)}
	for j := range b.Joints {
		for _, pull := range []int{0, 1, 37, 500} {
			lists = append(lists, alone(b.Joints, j, pull))
		}
	}
	// A short rule with a long period stands for pulls of all kinds.
	n := 17
	for range 40 {
		pulls := make([]int, b.Joints)
		for j := range pulls {
			n = (n*1103 + 12345) % 65521
			pulls[j] = []int{-1, 0, n % 10, n % 100, n % 501, 500}[n/7%6]
		}
		if slices.Max(pulls) != -1 {
			lists = append(lists, pulls)
		}
	}
	return lists
}

func TestPullsOk(t *testing.T) {
	for _, c := range []struct {
		name  string
		body  impl.Body
		pulls []int
		want  bool
	}{
		{"one joint at 0", bodyOf(1), []int{0}, true},
		{"one joint at 500", bodyOf(1), []int{500}, true},
		{"one joint without a string", bodyOf(1), []int{-1}, false},
		{"one joint at -2", bodyOf(1), []int{-2}, false},
		{"one joint at 501", bodyOf(1), []int{501}, false},
		{"one joint and no number", bodyOf(1), nil, false},
		{"one joint and an empty list", bodyOf(1), []int{}, false},
		{"one joint and two numbers", bodyOf(1), []int{3, 3}, false},
		{"one string, at the first joint", bodyOf(3, 0, 1, 1, 2), []int{0, -1, -1}, true},
		{"one string, at the last joint", bodyOf(3, 0, 1, 1, 2), []int{-1, -1, 0}, true},
		{"a string at each joint", bodyOf(3, 0, 1, 1, 2), []int{500, 0, 250}, true},
		{"no string", bodyOf(3, 0, 1, 1, 2), []int{-1, -1, -1}, false},
		{"too few numbers", bodyOf(3, 0, 1, 1, 2), []int{1, 2}, false},
		{"too many numbers", bodyOf(3, 0, 1, 1, 2), []int{1, 2, 3, 4}, false},
		{"too many numbers, the last one -1", bodyOf(3, 0, 1, 1, 2), []int{1, 2, 3, -1}, false},
		{"the string is behind the joints", bodyOf(2, 0, 1), []int{-1, -1, 5}, false},
		{"12 joints", chainOf(12), alone(12, 11, 500), true},
		{"12 joints without a string", chainOf(12), slices.Repeat([]int{-1}, 12), false},
		{"12 joints and 11 numbers", chainOf(12), slices.Repeat([]int{1}, 11), false},
		{"12 joints and 13 numbers", chainOf(12), slices.Repeat([]int{1}, 13), false},
	} {
		if got := impl.PullsOk(c.body, c.pulls); got != c.want {
			t.Errorf("%s: PullsOk(%v, %v) is %v", c.name, c.body, c.pulls, got)
		}
	}
}

func TestPullsOkRange(t *testing.T) {
	b := impl.SampleBody()
	numbers := []int{math.MinInt, -2000, math.MaxInt, 1000, 2000}
	for n := -5; n <= 505; n++ {
		numbers = append(numbers, n)
	}
	for _, n := range numbers {
		for j := range b.Joints {
			right := n >= -1 && n <= 500
			if got := impl.PullsOk(b, withNumber([]int{-1, 0, 1, 499, 500, -1, 9}, j, n)); got != right {
				t.Errorf("PullsOk with the pull %d of joint %d is %v", n, j, got)
			}
			if got := impl.PullsOk(b, alone(b.Joints, j, n)); got != (right && n != -1) {
				t.Errorf("PullsOk with the pull %d of joint %d alone is %v", n, j, got)
			}
		}
	}
}

func TestPoseOk(t *testing.T) {
	chain := withLengths(bodyOf(3, 0, 1, 2, 1), 4, 5)
	for _, c := range []struct {
		name string
		body impl.Body
		pose []int
		want bool
	}{
		{"one joint at -2000", bodyOf(1), []int{-2000}, true},
		{"one joint at 2000", bodyOf(1), []int{2000}, true},
		{"one joint at -1", bodyOf(1), []int{-1}, true},
		{"one joint at -2001", bodyOf(1), []int{-2001}, false},
		{"one joint at 2001", bodyOf(1), []int{2001}, false},
		{"one joint and no number", bodyOf(1), nil, false},
		{"one joint and two numbers", bodyOf(1), []int{0, 0}, false},
		{"all at -2000", chain, []int{-2000, -2000, -2000}, true},
		{"all at 2000", chain, []int{2000, 2000, 2000}, true},
		{"one of all at -2001", chain, []int{-2000, -2001, -2000}, false},
		{"one of all at 2001", chain, []int{2000, 2000, 2001}, false},
		{"just the Lengths, downwards", chain, []int{10, 6, 1}, true},
		{"just the Lengths, upwards", chain, []int{-10, -6, -1}, true},
		{"just the Lengths, down and up", chain, []int{2, -2, 3}, true},
		{"just the Lengths, up and down", chain, []int{-2, 2, -3}, true},
		{"A of the first limb is 1 too high", chain, []int{7, 2, 2}, false},
		{"A of the first limb is 1 too low", chain, []int{-3, 2, 2}, false},
		{"A of the last limb is 1 too high", chain, []int{2, 2, 8}, false},
		{"A of the last limb is 1 too low", chain, []int{2, 2, -4}, false},
		{"the middle is too low for one side", chain, []int{0, -5, 0}, false},
		{"the middle is too high for both sides", chain, []int{0, 6, 0}, false},
		{"joints without a limb are far apart", chain, []int{9, 5, 0}, true},
		{"from the least to the greatest height", bodyOf(2, 0, 1), []int{-2000, 2000}, false},
		{"the least and the greatest int", bodyOf(2, 0, 1), []int{math.MinInt, math.MaxInt}, false},
		{"the least and the greatest int, A higher", bodyOf(2, 1, 0), []int{math.MinInt, math.MaxInt}, false},
		{"the least int twice", bodyOf(2, 0, 1), []int{math.MinInt, math.MinInt}, false},
		{"too few numbers", chain, []int{1, 1}, false},
		{"too many numbers", chain, []int{1, 1, 1, 1}, false},
		{"no numbers", chain, nil, false},
		{"12 joints and 11 numbers", chainOf(12), make([]int, 11), false},
		{"12 joints", chainOf(12), make([]int, 12), true},
		{"12 joints and 13 numbers", chainOf(12), make([]int, 13), false},
	} {
		if got := impl.PoseOk(c.body, c.pose); got != c.want {
			t.Errorf("%s: PoseOk(%v, %v) is %v", c.name, c.body, c.pose, got)
		}
	}
}

func TestPoseOkRange(t *testing.T) {
	for _, at := range []int{-2000, 0, 2000} {
		pose := slices.Repeat([]int{at}, 7)
		for n := at - 3; n <= at+3; n++ {
			for j := range pose {
				right := n >= -2000 && n <= 2000
				if got := impl.PoseOk(impl.SampleBody(), withNumber(pose, j, n)); got != right {
					t.Errorf("PoseOk with the height %d of joint %d and all others at %d is %v", n, j, at, got)
				}
			}
		}
	}
}

// TestPoseOkOfEachLimb moves one end of each limb, with all that is behind it,
// up and down.
func TestPoseOkOfEachLimb(t *testing.T) {
	for _, b := range validBodies() {
		far := distancesByLimbs(b)
		for i, limb := range b.Limbs {
			for apart := -102; apart <= 102; apart++ {
				pose := make([]int, b.Joints)
				for j := range pose {
					if far[j][limb.B] < far[j][limb.A] {
						pose[j] = apart
					}
				}
				want := max(apart, -apart) <= limb.Length
				if got := impl.PoseOk(b, pose); got != want {
					t.Errorf("PoseOk(%v, %v) is %v with the ends of limb %d %d apart", b, pose, got, i, apart)
				}
			}
		}
	}
}

type hanging struct {
	name  string
	body  impl.Body
	pulls []int
	pose  []int
	slack []int
	low   int
}

func knownHangings() []hanging {
	sample := impl.SampleBody()
	chain := withLengths(bodyOf(3, 0, 1, 1, 2), 4, 5)
	long := withLengths(chainOf(12), slices.Repeat([]int{100}, 11)...)
	return []hanging{
		{"one joint", bodyOf(1), []int{7}, []int{7}, nil, 7},
		{"one joint at 0", bodyOf(1), []int{0}, []int{0}, nil, 0},
		{"one joint at 500", bodyOf(1), []int{500}, []int{500}, nil, 500},
		{"two strings", chain, []int{10, -1, 8}, []int{10, 6, 8}, nil, 6},
		{"one string, at the first joint", chain, []int{10, -1, -1}, []int{10, 6, 1}, nil, 1},
		{"one string, in the middle", chain, []int{-1, 10, -1}, []int{6, 10, 5}, nil, 5},
		{"one string, at the last joint", chain, []int{-1, -1, 10}, []int{1, 5, 10}, nil, 1},
		{"one string at 0", chain, []int{-1, -1, 0}, []int{-9, -5, 0}, nil, -9},
		{"a height of -1 with a string elsewhere", chain, []int{3, -1, -1}, []int{3, -1, -6}, nil, -6},
		{"all strings tight", chain, []int{10, 7, 8}, []int{10, 7, 8}, nil, 7},
		{"all strings at 0", chain, []int{0, 0, 0}, []int{0, 0, 0}, nil, 0},
		{"all strings at 500", chain, []int{500, 500, 500}, []int{500, 500, 500}, nil, 500},
		{"a string that is just tight", chain, []int{10, 6, 8}, []int{10, 6, 8}, nil, 6},
		{"a string that is just loose", chain, []int{10, 5, 8}, []int{10, 6, 8}, []int{1}, 6},
		{"a loose string, pulled a little", chain, []int{10, 3, 8}, []int{10, 6, 8}, []int{1}, 6},
		{"a loose string at 0", chain, []int{10, 0, 8}, []int{10, 6, 8}, []int{1}, 6},
		{"just tight at the far end", chain, []int{10, -1, 1}, []int{10, 6, 1}, nil, 1},
		{"just loose at the far end", chain, []int{10, -1, 0}, []int{10, 6, 1}, []int{2}, 1},
		{"just tight all the way", chain, []int{10, 6, 1}, []int{10, 6, 1}, nil, 1},
		{"loose all the way", chain, []int{10, 5, 0}, []int{10, 6, 1}, []int{1, 2}, 1},
		{"loose all the way back", chain, []int{0, 4, 10}, []int{1, 5, 10}, []int{0, 1}, 1},
		{"two strings ask for the same height", chain, []int{9, -1, 10}, []int{9, 5, 10}, nil, 5},
		{"two strings ask for the height of a third one", chain, []int{9, 5, 10}, []int{9, 5, 10}, nil, 5},
		{"two strings ask for more than a third one", chain, []int{9, 4, 10}, []int{9, 5, 10}, []int{1}, 5},
		{"the farther string pulls more", chain, []int{0, -1, 400}, []int{391, 395, 400}, []int{0}, 391},
		{"the sample at its middle", sample, []int{20, -1, -1, -1, -1, -1, -1}, []int{20, 16, 14, 13, 13, 9, 9}, nil, 9},
		{"the sample at its ends", sample, []int{-1, -1, -1, 8, 0, 12, 2}, []int{1, 5, 7, 8, 2, 12, 2}, []int{4}, 1},
		{"the sample at all joints", sample, []int{30, 26, 25, 22, 23, 30, 19}, []int{30, 26, 25, 23, 23, 30, 20}, []int{3, 6}, 20},
		{"the longest chain", long, alone(12, 0, 0), []int{0, -100, -200, -300, -400, -500, -600, -700, -800, -900, -1000, -1100}, nil, -1100},
		{"the longest chain, from both ends", long, []int{0, -1, -1, -1, -1, -1, -1, -1, -1, -1, -1, 500}, []int{0, -100, -200, -300, -200, -100, 0, 100, 200, 300, 400, 500}, nil, -300},
	}
}

func TestHangPose(t *testing.T) {
	for _, c := range knownHangings() {
		if got := impl.HangPose(c.body, c.pulls); !slices.Equal(got, c.pose) {
			t.Errorf("%s: HangPose(%v, %v) is %v, want %v", c.name, c.body, c.pulls, got, c.pose)
		}
	}
}

func TestSlackStrings(t *testing.T) {
	for _, c := range knownHangings() {
		if got := impl.SlackStrings(c.body, c.pulls); !slices.Equal(got, c.slack) {
			t.Errorf("%s: SlackStrings(%v, %v) is %v, want %v", c.name, c.body, c.pulls, got, c.slack)
		}
	}
}

func TestLowestPoint(t *testing.T) {
	for _, c := range knownHangings() {
		if got := impl.LowestPoint(c.body, c.pulls); got != c.low {
			t.Errorf("%s: LowestPoint(%v, %v) is %d, want %d", c.name, c.body, c.pulls, got, c.low)
		}
	}
}

func TestHangingByLimbs(t *testing.T) {
	for _, b := range validBodies() {
		for _, pulls := range validPulls(b) {
			want := hangByLimbs(b, pulls)
			if got := impl.HangPose(b, pulls); !slices.Equal(got, want) {
				t.Errorf("HangPose(%v, %v) is %v, want %v", b, pulls, got, want)
			}
			if got, want := impl.SlackStrings(b, pulls), slackIn(want, pulls); !slices.Equal(got, want) {
				t.Errorf("SlackStrings(%v, %v) is %v, want %v", b, pulls, got, want)
			}
			if got, want := impl.LowestPoint(b, pulls), slices.Min(want); got != want {
				t.Errorf("LowestPoint(%v, %v) is %d, want %d", b, pulls, got, want)
			}
		}
	}
}

// TestEveryJointIsHeld checks promise 4: the pose is one, no string asks for
// more, and each joint hangs from its string or from a limb at its full Length,
// so that none can be lowered.
func TestEveryJointIsHeld(t *testing.T) {
	for _, b := range validBodies() {
		for _, pulls := range validPulls(b) {
			pose := impl.HangPose(b, pulls)
			if !impl.PoseOk(b, pose) || !impl.IsHeld(b, pulls, pose) {
				t.Fatalf("HangPose(%v, %v) is %v, which is no pose or not held", b, pulls, pose)
			}
			for j := range pose {
				if !hangsFromSomething(b, pulls, pose, j) {
					t.Errorf("HangPose(%v, %v) is %v: nothing holds joint %d", b, pulls, pose, j)
				}
				if lower := withNumber(pose, j, pose[j]-1); impl.IsHeld(b, pulls, lower) {
					t.Errorf("HangPose(%v, %v) is %v, but %v is held too", b, pulls, pose, lower)
				}
			}
		}
	}
}

func hangsFromSomething(b impl.Body, pulls []int, pose []int, j int) bool {
	if pulls[j] == pose[j] && pulls[j] != -1 {
		return true
	}
	for _, i := range impl.LimbsAt(b, j) {
		limb := b.Limbs[i]
		if pose[limb.A+limb.B-j]-limb.Length == pose[j] {
			return true
		}
	}
	return false
}

// TestHangPoseIsTheLowest checks promise 4 against all poses of small bodies: no
// held pose has a joint that is lower than in HangPose.
func TestHangPoseIsTheLowest(t *testing.T) {
	for _, b := range []impl.Body{
		bodyOf(1),
		withLengths(bodyOf(2, 1, 0), 2),
		withLengths(bodyOf(3, 0, 1, 1, 2), 1, 2),
		withLengths(bodyOf(3, 2, 0, 1, 0), 2, 1),
		withLengths(bodyOf(4, 0, 3, 3, 1, 2, 3), 1, 2, 1),
	} {
		forAllLists(b.Joints, -1, 1, func(pulls []int) {
			if slices.Max(pulls) == -1 {
				return
			}
			lowest := slices.Repeat([]int{1000}, b.Joints)
			forAllLists(b.Joints, -4, 2, func(pose []int) {
				want := holds(b, pulls, pose)
				if got := impl.IsHeld(b, pulls, pose); got != want {
					t.Errorf("IsHeld(%v, %v, %v) is %v", b, pulls, pose, got)
				}
				for j := range pose {
					if want {
						lowest[j] = min(lowest[j], pose[j])
					}
				}
			})
			if got := impl.HangPose(b, pulls); !slices.Equal(got, lowest) {
				t.Errorf("HangPose(%v, %v) is %v, want %v", b, pulls, got, lowest)
			}
		})
	}
}

// holds is the definition of a pose that is held.
func holds(b impl.Body, pulls []int, pose []int) bool {
	for j, pull := range pulls {
		if pull != -1 && pose[j] < pull {
			return false
		}
	}
	for _, limb := range b.Limbs {
		if pose[limb.A] > pose[limb.B]+limb.Length || pose[limb.B] > pose[limb.A]+limb.Length {
			return false
		}
	}
	return true
}

// TestLooseStringsHoldNothing takes away the loose strings, which leaves the
// pose as it is, and pulls at each joint in turn, which raises it.
func TestLooseStringsHoldNothing(t *testing.T) {
	for _, b := range validBodies() {
		for _, pulls := range validPulls(b) {
			pose, slack := impl.HangPose(b, pulls), impl.SlackStrings(b, pulls)
			tight := slices.Clone(pulls)
			for _, j := range slack {
				tight[j] = -1
			}
			if got := impl.HangPose(b, tight); !slices.Equal(got, pose) {
				t.Errorf("%v: with %v the pose is %v, with the tight strings %v it is %v", b, pulls, pose, tight, got)
			}
			if got := impl.SlackStrings(b, tight); len(got) != 0 {
				t.Errorf("%v: of the tight strings %v, %v are loose", b, tight, got)
			}
			for j := range pulls {
				higher := withNumber(pulls, j, min(pose[j]+1, 500))
				raised := impl.HangPose(b, higher)
				if pose[j] >= 0 && pose[j] < 500 && raised[j] != pose[j]+1 {
					t.Errorf("%v: with %v the pose is %v, with %v it is %v", b, pulls, pose, higher, raised)
				}
			}
		}
	}
}

func TestIsHeld(t *testing.T) {
	chain := withLengths(bodyOf(3, 0, 1, 1, 2), 4, 5)
	for _, c := range []struct {
		name  string
		body  impl.Body
		pulls []int
		pose  []int
		want  bool
	}{
		{"the lowest pose", chain, []int{10, -1, 8}, []int{10, 6, 8}, true},
		{"a higher pose", chain, []int{10, -1, 8}, []int{11, 8, 8}, true},
		{"a much higher pose", chain, []int{10, -1, 8}, []int{2000, 2000, 2000}, true},
		{"the first joint 1 too low", chain, []int{10, -1, 8}, []int{9, 6, 8}, false},
		{"the last joint 1 too low", chain, []int{10, -1, 8}, []int{10, 6, 7}, false},
		{"all too low", chain, []int{10, -1, 8}, []int{-2000, -2000, -2000}, false},
		{"the pull 1 too high", chain, []int{11, -1, 8}, []int{10, 6, 8}, false},
		{"no pose", chain, []int{10, -1, 8}, []int{10, 5, 8}, false},
		{"no pose, high enough", chain, []int{10, -1, 8}, []int{10, 20, 8}, false},
		{"a joint without a string below -1", chain, []int{0, -1, -1}, []int{0, -4, -9}, true},
		{"a joint without a string at -1", chain, []int{0, -1, -1}, []int{0, -1, -1}, true},
		{"a string at 0 and a height of -1", chain, []int{0, 0, -1}, []int{0, -1, -1}, false},
		{"a string that hangs loose", chain, []int{10, 3, 8}, []int{10, 6, 8}, true},
		{"one joint", bodyOf(1), []int{5}, []int{5}, true},
		{"one joint too low", bodyOf(1), []int{5}, []int{4}, false},
		{"one joint, the greatest pull and height", bodyOf(1), []int{500}, []int{2000}, true},
		{"no string", chain, []int{-1, -1, -1}, []int{10, 6, 8}, false},
		{"a pull of -2", chain, []int{10, -2, 8}, []int{10, 6, 8}, false},
		{"a pull of 501", chain, []int{501, -1, -1}, []int{501, 501, 501}, false},
		{"a pull of 501 below the height", bodyOf(1), []int{501}, []int{600}, false},
		{"a height of 2001", bodyOf(1), []int{5}, []int{2001}, false},
		{"a height of -2001", chain, []int{10, -1, 8}, []int{10, -2001, 8}, false},
		{"too few pulls", chain, []int{10, -1}, []int{10, 6, 8}, false},
		{"too many pulls", chain, []int{10, -1, 8, -1}, []int{10, 6, 8}, false},
		{"too few heights", chain, []int{10, -1, -1}, []int{10, 6}, false},
		{"too many heights", chain, []int{10, -1, 8}, []int{10, 6, 8, 0}, false},
		{"too many of both", chain, []int{10, -1, 8, 0}, []int{10, 6, 8, 4}, false},
		{"no heights", chain, []int{10, -1, 8}, nil, false},
		{"no pulls", chain, nil, []int{10, 6, 8}, false},
	} {
		if got := impl.IsHeld(c.body, c.pulls, c.pose); got != c.want {
			t.Errorf("%s: IsHeld(%v, %v, %v) is %v", c.name, c.body, c.pulls, c.pose, got)
		}
	}
}

// checkHangsNot checks the results for pulls that are not valid for b.
func checkHangsNot(t *testing.T, name string, b impl.Body, pulls []int, pose []int) {
	t.Helper()
	if impl.PullsOk(b, pulls) {
		t.Errorf("%s: PullsOk is true", name)
	}
	if got := impl.HangPose(b, pulls); len(got) != 0 {
		t.Errorf("%s: HangPose is %v, want none", name, got)
	}
	if got := impl.SlackStrings(b, pulls); len(got) != 0 {
		t.Errorf("%s: SlackStrings is %v, want none", name, got)
	}
	if got := impl.LowestPoint(b, pulls); got != -2001 {
		t.Errorf("%s: LowestPoint is %d, want -2001", name, got)
	}
	if impl.IsHeld(b, pulls, pose) {
		t.Errorf("%s: IsHeld is true", name)
	}
}

func TestHangingFromInvalidPulls(t *testing.T) {
	for _, b := range validBodies() {
		pulls, pose := slices.Repeat([]int{5}, b.Joints), slices.Repeat([]int{1000}, b.Joints)
		checkHangsNot(t, "no string", b, slices.Repeat([]int{-1}, b.Joints), pose)
		checkHangsNot(t, "no numbers", b, nil, pose)
		checkHangsNot(t, "too few numbers", b, pulls[1:], pose)
		checkHangsNot(t, "too few numbers and heights", b, pulls[1:], pose[1:])
		checkHangsNot(t, "too many numbers", b, append(slices.Clone(pulls), 5), pose)
		checkHangsNot(t, "too many numbers, the last one -1", b, append(slices.Clone(pulls), -1), pose)
		checkHangsNot(t, "far too many numbers", b, slices.Repeat([]int{5}, 100000), pose)
		for j := range b.Joints {
			for _, n := range []int{math.MinInt, -2001, -3, -2, 501, 502, 2001, math.MaxInt} {
				name := "the pull " + impl.FormatInt(n) + " of joint " + impl.FormatInt(j)
				checkHangsNot(t, name, b, withNumber(pulls, j, n), pose)
				checkHangsNot(t, name+" alone", b, alone(b.Joints, j, n), pose)
			}
		}
	}
}

func TestHangingOfInvalidBodies(t *testing.T) {
	for _, c := range invalidBodies() {
		counts := []int{0, 1, 2, 3, 11, 12, 13}
		if c.body.Joints >= 0 && c.body.Joints <= 100 {
			counts = append(counts, c.body.Joints)
		}
		for _, n := range counts {
			pulls, pose := slices.Repeat([]int{5}, n), slices.Repeat([]int{5}, n)
			checkHangsNot(t, c.name, c.body, pulls, pose)
			if impl.PoseOk(c.body, pose) {
				t.Errorf("%s: PoseOk of %d numbers is true", c.name, n)
			}
		}
	}
}

// roomyList is a list with spare capacity, and all of it.
func roomyList(list []int) ([]int, []int) {
	all := append(slices.Clone(list), 70, 71, 72)
	return all[:len(list)], all
}

func TestHangArgumentsAreLeftUnchanged(t *testing.T) {
	checkBodiesUnchanged(t, func(b impl.Body) {
		joints := min(max(b.Joints, 1), 13)
		zeros := make([]int, joints)
		lists := [][]int{nil, zeros, alone(joints, 0, 10), alone(joints, joints-1, -2), slices.Repeat([]int{-1}, joints), make([]int, joints+1)}
		if impl.BodyOk(b) {
			lists = append(lists, validPulls(b)[:10]...)
		}
		for _, list := range lists {
			pulls, all := roomyList(list)
			pose, allOfPose := roomyList(list)
			impl.PullsOk(b, pulls)
			impl.PoseOk(b, pose)
			impl.HangPose(b, pulls)
			impl.SlackStrings(b, pulls)
			impl.IsHeld(b, pulls, pose)
			impl.LowestPoint(b, pulls)
			if _, want := roomyList(list); !slices.Equal(all, want) || !slices.Equal(allOfPose, want) {
				t.Errorf("%v: the arguments %v are changed to %v and %v", b, want, all, allOfPose)
			}
		}
	})
}

func TestHangListsAreNewMemory(t *testing.T) {
	for _, list := range [][]int{
		{20, -1, -1, -1, -1, -1, -1},
		{30, 26, 25, 22, 23, 30, 19},
		// the pose is equal to the pulls
		{9, 9, 9, 9, 9, 9, 9},
	} {
		b := impl.SampleBody()
		pulls, all := roomyList(list)
		_, before := roomyList(list)
		pose, slack := impl.HangPose(b, pulls), impl.SlackStrings(b, pulls)
		wantPose, wantSlack := slices.Clone(pose), slices.Clone(slack)
		clear(pose[:cap(pose)])
		clear(slack[:cap(slack)])
		if !slices.Equal(all, before) || !equalBodies(b, impl.SampleBody()) {
			t.Errorf("a change of a result changes the arguments to %v and %v", b, all)
		}
		if got := impl.HangPose(b, pulls); !slices.Equal(got, wantPose) {
			t.Errorf("after a change of another result, HangPose is %v, want %v", got, wantPose)
		}
		if got := impl.SlackStrings(b, pulls); !slices.Equal(got, wantSlack) {
			t.Errorf("after a change of another result, SlackStrings is %v, want %v", got, wantSlack)
		}
	}
}
