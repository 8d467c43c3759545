package tests

import (
	"fmt"
	"math"
	"math/rand"
	"slices"
	"testing"

	"loop.example/g01316/impl"
)

// netModel keeps a network as a table of who may call whom, apart from the way the package keeps it.
type netModel struct {
	pairCase
	may [10][10]bool
}

func newNetModel(c pairCase) *netModel {
	m := &netModel{pairCase: c}
	for _, p := range c.pairs {
		m.may[p.A][p.B], m.may[p.B][p.A] = true, true
	}
	return m
}

func (m *netModel) String() string { return fmt.Sprint(m.friends, " ", written(m.pairs)) }

// steps returns the distance of a and b, or -1 if there is no way: the way is walked from all friends at once.
func (m *netModel) steps(a int, b int) int {
	var reached [10]bool
	reached[a] = true
	for n := range m.friends {
		if reached[b] {
			return n
		}
		before := reached
		for f := range m.friends {
			for g := range m.friends {
				if before[f] && m.may[f][g] {
					reached[g] = true
				}
			}
		}
	}
	return -1
}

func (m *netModel) joined() bool {
	for f := range m.friends {
		if m.steps(0, f) < 0 {
			return false
		}
	}
	return true
}

// squares returns all squares in order: all lists of four friends are looked at.
func (m *netModel) squares() [][]int {
	var out [][]int
	for w := range m.friends {
		for x := range m.friends {
			for y := range m.friends {
				for z := range m.friends {
					is := m.may[w][x] && m.may[x][y] && m.may[y][z] && m.may[z][w]
					if is && w < x && w < y && w < z && x < z {
						out = append(out, []int{w, x, y, z})
					}
				}
			}
		}
	}
	return out
}

// tree puts all friends into a tree that begins with some, and returns their calls in the order in which they are put in.
func (m *netModel) tree(in []int) []impl.Call {
	var out []impl.Call
	for len(in) < m.friends {
		next, at := m.nextOf(in)
		out = append(out, impl.Call{A: min(next, at), B: max(next, at)})
		in = append(in, next)
	}
	return out
}

func (m *netModel) nextOf(in []int) (int, int) {
	for f := range m.friends {
		for at := range m.friends {
			if m.may[f][at] && slices.Contains(in, at) && !slices.Contains(in, f) {
				return f, at
			}
		}
	}
	panic("nobody can be put in")
}

// plan returns the calls of a tree back, then some, then those of the tree from one on.
func plan(tree []impl.Call, middle []impl.Call, from int) []impl.Call {
	var out []impl.Call
	for i := len(tree) - 1; i >= 0; i-- {
		out = append(out, tree[i])
	}
	out = append(out, middle...)
	return append(out, tree[min(from, len(tree)):]...)
}

func (m *netModel) treePlan() []impl.Call { return plan(m.tree([]int{0}), nil, 1) }

func (m *netModel) squarePlan() []impl.Call {
	s := m.squares()[0]
	w, x, y, z := s[0], s[1], s[2], s[3]
	// w is the least one of the square, but y may be less than x, and greater than z.
	middle := []impl.Call{{A: w, B: x}, {A: min(y, z), B: max(y, z)}, {A: w, B: z}, {A: min(x, y), B: max(x, y)}}
	return plan(m.tree(slices.Clone(s)), middle, 0)
}

// chosenPairs returns the pairs of so many friends whose bits are set.
func chosenPairs(friends int, chosen int) []impl.Call {
	return pairsThat(friends, func(i int, c impl.Call) bool { return chosen&(1<<i) != 0 })
}

// netSample returns all networks of at most 5 friends, and some of more: without pairs, lines, circles, stars, trees, with friends
// apart, whole ones, ones of two sides, Petersen's, which has circles of 5 but no squares, and random ones.
func netSample() []*netModel {
	var out []*netModel
	add := func(friends int, pairs []impl.Call) { out = append(out, newNetModel(pairCase{friends, pairs})) }
	for friends := 1; friends <= 5; friends++ {
		for chosen := range 1 << len(pairsOf(friends)) {
			add(friends, chosenPairs(friends, chosen))
		}
	}
	r := rand.New(rand.NewSource(15))
	for friends := 6; friends <= impl.MaxNetted; friends++ {
		last := friends - 1
		for _, fits := range []func(i int, c impl.Call) bool{
			func(i int, c impl.Call) bool { return c.B == c.A+1 },
			func(i int, c impl.Call) bool { return c.B == c.A+1 || c.B-c.A == last },
			func(i int, c impl.Call) bool { return c.A == 0 },
			func(i int, c impl.Call) bool { return c.B == last },
			func(i int, c impl.Call) bool { return c.A == 0 || c.B == c.A+1 },
			func(i int, c impl.Call) bool { return c.B-c.A == 2 },
			func(i int, c impl.Call) bool { return (c.B-c.A)%2 == 1 },
			func(i int, c impl.Call) bool { return true },
			func(i int, c impl.Call) bool { return false },
			func(i int, c impl.Call) bool { return (c.B-1)/2 == c.A },
			func(i int, c impl.Call) bool { return c.B != last },
			func(i int, c impl.Call) bool { return c.A != 0 },
			func(i int, c impl.Call) bool { return c.B < 3 || c.A >= 3 },
		} {
			add(friends, pairsThat(friends, fits))
		}
		for range 120 {
			dense := 1 + r.Intn(9)
			add(friends, pairsThat(friends, func(i int, c impl.Call) bool { return r.Intn(15) < dense }))
		}
		for range 60 {
			add(friends, randomTree(r, friends))
		}
	}
	add(10, calls("01-04-05-12-16-23-27-34-38-49-57-58-68-69-79"))
	return out
}

// randomTree returns the pairs of a tree in which the friends have random places, and perhaps a pair more.
func randomTree(r *rand.Rand, friends int) []impl.Call {
	names := r.Perm(friends)
	chosen := map[impl.Call]bool{}
	for i := 1; i < friends; i++ {
		at := r.Intn(i)
		chosen[impl.Call{A: min(names[i], names[at]), B: max(names[i], names[at])}] = true
	}
	if r.Intn(2) > 0 {
		all := pairsOf(friends)
		chosen[all[r.Intn(len(all))]] = true
	}
	return pairsThat(friends, func(i int, c impl.Call) bool { return chosen[c] })
}

// Promise 4: the document's examples.
func TestNetExamples(t *testing.T) {
	circle, ok := impl.CircleNet(4)
	expect(t, "CircleNet(4)", circle, ok, calls("01-03-12-23"))
	square, ok := impl.FirstSquare(4, circle)
	expect(t, "FirstSquare of a circle", square, ok, []int{0, 1, 2, 3})
	n, ok := impl.FewestInNet(4, circle)
	expect(t, "FewestInNet of a circle", n, ok, 4)
	list, ok := impl.SquarePlan(4, circle)
	expect(t, "SquarePlan of a circle", list, ok, calls("01-23-03-12"))
	line, ok := impl.LineNet(4)
	expect(t, "LineNet(4)", line, ok, calls("01-12-23"))
	n, ok = impl.FewestInNet(4, line)
	expect(t, "FewestInNet of a line", n, ok, 5)
	list, ok = impl.TreePlan(4, line)
	expect(t, "TreePlan of a line", list, ok, calls("23-12-01-12-23"))
	whole, ok := impl.WholeNet(4)
	expect(t, "WholeNet(4)", whole, ok, calls("01-02-03-12-13-23"))
	n, ok = impl.CountSquares(4, whole)
	expect(t, "CountSquares of a whole network", n, ok, 3)
	n, ok = impl.DistanceInNet(4, line, 0, 3)
	expect(t, "DistanceInNet of a line", n, ok, 3)
	list, ok = impl.BridgesOf(4, line)
	expect(t, "BridgesOf a line", list, ok, line)
	list, ok = impl.BridgesOf(4, circle)
	expect(t, "BridgesOf a circle", list, ok, []impl.Call{})
}

// Promise 4: the limit is that of the document.
func TestNetLimits(t *testing.T) {
	if impl.MaxNetted != 10 {
		t.Errorf("got %d", impl.MaxNetted)
	}
}

// Promise 4: networks are valid by their friends, their pairs and the order of these.
func TestArePairs(t *testing.T) {
	for friends := 1; friends <= impl.MaxNetted; friends++ {
		if !impl.ArePairs(friends, nil) || !impl.ArePairs(friends, []impl.Call{}) || !impl.ArePairs(friends, pairsOf(friends)) {
			t.Errorf("ArePairs(%d): got false", friends)
		}
		if impl.ArePairs(friends, pairsOf(friends+1)) {
			t.Errorf("ArePairs(%d) of one friend more: got true", friends)
		}
	}
	for _, friends := range wrongFriends {
		if impl.ArePairs(friends, nil) || impl.ArePairs(friends, calls("01")) {
			t.Errorf("ArePairs(%d): got true", friends)
		}
	}
	var all []impl.Call
	for a := -1; a < 5; a++ {
		for b := -1; b < 5; b++ {
			all = append(all, impl.Call{A: a, B: b})
		}
	}
	for friends := 1; friends <= 5; friends++ {
		is := func(c impl.Call) bool { return 0 <= c.A && c.A < c.B && c.B < friends }
		for _, c := range all {
			for _, d := range all {
				want := is(c) && is(d) && (c.A < d.A || c.A == d.A && c.B < d.B)
				if impl.ArePairs(friends, []impl.Call{c, d}) != want || impl.ArePairs(friends, []impl.Call{c}) != is(c) {
					t.Errorf("ArePairs(%d) of %v, %v or of the first one", friends, c, d)
				}
			}
		}
	}
	for _, wrong := range wrongNets() {
		if impl.ArePairs(3, wrong) {
			t.Errorf("ArePairs(3, %v): got true", wrong)
		}
	}
}

// wrongNets are lists of calls that are no network of three friends.
func wrongNets() [][]impl.Call {
	out := [][]impl.Call{calls("01-01-12"), calls("12-01"), calls("02-01-12"), calls("01-12-02"), calls("01-12-12"),
		repeated(impl.Call{A: 0, B: 1}, 61), pairsOf(4)}
	for _, wrong := range wrongCalls() {
		out = append(out, []impl.Call{wrong}, append(calls("01-12"), wrong), append([]impl.Call{wrong}, calls("12")...))
	}
	return out
}

// Promise 4: lines, circles, stars and whole networks.
func TestNets(t *testing.T) {
	for friends := 1; friends <= impl.MaxNetted; friends++ {
		got, ok := impl.LineNet(friends)
		expect(t, fmt.Sprintf("LineNet(%d)", friends), got, ok, pairsThat(friends, func(i int, c impl.Call) bool { return c.B-c.A == 1 }))
		got, ok = impl.WholeNet(friends)
		expect(t, fmt.Sprintf("WholeNet(%d)", friends), got, ok, pairsOf(friends))
		for friend := range friends {
			got, ok = impl.StarNet(friends, friend)
			want := pairsThat(friends, func(i int, c impl.Call) bool { return c.A == friend || c.B == friend })
			expect(t, fmt.Sprintf("StarNet(%d, %d)", friends, friend), got, ok, want)
		}
		got, ok = impl.CircleNet(friends)
		if friends < 3 {
			expectFail(t, fmt.Sprintf("CircleNet(%d)", friends), got, ok)
			continue
		}
		want := pairsThat(friends, func(i int, c impl.Call) bool { return c.B-c.A == 1 || c.B-c.A == friends-1 })
		expect(t, fmt.Sprintf("CircleNet(%d)", friends), got, ok, want)
	}
	for s, want := range map[string]func() ([]impl.Call, bool){
		"":               func() ([]impl.Call, bool) { return impl.LineNet(1) },
		"01":             func() ([]impl.Call, bool) { return impl.LineNet(2) },
		"01-02-12":       func() ([]impl.Call, bool) { return impl.CircleNet(3) },
		"01-04-12-23-34": func() ([]impl.Call, bool) { return impl.CircleNet(5) },
		"02-12-23-24":    func() ([]impl.Call, bool) { return impl.StarNet(5, 2) },
	} {
		got, ok := want()
		expect(t, "the network "+s, got, ok, calls(s))
	}
	for _, friends := range wrongFriends {
		for name, f := range map[string]func(int) ([]impl.Call, bool){"LineNet": impl.LineNet, "CircleNet": impl.CircleNet, "WholeNet": impl.WholeNet} {
			got, ok := f(friends)
			expectFail(t, fmt.Sprint(name, friends), got, ok)
		}
		got, ok := impl.StarNet(friends, 0)
		expectFail(t, fmt.Sprint("StarNet ", friends), got, ok)
	}
	for _, friend := range []int{math.MinInt, -1, 4, 5, 9, 10, math.MaxInt} {
		got, ok := impl.StarNet(4, friend)
		expectFail(t, fmt.Sprint("StarNet 4, ", friend), got, ok)
	}
}

// Promise 4: networks are joined, friends far, and pairs bridges as a walk over the network tells.
func TestDistances(t *testing.T) {
	for _, m := range netSample() {
		joined, ok := impl.IsJoined(m.friends, m.pairs)
		expect(t, "IsJoined "+m.String(), joined, ok, m.joined())
		var want [3]int
		for a := range m.friends {
			for b := range m.friends {
				steps := m.steps(a, b)
				n, ok := impl.DistanceInNet(m.friends, m.pairs, a, b)
				if steps < 0 {
					expectFail(t, fmt.Sprint("DistanceInNet ", m, ", ", a, b), n, ok)
				} else {
					expect(t, fmt.Sprint("DistanceInNet ", m, ", ", a, b), n, ok, steps)
				}
				if a < b && steps > want[2] {
					want = [3]int{a, b, steps}
				}
			}
		}
		a, b, n, ok := impl.FarthestInNet(m.friends, m.pairs)
		if !m.joined() || m.friends == 1 {
			expectFail(t, "FarthestInNet "+m.String(), [3]int{a, b, n}, ok)
		} else {
			expect(t, "FarthestInNet "+m.String(), [3]int{a, b, n}, ok, want)
		}
		checkBridges(t, m)
	}
}

func checkBridges(t *testing.T, m *netModel) {
	t.Helper()
	got, ok := impl.BridgesOf(m.friends, m.pairs)
	if !m.joined() {
		expectFail(t, "BridgesOf "+m.String(), got, ok)
		return
	}
	var want []impl.Call
	for k, p := range m.pairs {
		if !newNetModel(pairCase{m.friends, without(m.pairs, k)}).joined() {
			want = append(want, p)
		}
	}
	expect(t, "BridgesOf "+m.String(), got, ok, want)
}

// Promise 4: networks that are joined or not, told by hand.
func TestKnownDistances(t *testing.T) {
	joined, ok := impl.IsJoined(1, nil)
	expect(t, "IsJoined of one friend", joined, ok, true)
	joined, ok = impl.IsJoined(2, nil)
	expect(t, "IsJoined of two without pairs", joined, ok, false)
	joined, ok = impl.IsJoined(6, calls("01-02-12-34-35-45"))
	expect(t, "IsJoined of two triangles", joined, ok, false)
	joined, ok = impl.IsJoined(4, calls("03-13-23"))
	expect(t, "IsJoined of a star", joined, ok, true)
	n, ok := impl.DistanceInNet(6, calls("01-02-12-34-35-45"), 0, 3)
	expectFail(t, "DistanceInNet of two triangles", n, ok)
	n, ok = impl.DistanceInNet(6, calls("01-02-12-34-35-45"), 5, 3)
	expect(t, "DistanceInNet of one triangle", n, ok, 1)
	n, ok = impl.DistanceInNet(10, pairsThat(10, func(i int, c impl.Call) bool { return c.B == c.A+1 }), 9, 0)
	expect(t, "DistanceInNet of a line of 10", n, ok, 9)
	a, b, n, ok := impl.FarthestInNet(5, calls("03-12-14-23"))
	expect(t, "FarthestInNet 03-12-14-23", [3]int{a, b, n}, ok, [3]int{0, 4, 4})
	a, b, n, ok = impl.FarthestInNet(6, calls("01-05-12-23-34-45"))
	expect(t, "FarthestInNet of a circle", [3]int{a, b, n}, ok, [3]int{0, 3, 3})
	a, b, n, ok = impl.FarthestInNet(4, pairsOf(4))
	expect(t, "FarthestInNet of a whole network", [3]int{a, b, n}, ok, [3]int{0, 1, 1})
	list, ok := impl.BridgesOf(7, calls("01-02-12-23-34-35-45-56"))
	expect(t, "BridgesOf two triangles", list, ok, calls("23-56"))
	list, ok = impl.BridgesOf(1, nil)
	expect(t, "BridgesOf one friend", list, ok, []impl.Call{})
}

// Promise 4: squares are those of all lists of four friends.
func TestSquares(t *testing.T) {
	for _, m := range netSample() {
		want := m.squares()
		n, ok := impl.CountSquares(m.friends, m.pairs)
		expect(t, "CountSquares "+m.String(), n, ok, len(want))
		got, ok := impl.FirstSquare(m.friends, m.pairs)
		if len(want) == 0 {
			expectFail(t, "FirstSquare "+m.String(), got, ok)
		} else {
			expect(t, "FirstSquare "+m.String(), got, ok, want[0])
		}
	}
	n, ok := impl.CountSquares(10, pairsOf(10))
	expect(t, "CountSquares of a whole network of 10", n, ok, 630)
	n, ok = impl.CountSquares(1, nil)
	expect(t, "CountSquares of one friend", n, ok, 0)
	for s, want := range map[string][]int{
		"02-03-12-13":          {0, 2, 1, 3},
		"01-02-13-23":          {0, 1, 3, 2},
		"01-02-03-12-13-23":    {0, 1, 2, 3},
		"01-12-23-26-34-37-67": {2, 3, 7, 6},
		"04-09-14-19":          {0, 4, 1, 9},
	} {
		got, ok := impl.FirstSquare(10, calls(s))
		expect(t, "FirstSquare of "+s, got, ok, want)
	}
}

// leastCalls finds how few calls of pairs do, going call by call through all that friends may know.
func (m *netModel) leastCalls() int {
	var start [6]uint8
	for f := range m.friends {
		start[f] = 1 << f
	}
	var end [6]uint8
	for f := range m.friends {
		end[f] = 1<<m.friends - 1
	}
	seen := map[[6]uint8]bool{start: true}
	for n := 0; ; n++ {
		if seen[end] {
			return n
		}
		next := map[[6]uint8]bool{}
		for known := range seen {
			for _, p := range m.pairs {
				behind := known
				behind[p.A] |= known[p.B]
				behind[p.B] |= known[p.A]
				next[behind] = true
			}
		}
		seen = next
	}
}

// Promise 4: fewest calls are those of search.
func TestFewestInNetIsThatOfSearch(t *testing.T) {
	for _, m := range netSample() {
		if m.friends > 6 || len(m.pairs) > 10 || !m.joined() {
			continue // to save time
		}
		n, ok := impl.FewestInNet(m.friends, m.pairs)
		expect(t, "FewestInNet "+m.String(), n, ok, m.leastCalls())
	}
}

// Promise 4: plans along trees and over squares are calls of pairs behind which all know, as many as are told.
func TestNetPlans(t *testing.T) {
	for _, m := range netSample() {
		fewest, ok := impl.FewestInNet(m.friends, m.pairs)
		tree, fine := impl.TreePlan(m.friends, m.pairs)
		square, good := impl.SquarePlan(m.friends, m.pairs)
		hasSquare := len(m.squares()) > 0
		if !m.joined() {
			expectFail(t, "FewestInNet "+m.String(), fewest, ok)
			expectFail(t, "TreePlan "+m.String(), tree, fine)
			expectFail(t, "SquarePlan "+m.String(), square, good)
			continue
		}
		inTree := max(0, 2*m.friends-3)
		expect(t, "TreePlan "+m.String(), tree, fine, m.treePlan())
		checkNetPlan(t, m, tree, inTree)
		if !hasSquare {
			expect(t, "FewestInNet "+m.String(), fewest, ok, inTree)
			expectFail(t, "SquarePlan "+m.String(), square, good)
			continue
		}
		expect(t, "FewestInNet "+m.String(), fewest, ok, 2*m.friends-4)
		expect(t, "SquarePlan "+m.String(), square, good, m.squarePlan())
		checkNetPlan(t, m, square, fewest)
	}
}

// checkNetPlan checks that a plan has so many calls of pairs, and that all know behind it.
func checkNetPlan(t *testing.T, m *netModel, list []impl.Call, want int) {
	t.Helper()
	if len(list) != want {
		t.Errorf("%v: %v are not %d calls", m, list, want)
	}
	in, ok := impl.AreCallsInNet(m.friends, m.pairs, list)
	expect(t, fmt.Sprint("AreCallsInNet ", m, list), in, ok, true)
	for _, c := range list {
		if !m.may[c.A][c.B] {
			t.Errorf("%v: %v has the call %v", m, list, c)
		}
	}
	if startHeard(m.friends).after(list).count() != m.friends*m.friends {
		t.Errorf("%v: not all know behind %v", m, list)
	}
	whole, ok := impl.AllKnow(m.friends, list)
	expect(t, fmt.Sprint("AllKnow ", m, list), whole, ok, true)
}

// Promise 4: plans told by hand.
func TestKnownNetPlans(t *testing.T) {
	for pairs, want := range map[string]string{
		"":                  "",
		"01":                "01",
		"02-12":             "12-02-12",
		"03-13-23":          "23-13-03-13-23",
		"01-02-03-12-13-23": "03-02-01-02-03",
		"04-13-14-23-24":    "13-24-14-04-14-24-13",
		"03-12-13-24":       "24-12-13-03-13-12-24",
	} {
		got, ok := impl.TreePlan(friendsIn(pairs), calls(pairs))
		expect(t, "TreePlan of "+pairs, got, ok, calls(want))
	}
	for pairs, want := range map[string]string{
		"02-03-12-13":          "02-13-03-12",
		"01-02-13-23":          "01-23-02-13",
		"04-13-14-23-24":       "04-13-24-14-23-04",
		"01-13-23-24-34-35-45": "01-13-23-45-24-35-13-01",
	} {
		got, ok := impl.SquarePlan(friendsIn(pairs), calls(pairs))
		expect(t, "SquarePlan of "+pairs, got, ok, calls(want))
	}
	for _, pairs := range []string{"", "01", "01-02-12", "04-12-15-26-45-56", "12-14-23-34"} {
		got, ok := impl.SquarePlan(friendsIn(pairs), calls(pairs))
		expectFail(t, "SquarePlan of "+pairs, got, ok)
	}
	n, ok := impl.FewestInNet(1, nil)
	expect(t, "FewestInNet of one friend", n, ok, 0)
}

// friendsIn returns one more than the greatest friend of pairs, or 1 if there are none.
func friendsIn(pairs string) int {
	friends := 1
	for _, p := range calls(pairs) {
		friends = max(friends, p.B+1)
	}
	return friends
}

// Promise 4: degrees, and networks with a pair more or less.
func TestChangedNets(t *testing.T) {
	for n, m := range netSample() {
		if n%5 != 0 && m.friends > 4 {
			continue // to save time
		}
		want := make([]int, m.friends)
		for a := range m.friends {
			for b := range m.friends {
				if m.may[a][b] {
					want[a]++
				}
			}
		}
		degrees, ok := impl.DegreesOf(m.friends, m.pairs)
		expect(t, "DegreesOf "+m.String(), degrees, ok, want)
		for _, c := range pairsOf(m.friends) {
			got, ok := impl.AddPair(m.friends, m.pairs, c)
			if m.may[c.A][c.B] {
				expectFail(t, fmt.Sprint("AddPair ", m, c), got, ok)
				continue
			}
			want := pairsThat(m.friends, func(i int, d impl.Call) bool { return d == c || m.may[d.A][d.B] })
			expect(t, fmt.Sprint("AddPair ", m, c), got, ok, want)
			if !impl.ArePairs(m.friends, got) {
				t.Errorf("AddPair %v %v: %v is no network", m, c, got)
			}
		}
		for k := range m.pairs {
			got, ok := impl.DropPair(m.friends, m.pairs, k)
			expect(t, fmt.Sprint("DropPair ", m, k), got, ok, without(m.pairs, k))
		}
	}
	degrees, ok := impl.DegreesOf(4, calls("01-02-12"))
	expect(t, "DegreesOf 01-02-12", degrees, ok, []int{2, 2, 2, 0})
	degrees, ok = impl.DegreesOf(1, nil)
	expect(t, "DegreesOf one friend", degrees, ok, []int{0})
	got, ok := impl.AddPair(4, calls("01-23"), impl.Call{A: 0, B: 3})
	expect(t, "AddPair 03", got, ok, calls("01-03-23"))
	got, ok = impl.DropPair(2, calls("01"), 0)
	expect(t, "DropPair of the only one", got, ok, []impl.Call{})
}

// Promise 4: calls are in a network just if each of them is a pair.
func TestAreCallsInNet(t *testing.T) {
	r := rand.New(rand.NewSource(16))
	for _, m := range netSample() {
		list := randomCalls(r, m.friends, 4)
		want := true
		for _, c := range list {
			want = want && m.may[c.A][c.B]
		}
		got, ok := impl.AreCallsInNet(m.friends, m.pairs, list)
		expect(t, fmt.Sprint("AreCallsInNet ", m, list), got, ok, want)
	}
	pairs := calls("01-12")
	for s, want := range map[string]bool{"": true, "01": true, "12-01-12": true, "02": false, "01-02": false, "02-01": false, "01-12-02-01": false} {
		got, ok := impl.AreCallsInNet(3, pairs, calls(s))
		expect(t, "AreCallsInNet "+s, got, ok, want)
	}
	for friends := 1; friends <= 3; friends++ {
		got, ok := impl.AreCallsInNet(friends, nil, nil)
		expect(t, "AreCallsInNet without any", got, ok, true)
	}
	got, ok := impl.AreCallsInNet(3, nil, calls("01"))
	expect(t, "AreCallsInNet without pairs", got, ok, false)
	got, ok = impl.AreCallsInNet(3, pairs, repeated(impl.Call{A: 0, B: 1}, 60))
	expect(t, "AreCallsInNet of 60 calls", got, ok, true)
	got, ok = impl.AreCallsInNet(3, pairs, repeated(impl.Call{A: 0, B: 1}, 61))
	expectFail(t, "AreCallsInNet of 61 calls", got, ok)
	for _, wrong := range wrongCalls() {
		for _, list := range [][]impl.Call{{wrong}, append(calls("01"), wrong), append(calls("02"), wrong), append([]impl.Call{wrong}, calls("01")...)} {
			got, ok := impl.AreCallsInNet(3, pairs, list)
			expectFail(t, fmt.Sprint("AreCallsInNet ", list), got, ok)
		}
	}
}

// Promise 4: what is no network makes all functions of networks fail.
func TestWrongNets(t *testing.T) {
	fails := func(friends int, pairs []impl.Call) {
		t.Helper()
		for _, f := range netFunctions() {
			got, ok := f.run(netArguments{friends: friends, pairs: pairs, pair: impl.Call{A: 0, B: 1}})
			expectFail(t, fmt.Sprint(f.name, " of ", friends, pairs), got, ok)
		}
	}
	for _, pairs := range wrongNets() {
		fails(3, pairs)
	}
	for _, friends := range wrongFriends {
		fails(friends, nil)
		fails(friends, calls("01"))
		fails(friends, calls("01-12-23-89"))
	}
	// A greater friend than there are comes behind pairs that join all, make a square, and hold all calls.
	fails(4, calls("01-02-03-12-13-23-34"))
}

// Promise 4: friends, pairs and indices that there are not make the functions that take them fail.
func TestWrongNetArguments(t *testing.T) {
	pairs := calls("01-12")
	for _, friend := range []int{math.MinInt, -1, 3, 4, 10, 64, math.MaxInt} {
		n, ok := impl.DistanceInNet(3, pairs, friend, 0)
		expectFail(t, fmt.Sprint("DistanceInNet from ", friend), n, ok)
		n, ok = impl.DistanceInNet(3, pairs, 0, friend)
		expectFail(t, fmt.Sprint("DistanceInNet to ", friend), n, ok)
		n, ok = impl.DistanceInNet(3, pairs, friend, friend)
		expectFail(t, fmt.Sprint("DistanceInNet from and to ", friend), n, ok)
	}
	for _, k := range []int{math.MinInt, -1, 2, 3, math.MaxInt} {
		got, ok := impl.DropPair(3, pairs, k)
		expectFail(t, fmt.Sprint("DropPair ", k), got, ok)
	}
	got, ok := impl.DropPair(3, nil, 0)
	expectFail(t, "DropPair without pairs", got, ok)
	for _, pair := range append(wrongCalls(), pairs...) {
		got, ok := impl.AddPair(3, pairs, pair)
		expectFail(t, fmt.Sprint("AddPair ", pair), got, ok)
	}
	got, ok = impl.AddPair(1, nil, impl.Call{})
	expectFail(t, "AddPair of one friend", got, ok)
}

// Promise 4: functions that require a joined network fail for others.
func TestNetsThatAreNotJoined(t *testing.T) {
	for friends, pairs := range map[int]string{2: "", 3: "12", 4: "01-23", 5: "01-03-12-23", 6: "12-14-23-34-35", 10: ""} {
		for _, f := range netFunctions() {
			got, ok := f.run(netArguments{friends: friends, pairs: calls(pairs), b: friends - 1, pair: impl.Call{A: 0, B: friends - 1}})
			if f.joined {
				expectFail(t, fmt.Sprint(f.name, " of ", friends, pairs), got, ok)
			} else if f.always && !ok {
				t.Errorf("%s of %d %s fails", f.name, friends, pairs)
			}
		}
	}
}
