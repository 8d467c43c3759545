package tests

import (
	"fmt"
	"math"
	"math/bits"
	"math/rand"
	"slices"
	"sort"
	"strings"
	"testing"

	"loop.example/g01316/impl"
)

// rounds reads rounds such as "01-23/02-13" without the package's help: "." are none, and "" is one without calls.
func rounds(s string) [][]impl.Call {
	if s == "." {
		return nil
	}
	var out [][]impl.Call
	for _, round := range strings.Split(s, "/") {
		out = append(out, calls(round))
	}
	return out
}

// writtenRound tells a round in a text. Such texts of rounds are in the order of the rounds.
func writtenRound(round []impl.Call) string {
	var parts []string
	for _, c := range round {
		parts = append(parts, fmt.Sprint(c.A)+fmt.Sprint(c.B))
	}
	return strings.Join(parts, "-")
}

func writtenRounds(list [][]impl.Call) []string {
	var out []string
	for _, round := range list {
		out = append(out, writtenRound(round))
	}
	return out
}

func equalRounds(round string, times int) [][]impl.Call {
	var out [][]impl.Call
	for range times {
		out = append(out, calls(round))
	}
	return out
}

// flat lists the calls of rounds, one behind the other.
func flat(list [][]impl.Call) []impl.Call {
	var out []impl.Call
	for _, round := range list {
		out = append(out, round...)
	}
	return out
}

type roundCase struct {
	friends int
	rounds  [][]impl.Call
}

func randomRound(r *rand.Rand, friends int) []impl.Call {
	order := r.Perm(friends)
	var out []impl.Call
	for i := 0; i+1 < friends; i += 2 {
		if r.Intn(4) > 0 {
			out = append(out, impl.Call{A: min(order[i], order[i+1]), B: max(order[i], order[i+1])})
		}
	}
	sort.Slice(out, func(i, j int) bool { return out[i].A < out[j].A })
	return out
}

// roundSample returns numbers of friends and random rounds of them, some of which have no calls.
func roundSample() []roundCase {
	r := rand.New(rand.NewSource(11))
	var out []roundCase
	for friends := 1; friends <= impl.MaxFriends; friends++ {
		for n := 0; n <= impl.MaxRounds; n++ {
			for range 4 {
				c := roundCase{friends: friends}
				for range n {
					c.rounds = append(c.rounds, randomRound(r, friends))
				}
				out = append(out, c)
			}
		}
		out = append(out, roundCase{friends, make([][]impl.Call, 20)})
	}
	return out
}

// Promise 3: the document's examples.
func TestRoundExamples(t *testing.T) {
	four := rounds("01-23/02-13")
	known, ok := impl.KnownByRounds(4, four)
	expect(t, "KnownByRounds", known, ok, [][]int{{0, 1, 2, 3}, {0, 1, 2, 3}, {0, 1, 2, 3}, {0, 1, 2, 3}})
	n, ok := impl.FewestRounds(4)
	expect(t, "FewestRounds(4)", n, ok, 2)
	n, ok = impl.FewestRounds(3)
	expect(t, "FewestRounds(3)", n, ok, 3)
	n, ok = impl.RoundsNeeded(3, rounds("01/02/01"))
	expect(t, "RoundsNeeded of 01/02/01", n, ok, 3)
	list, ok := impl.FirstRounds(3)
	expect(t, "FirstRounds(3)", list, ok, rounds("01/02/01"))
	list, ok = impl.IntoRounds(4, calls("01-23-02-13"))
	expect(t, "IntoRounds", list, ok, four)
	n, ok = impl.SpreadRounds(4, calls("01-12-23"), 0)
	expect(t, "SpreadRounds of 0", n, ok, 3)
	n, ok = impl.SpreadRounds(4, calls("01-12-23"), 1)
	expect(t, "SpreadRounds of 1", n, ok, 2)
	centers, n, ok := impl.CentersOf(4, calls("01-12-23"))
	expect(t, "CentersOf", centers, ok, []int{1, 2})
	expect(t, "CentersOf, rounds", n, ok, 2)
	list, ok = impl.FirstSpread(4, calls("01-12-23"), 1)
	expect(t, "FirstSpread of 1", list, ok, rounds("12/01-23"))
}

// Promise 3: the limits are those of the document.
func TestRoundLimits(t *testing.T) {
	if impl.MaxRounds != 20 || impl.MaxRounded != 6 {
		t.Errorf("got %d and %d", impl.MaxRounds, impl.MaxRounded)
	}
}

// isRoundByModel reports whether calls are a round: each pair of them is looked at.
func isRoundByModel(friends int, round []impl.Call) bool {
	for i, c := range round {
		if c.A < 0 || c.A >= c.B || c.B >= friends {
			return false
		}
		for _, d := range round[:i] {
			if d.A > c.A || d.A == c.A || d.A == c.B || d.B == c.A || d.B == c.B {
				return false
			}
		}
	}
	return true
}

// Promise 3: rounds are valid by their number, and each by its calls, their order and their friends.
func TestAreRounds(t *testing.T) {
	var all []impl.Call
	for a := -1; a < 6; a++ {
		for b := -1; b < 6; b++ {
			all = append(all, impl.Call{A: a, B: b})
		}
	}
	for _, first := range all {
		for _, second := range all {
			for friends := -1; friends < 7; friends++ {
				checkAreRounds(t, friends, []impl.Call{first})
				checkAreRounds(t, friends, []impl.Call{first, second})
			}
			for _, third := range []impl.Call{{A: 0, B: 1}, {A: 2, B: 3}, {A: 4, B: 5}, {A: 3, B: 4}} {
				checkAreRounds(t, 6, []impl.Call{first, second, third})
				checkAreRounds(t, 6, []impl.Call{first, third, second})
			}
		}
	}
	for friends := 1; friends <= impl.MaxFriends; friends++ {
		for _, list := range [][][]impl.Call{nil, {}, {nil}, {{}}, {nil, {}, nil}} {
			if !impl.AreRounds(friends, list) {
				t.Errorf("AreRounds(%d, %v): got false", friends, list)
			}
		}
	}
	for _, friends := range wrongFriends {
		if impl.AreRounds(friends, nil) || impl.AreRounds(friends, rounds("")) || impl.AreRounds(friends, rounds("01")) {
			t.Errorf("AreRounds(%d): got true", friends)
		}
	}
	for _, round := range []string{"", "01", "01-23-45-67-89"} {
		if !impl.AreRounds(10, equalRounds(round, 20)) || impl.AreRounds(10, equalRounds(round, 21)) {
			t.Errorf("20 and 21 rounds %q: want true, then false", round)
		}
	}
}

func checkAreRounds(t *testing.T, friends int, round []impl.Call) {
	t.Helper()
	want := friends >= 1 && isRoundByModel(friends, round)
	for _, list := range [][][]impl.Call{{round}, {nil, round}, {round, nil}} {
		if got := impl.AreRounds(friends, list); got != want {
			t.Errorf("AreRounds(%d, %v): got %v", friends, list, got)
		}
	}
}

// Promise 3: rounds tell what their calls tell one after the other.
func TestRoundsTellWhatTheirCallsTell(t *testing.T) {
	for _, c := range roundSample() {
		want := startHeard(c.friends).after(flat(c.rounds)).lists(c.friends)
		known, ok := impl.KnownByRounds(c.friends, c.rounds)
		expect(t, fmt.Sprint("KnownByRounds ", c), known, ok, want)
		list, ok := impl.CallsOfRounds(c.friends, c.rounds)
		if len(flat(c.rounds)) > 60 {
			expectFail(t, fmt.Sprint("CallsOfRounds ", c), list, ok)
			continue
		}
		expect(t, fmt.Sprint("CallsOfRounds ", c), list, ok, flat(c.rounds))
		known, ok = impl.KnownAfter(c.friends, list)
		expect(t, fmt.Sprint("KnownAfter CallsOfRounds ", c), known, ok, want)
	}
}

// Promise 3: calls of a round are as many as may be, in many rounds more than a list may have.
func TestCallsOfRoundsLimit(t *testing.T) {
	full := equalRounds("01-23-45-67-89", 12)
	list, ok := impl.CallsOfRounds(10, full)
	expect(t, "CallsOfRounds of 60 calls", list, ok, flat(full))
	list, ok = impl.CallsOfRounds(10, append(full, calls("01")))
	expectFail(t, "CallsOfRounds of 61 calls", list, ok)
	list, ok = impl.CallsOfRounds(10, equalRounds("01-23-45-67-89", 20))
	expectFail(t, "CallsOfRounds of 100 calls", list, ok)
	known, ok := impl.KnownByRounds(10, equalRounds("01-23-45-67-89", 20))
	expect(t, "KnownByRounds of 100 calls", known, ok, startHeard(10).after(calls("01-23-45-67-89")).lists(10))
	list, ok = impl.CallsOfRounds(3, nil)
	expect(t, "CallsOfRounds of none", list, ok, []impl.Call{})
	list, ok = impl.CallsOfRounds(3, rounds("//"))
	expect(t, "CallsOfRounds of three without calls", list, ok, []impl.Call{})
}

// Promise 3: the rounds that are needed are those behind which all know for the first time.
func TestRoundsNeeded(t *testing.T) {
	for _, c := range roundSample() {
		want := -1
		for n := len(c.rounds); n >= 0; n-- {
			if startHeard(c.friends).after(flat(c.rounds[:n])).count() == c.friends*c.friends {
				want = n
			}
		}
		n, ok := impl.RoundsNeeded(c.friends, c.rounds)
		if want < 0 {
			expectFail(t, fmt.Sprint("RoundsNeeded ", c), n, ok)
		} else {
			expect(t, fmt.Sprint("RoundsNeeded ", c), n, ok, want)
		}
	}
	for s, want := range map[string]int{"01-23//02-13//": 3, "/01-23/02-13": 3, "01-23/02-13": 2, "01/01-23/02-13/03": 3} {
		n, ok := impl.RoundsNeeded(4, rounds(s))
		expect(t, "RoundsNeeded of "+s, n, ok, want)
	}
	for _, s := range []string{".", "", "01-23", "01-23/01-23", "01/02/03"} {
		n, ok := impl.RoundsNeeded(4, rounds(s))
		expectFail(t, "RoundsNeeded of "+s, n, ok)
	}
	for _, s := range []string{".", "", "//"} {
		n, ok := impl.RoundsNeeded(1, rounds(s))
		expect(t, "RoundsNeeded of one friend", n, ok, 0)
	}
}

// intoModel puts calls into rounds, looking back from the last round for one that shares a friend.
func intoModel(list []impl.Call) [][]impl.Call {
	var out [][]impl.Call
	for _, c := range list {
		place := len(out)
		for place > 0 && !sharesFriend(out[place-1], c) {
			place--
		}
		if place == len(out) {
			out = append(out, nil)
		}
		out[place] = append(out[place], c)
	}
	for _, round := range out {
		sort.Slice(round, func(i, j int) bool { return round[i].A < round[j].A })
	}
	return out
}

func sharesFriend(round []impl.Call, c impl.Call) bool {
	for _, d := range round {
		if d.A == c.A || d.A == c.B || d.B == c.A || d.B == c.B {
			return true
		}
	}
	return false
}

// Promise 3: calls are put into rounds that tell the same.
func TestIntoRounds(t *testing.T) {
	for _, c := range sample() {
		want := intoModel(c.calls)
		got, ok := impl.IntoRounds(c.friends, c.calls)
		if len(want) > 20 {
			expectFail(t, fmt.Sprint("IntoRounds ", c), got, ok)
			continue
		}
		expect(t, fmt.Sprint("IntoRounds ", c), got, ok, want)
		if !impl.AreRounds(c.friends, got) {
			t.Errorf("IntoRounds %v: %v are no rounds", c, got)
		}
		known, ok := impl.KnownByRounds(c.friends, got)
		expect(t, fmt.Sprint("KnownByRounds IntoRounds ", c), known, ok, startHeard(c.friends).after(c.calls).lists(c.friends))
	}
	for s, want := range map[string]string{
		"":               ".",
		"23-01":          "01-23",
		"89-67-45-23-01": "01-23-45-67-89",
		"01-12-34":       "01-34/12",
		"01-02-34-34-15": "01-34/02-15-34",
		"45-01-12-45-03": "01-45/03-12-45",
	} {
		got, ok := impl.IntoRounds(10, calls(s))
		expect(t, "IntoRounds of "+s, got, ok, rounds(want))
	}
	got, ok := impl.IntoRounds(3, repeated(impl.Call{A: 0, B: 2}, 20))
	expect(t, "IntoRounds of 20", got, ok, equalRounds("02", 20))
	got, ok = impl.IntoRounds(3, repeated(impl.Call{A: 0, B: 2}, 21))
	expectFail(t, "IntoRounds of 21", got, ok)
}

// allRounds returns all rounds of so many friends in order.
func allRounds(friends int) [][]impl.Call {
	pairs := pairsOf(friends)
	var out [][]impl.Call
	for chosen := range 1 << len(pairs) {
		var round []impl.Call
		for i, c := range pairs {
			if chosen&(1<<i) != 0 {
				round = append(round, c)
			}
		}
		if isRoundByModel(friends, round) {
			out = append(out, round)
		}
	}
	sort.Slice(out, func(i, j int) bool { return writtenRound(out[i]) < writtenRound(out[j]) })
	return out
}

// knowAllByBits reports whether all know behind the rounds with some indices.
func knowAllByBits(friends int, all [][]impl.Call, indices []int) bool {
	var news [10]uint
	for f := range friends {
		news[f] = 1 << f
	}
	for _, i := range indices {
		for _, c := range all[i] {
			news[c.A] |= news[c.B]
			news[c.B] = news[c.A]
		}
	}
	for f := range friends {
		if news[f] != 1<<friends-1 {
			return false
		}
	}
	return true
}

// firstByCounting looks at all lists of so many rounds in order, as an odometer does.
func firstByCounting(friends int, all [][]impl.Call, n int) ([][]impl.Call, bool) {
	indices := make([]int, n)
	for {
		if knowAllByBits(friends, all, indices) {
			var out [][]impl.Call
			for _, i := range indices {
				out = append(out, all[i])
			}
			return out, true
		}
		k := n - 1
		for k >= 0 && indices[k] == len(all)-1 {
			indices[k] = 0
			k--
		}
		if k < 0 {
			return nil, false
		}
		indices[k]++
	}
}

// Promise 3: the first rounds are the first ones of all lists that are so short, and there are no shorter ones.
func TestFewestAndFirstRounds(t *testing.T) {
	fewest := []int{0, 0, 1, 3, 2, 4, 3}
	for friends := 1; friends <= impl.MaxRounded; friends++ {
		n, ok := impl.FewestRounds(friends)
		expect(t, fmt.Sprintf("FewestRounds(%d)", friends), n, ok, fewest[friends])
		all := allRounds(friends)
		for less := range fewest[friends] {
			if list, found := firstByCounting(friends, all, less); found {
				t.Errorf("%d friends: all know behind %v", friends, list)
			}
		}
		want, found := firstByCounting(friends, all, fewest[friends])
		got, ok := impl.FirstRounds(friends)
		expect(t, fmt.Sprintf("FirstRounds(%d)", friends), got, ok && found, want)
	}
	for _, friends := range append([]int{7, 8, 9, 10}, wrongFriends...) {
		n, ok := impl.FewestRounds(friends)
		expectFail(t, fmt.Sprintf("FewestRounds(%d)", friends), n, ok)
		got, ok := impl.FirstRounds(friends)
		expectFail(t, fmt.Sprintf("FirstRounds(%d)", friends), got, ok)
	}
}

// Promise 3: rounds that double what is known tell all, in as few rounds as doubling can.
func TestDoublingRounds(t *testing.T) {
	for friends, want := range map[int]string{
		2:  "01",
		4:  "03-12/01-23",
		6:  "05-12-34/03-14-25/05-12-34",
		8:  "07-12-34-56/05-14-27-36/01-23-45-67",
		10: "09-12-34-56-78/07-14-29-36-58/03-18-25-47-69/05-16-27-38-49",
	} {
		got, ok := impl.DoublingRounds(friends)
		expect(t, fmt.Sprintf("DoublingRounds(%d)", friends), got, ok, rounds(want))
		n, ok := impl.RoundsNeeded(friends, got)
		expect(t, fmt.Sprintf("RoundsNeeded of DoublingRounds(%d)", friends), n, ok, bits.Len(uint(friends-1)))
	}
	for _, friends := range append([]int{1, 3, 5, 7, 9, 12, -2, math.MaxInt - 1}, wrongFriends...) {
		got, ok := impl.DoublingRounds(friends)
		expectFail(t, fmt.Sprintf("DoublingRounds(%d)", friends), got, ok)
	}
}

// pairCase is a number of friends with pairs of them.
type pairCase struct {
	friends int
	pairs   []impl.Call
}

// pairSample returns all pairs of at most 4 friends, and some of more: lines, circles, stars, all of them, and random ones.
func pairSample() []pairCase {
	var out []pairCase
	for friends := 1; friends <= 4; friends++ {
		for chosen := range 1 << len(pairsOf(friends)) {
			out = append(out, pairCase{friends, pairsThat(friends, func(i int, c impl.Call) bool { return chosen&(1<<i) != 0 })})
		}
	}
	r := rand.New(rand.NewSource(12))
	for friends := 5; friends <= 8; friends++ {
		last := friends - 1
		for _, fits := range []func(i int, c impl.Call) bool{
			func(i int, c impl.Call) bool { return c.B == c.A+1 },
			func(i int, c impl.Call) bool { return c.B == c.A+1 || c.B-c.A == last },
			func(i int, c impl.Call) bool { return c.A == 0 },
			func(i int, c impl.Call) bool { return c.A == 2 || c.B == 2 },
			func(i int, c impl.Call) bool { return true },
			func(i int, c impl.Call) bool { return false },
			func(i int, c impl.Call) bool { return (c.B-1)/2 == c.A },
			func(i int, c impl.Call) bool { return c.B != last },
		} {
			out = append(out, pairCase{friends, pairsThat(friends, fits)})
		}
		for range 12 {
			dense := 2 + r.Intn(7)
			out = append(out, pairCase{friends, pairsThat(friends, func(i int, c impl.Call) bool { return r.Intn(10) < dense })})
		}
	}
	return out
}

func pairsThat(friends int, fit func(i int, c impl.Call) bool) []impl.Call {
	var out []impl.Call
	for i, c := range pairsOf(friends) {
		if fit(i, c) {
			out = append(out, c)
		}
	}
	return out
}

// spreadModel finds how news spread by asking each friend who does not know them by whom this one is told.
type spreadModel struct {
	pairCase
	may    map[[2]int]bool
	steps  map[int][]spreadStep // from each set of friends who know
	firsts map[[2]int][]string  // by the set and the number of rounds
}

// spreadStep is a round in which news spread, with the set of friends who know them behind it.
type spreadStep struct {
	round  []impl.Call
	behind int
}

func newSpreadModel(c pairCase) *spreadModel {
	m := &spreadModel{c, map[[2]int]bool{}, map[int][]spreadStep{}, map[[2]int][]string{}}
	for _, p := range c.pairs {
		m.may[[2]int{p.A, p.B}], m.may[[2]int{p.B, p.A}] = true, true
	}
	return m
}

func (m *spreadModel) stepsFrom(set int) []spreadStep {
	if _, done := m.steps[set]; !done {
		m.ask(0, set, 0, spreadStep{nil, set})
	}
	return m.steps[set]
}

// ask decides for the friend, and then for those behind, whether they are told by one of a set who is not busy.
func (m *spreadModel) ask(friend int, set int, busy int, step spreadStep) {
	if friend == m.friends {
		sort.Slice(step.round, func(i, j int) bool { return step.round[i].A < step.round[j].A })
		m.steps[set] = append(m.steps[set], step)
		return
	}
	m.ask(friend+1, set, busy, spreadStep{slices.Clone(step.round), step.behind})
	for by := range m.friends {
		if m.may[[2]int{by, friend}] && set&(1<<friend) == 0 && set&(1<<by) != 0 && busy&(1<<by) == 0 {
			c := impl.Call{A: min(by, friend), B: max(by, friend)}
			m.ask(friend+1, set, busy|1<<by, spreadStep{append(slices.Clone(step.round), c), step.behind | 1<<friend})
		}
	}
}

// most returns how many friends at most know the news of one behind 0, 1, .. and MaxRounds rounds.
func (m *spreadModel) most(friend int) []int {
	var out []int
	var reached [256]bool
	reached[1<<friend] = true
	for len(out) <= impl.MaxRounds {
		best := 0
		before := reached
		for set, is := range before {
			if is {
				best = max(best, bits.OnesCount(uint(set)))
				for _, step := range m.stepsFrom(set) {
					reached[step.behind] = true
				}
			}
		}
		out = append(out, best)
		for before == reached && len(out) <= impl.MaxRounds {
			out = append(out, best)
		}
	}
	return out
}

// first returns the first list of so many rounds in which news come from a set to all, or nil if there is none.
func (m *spreadModel) first(set int, n int) []string {
	if n == 0 {
		if set == 1<<m.friends-1 {
			return []string{}
		}
		return nil
	}
	key := [2]int{set, n}
	if found, done := m.firsts[key]; done {
		return found
	}
	var least []string
	for _, step := range m.stepsFrom(set) {
		if rest := m.first(step.behind, n-1); rest != nil {
			list := append([]string{writtenRound(step.round)}, rest...)
			if least == nil || slices.Compare(list, least) < 0 {
				least = list
			}
		}
	}
	m.firsts[key] = least
	return least
}

// Promise 3: news spread in the fewest rounds, in the first list of them, and to the most friends.
func TestSpread(t *testing.T) {
	for _, c := range pairSample() {
		m := newSpreadModel(c)
		wantLeast := math.MaxInt
		var wantCenters []int
		for friend := range c.friends {
			most := m.most(friend)
			for n, want := range most {
				if c.friends > 5 && (friend%3 != 0 || n > c.friends) {
					break // to save time
				}
				got, ok := impl.MostInformed(c.friends, c.pairs, friend, n)
				expect(t, fmt.Sprint("MostInformed ", c, friend, n), got, ok, want)
			}
			needed := checkSpread(t, m, friend, slices.Index(most, c.friends))
			if needed < wantLeast {
				wantLeast, wantCenters = needed, nil
			}
			if needed == wantLeast {
				wantCenters = append(wantCenters, friend)
			}
		}
		centers, n, ok := impl.CentersOf(c.friends, c.pairs)
		if wantLeast < 0 {
			expectFail(t, fmt.Sprint("CentersOf ", c), centers, ok)
			expectFail(t, fmt.Sprint("CentersOf, rounds, ", c), n, ok)
		} else {
			expect(t, fmt.Sprint("CentersOf ", c), centers, ok, wantCenters)
			expect(t, fmt.Sprint("CentersOf, rounds, ", c), n, ok, wantLeast)
		}
	}
}

// checkSpread checks SpreadRounds and FirstSpread against the wanted number of rounds, -1 if news cannot reach all.
func checkSpread(t *testing.T, m *spreadModel, friend int, want int) int {
	t.Helper()
	n, ok := impl.SpreadRounds(m.friends, m.pairs, friend)
	list, fine := impl.FirstSpread(m.friends, m.pairs, friend)
	if want < 0 {
		expectFail(t, fmt.Sprint("SpreadRounds ", m.pairCase, friend), n, ok)
		expectFail(t, fmt.Sprint("FirstSpread ", m.pairCase, friend), list, fine)
		return want
	}
	expect(t, fmt.Sprint("SpreadRounds ", m.pairCase, friend), n, ok, want)
	expect(t, fmt.Sprint("FirstSpread ", m.pairCase, friend), writtenRounds(list), fine, m.first(1<<friend, want))
	who, ok := impl.WhoKnows(m.friends, flat(list), friend)
	if !ok || len(who) != m.friends || !impl.AreRounds(m.friends, list) {
		t.Errorf("FirstSpread %v %d: %v tell %v", m.pairCase, friend, list, who)
	}
	return want
}

// Promise 3: news spread along lines, from the middle of stars, and among all, as is known without a search.
func TestKnownSpreads(t *testing.T) {
	for friends := 2; friends <= 8; friends++ {
		line := pairsThat(friends, func(i int, c impl.Call) bool { return c.B == c.A+1 })
		star := pairsThat(friends, func(i int, c impl.Call) bool { return c.A == 0 })
		for friend := range friends {
			left, right := friend, friends-1-friend
			want := max(left, right)
			if left == right {
				want++
			}
			n, ok := impl.SpreadRounds(friends, line, friend)
			expect(t, fmt.Sprintf("SpreadRounds in a line of %d from %d", friends, friend), n, ok, want)
			n, ok = impl.SpreadRounds(friends, star, friend)
			expect(t, fmt.Sprintf("SpreadRounds in a star of %d from %d", friends, friend), n, ok, friends-1)
			n, ok = impl.SpreadRounds(friends, pairsOf(friends), friend)
			expect(t, fmt.Sprintf("SpreadRounds among all %d from %d", friends, friend), n, ok, bits.Len(uint(friends-1)))
		}
		for n := range impl.MaxRounds + 1 {
			got, ok := impl.MostInformed(friends, star, 1, n)
			expect(t, fmt.Sprintf("MostInformed in a star of %d, %d rounds", friends, n), got, ok, min(friends, n+1))
			got, ok = impl.MostInformed(friends, pairsOf(friends), 1, n)
			expect(t, fmt.Sprintf("MostInformed among all %d, %d rounds", friends, n), got, ok, min(friends, 1<<n))
			got, ok = impl.MostInformed(friends, nil, 0, n)
			expect(t, fmt.Sprintf("MostInformed without pairs, %d rounds", n), got, ok, 1)
		}
	}
	list, ok := impl.FirstSpread(8, pairsOf(8), 5)
	expect(t, "FirstSpread among all 8 from 5", list, ok, rounds("05/01-25/03-14-26-57"))
	list, ok = impl.FirstSpread(1, nil, 0)
	expect(t, "FirstSpread of one friend", list, ok, rounds("."))
	centers, n, ok := impl.CentersOf(1, nil)
	expect(t, "CentersOf one friend", centers, ok, []int{0})
	expect(t, "CentersOf one friend, rounds", n, ok, 0)
}

// spreadsAll calls each function that takes pairs.
func spreadsAll(friends int, pairs []impl.Call, friend int, rounds int) map[string][2]any {
	out := map[string][2]any{}
	n, ok := impl.SpreadRounds(friends, pairs, friend)
	out["SpreadRounds"] = [2]any{n, ok}
	list, ok := impl.FirstSpread(friends, pairs, friend)
	out["FirstSpread"] = [2]any{list, ok}
	n, ok = impl.MostInformed(friends, pairs, friend, rounds)
	out["MostInformed"] = [2]any{n, ok}
	return out
}

// Promise 3: what is none of the arguments that are required makes the functions of pairs fail.
func TestWrongSpreads(t *testing.T) {
	fails := func(what string, friends int, pairs []impl.Call, friend int, rounds int) {
		t.Helper()
		for name, result := range spreadsAll(friends, pairs, friend, rounds) {
			expectFail(t, name+" "+what, result[0], result[1].(bool))
		}
	}
	failsForAll := func(what string, friends int, pairs []impl.Call) {
		t.Helper()
		fails(what, friends, pairs, 0, 1)
		centers, n, ok := impl.CentersOf(friends, pairs)
		expectFail(t, "CentersOf "+what, centers, ok)
		expectFail(t, "CentersOf, rounds, "+what, n, ok)
	}
	for _, friends := range append([]int{9, 10}, wrongFriends...) {
		failsForAll(fmt.Sprint("of friends ", friends), friends, calls("01-02"))
		failsForAll(fmt.Sprint("of friends without pairs ", friends), friends, nil)
	}
	for _, s := range []string{"01-01-12", "12-01", "02-01-12", "01-12-02", "01-12-12"} {
		failsForAll("of pairs out of order "+s, 3, calls(s))
	}
	for _, wrong := range wrongCalls() {
		failsForAll(fmt.Sprint("of a wrong pair ", wrong), 3, append(calls("01-12"), wrong))
		failsForAll(fmt.Sprint("of a wrong first pair ", wrong), 3, append([]impl.Call{wrong}, calls("12")...))
	}
	failsForAll("of too many pairs", 2, repeated(impl.Call{A: 0, B: 1}, 61))
	for _, friend := range []int{math.MinInt, -1, 3, 4, math.MaxInt} {
		fails(fmt.Sprint("of the friend ", friend), 3, calls("01-12"), friend, 1)
	}
	for _, n := range []int{math.MinInt, -1, 21, 22, math.MaxInt} {
		got, ok := impl.MostInformed(3, calls("01-12"), 0, n)
		expectFail(t, fmt.Sprint("MostInformed in rounds ", n), got, ok)
	}
	got, ok := impl.MostInformed(3, calls("01-12"), 0, 20)
	expect(t, "MostInformed in 20 rounds", got, ok, 3)
	got, ok = impl.MostInformed(3, calls("01-12"), 0, 0)
	expect(t, "MostInformed in no rounds", got, ok, 1)
}

// wrongRounds are no rounds of three friends.
func wrongRounds() [][][]impl.Call {
	out := [][][]impl.Call{rounds("01-01"), rounds("01-12"), rounds("12-01"), rounds("02-12"), rounds("02-01"), equalRounds("01", 21), equalRounds("", 21)}
	for _, wrong := range wrongCalls() {
		out = append(out, [][]impl.Call{{wrong}}, [][]impl.Call{calls("01"), {wrong}}, [][]impl.Call{{wrong}, nil})
	}
	return out
}

// Promise 3: what are no rounds makes the functions of rounds fail.
func TestWrongRounds(t *testing.T) {
	fails := func(friends int, list [][]impl.Call) {
		t.Helper()
		known, ok := impl.KnownByRounds(friends, list)
		expectFail(t, fmt.Sprint("KnownByRounds ", friends, list), known, ok)
		n, ok := impl.RoundsNeeded(friends, list)
		expectFail(t, fmt.Sprint("RoundsNeeded ", friends, list), n, ok)
		got, ok := impl.CallsOfRounds(friends, list)
		expectFail(t, fmt.Sprint("CallsOfRounds ", friends, list), got, ok)
	}
	for _, list := range wrongRounds() {
		fails(3, list)
	}
	for _, friends := range wrongFriends {
		fails(friends, nil)
		fails(friends, rounds("01"))
		got, ok := impl.IntoRounds(friends, nil)
		expectFail(t, fmt.Sprint("IntoRounds ", friends), got, ok)
		got, ok = impl.IntoRounds(friends, calls("01"))
		expectFail(t, fmt.Sprint("IntoRounds ", friends), got, ok)
	}
	for _, wrong := range wrongCalls() {
		got, ok := impl.IntoRounds(3, append(calls("01"), wrong))
		expectFail(t, fmt.Sprint("IntoRounds ", wrong), got, ok)
	}
	got, ok := impl.IntoRounds(10, append(calls("01-23-45-67-89"), repeated(impl.Call{A: 0, B: 1}, 56)...))
	expectFail(t, "IntoRounds of 61 calls", got, ok)
}

// Promise 3: texts of rounds are read as they are written, and no other ones are read.
func TestRoundsText(t *testing.T) {
	for s, list := range map[string][][]impl.Call{
		".":                     nil,
		"":                      {nil},
		"/":                     {nil, nil},
		"01":                    {calls("01")},
		"01/":                   {calls("01"), nil},
		"/01":                   {nil, calls("01")},
		"01-23/02-13":           {calls("01-23"), calls("02-13")},
		"09-18-27-36-45//89":    {calls("09-18-27-36-45"), nil, calls("89")},
		strings.Repeat("/", 19): make([][]impl.Call, 20),
		strings.Repeat("01-23-45-67-89/", 19) + "01": append(equalRounds("01-23-45-67-89", 19), calls("01")),
	} {
		text, ok := impl.RoundsText(list)
		expect(t, fmt.Sprint("RoundsText ", list), text, ok, s)
		read, ok := impl.ParseRounds(s)
		expect(t, "ParseRounds "+s, read, ok, list)
	}
	for _, c := range roundSample() {
		want := strings.Join(writtenRounds(c.rounds), "/")
		if len(c.rounds) == 0 {
			want = "."
		}
		text, ok := impl.RoundsText(c.rounds)
		expect(t, fmt.Sprint("RoundsText ", c), text, ok, want)
		read, ok := impl.ParseRounds(text)
		expect(t, "ParseRounds "+text, read, ok, c.rounds)
	}
	for _, list := range [][][]impl.Call{rounds("01-01"), rounds("01/01-12"), rounds("12-03"), {{{A: 0, B: 10}}}, {{{A: 1, B: 0}}}, {{{A: -1, B: 1}}}, equalRounds("", 21), equalRounds("01", 21)} {
		text, ok := impl.RoundsText(list)
		expectFail(t, fmt.Sprint("RoundsText ", list), text, ok)
	}
}

// Promise 3: a text that is no RoundsText is not read.
func TestWrongRoundsTexts(t *testing.T) {
	for _, s := range []string{
		"..", "./", "/.", "./.", "01/.", ".01", " ", "01 /23", "01/ ", "01\n", "0", "1", "012", "01-", "-01", "01--23", "-", "/-", "01-/23",
		"10", "00", "01-01", "01-12", "23-01", "01/23-01", "02-01", "0a", "a1", "01,23", "01;23", "0\x001", "\xff\xff", "01\\23", "０１",
		strings.Repeat("/", 20), strings.Repeat("01/", 20) + "01", strings.Repeat("/", 1000), strings.Repeat("01-", 60) + "01", strings.Repeat("/", 5000000),
	} {
		read, ok := impl.ParseRounds(s)
		expectFail(t, fmt.Sprintf("ParseRounds %.40q", s), read, ok)
	}
}
