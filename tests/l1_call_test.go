package tests

import (
	"fmt"
	"math"
	"math/rand"
	"strings"
	"testing"

	"loop.example/g01316/impl"
)

// heard is who knows whose news, kept apart from the way the package keeps it.
type heard map[int]map[int]bool

func startHeard(friends int) heard {
	h := heard{}
	for f := range friends {
		h[f] = map[int]bool{f: true}
	}
	return h
}

// talk makes a call and returns how many news both of its friends come to know.
func (h heard) talk(c impl.Call) int {
	learned := 0
	both := map[int]bool{}
	for _, f := range []int{c.A, c.B} {
		for news := range h[f] {
			both[news] = true
		}
	}
	for _, f := range []int{c.A, c.B} {
		learned += len(both) - len(h[f])
		h[f] = map[int]bool{}
		for news := range both {
			h[f][news] = true
		}
	}
	return learned
}

func (h heard) after(list []impl.Call) heard {
	for _, c := range list {
		h.talk(c)
	}
	return h
}

func (h heard) lists(friends int) [][]int {
	out := make([][]int, friends)
	for f := range friends {
		for news := range friends {
			if h[f][news] {
				out[f] = append(out[f], news)
			}
		}
	}
	return out
}

func (h heard) count() int {
	n := 0
	for _, known := range h {
		n += len(known)
	}
	return n
}

func without(list []impl.Call, k int) []impl.Call {
	var out []impl.Call
	for i, c := range list {
		if i != k {
			out = append(out, c)
		}
	}
	return out
}

// Promise 1: the document's examples.
func TestCallExamples(t *testing.T) {
	n, ok := impl.FewestCalls(4)
	expect(t, "FewestCalls(4)", n, ok, 4)
	whole, ok := impl.AllKnow(4, calls("01-23-02-13"))
	expect(t, "AllKnow of 01-23-02-13", whole, ok, true)
	n, ok = impl.LearnedIn(4, calls("01-23-02-13"), 2)
	expect(t, "LearnedIn call 2", n, ok, 4)
	known, ok := impl.KnownAfter(3, calls("01-12"))
	expect(t, "KnownAfter of 01-12", known, ok, [][]int{{0, 1}, {0, 1, 2}, {0, 1, 2}})
	back, ok := impl.BackCalls(3, calls("01-12"))
	expect(t, "BackCalls of 01-12", back, ok, calls("12-01"))
	known, ok = impl.KnownAfter(3, back)
	expect(t, "KnownAfter of 12-01", known, ok, [][]int{{0, 1, 2}, {0, 1, 2}, {1, 2}})
	plan, ok := impl.TablePlan(3)
	expect(t, "TablePlan(3)", plan, ok, calls("01-02-01"))
	k, ok := impl.NeedlessCalls(2, calls("01-01"))
	expect(t, "NeedlessCalls of 01-01", k, ok, []int{0, 1})
	k, ok = impl.IdleCalls(2, calls("01-01"))
	expect(t, "IdleCalls of 01-01", k, ok, []int{1})
}

// Promise 1: calls are valid by their number, their friends and their order alone.
func TestAreCalls(t *testing.T) {
	for friends := 1; friends <= impl.MaxFriends; friends++ {
		for a := -2; a < 13; a++ {
			for b := -2; b < 13; b++ {
				want := 0 <= a && a < b && b < friends
				if got := impl.AreCalls(friends, []impl.Call{{A: a, B: b}}); got != want {
					t.Errorf("AreCalls(%d, %d%d): got %v", friends, a, b, got)
				}
			}
		}
		if !impl.AreCalls(friends, nil) || !impl.AreCalls(friends, []impl.Call{}) {
			t.Errorf("AreCalls(%d, none): got false", friends)
		}
	}
	for _, friends := range wrongFriends {
		if impl.AreCalls(friends, nil) || impl.AreCalls(friends, calls("01")) {
			t.Errorf("AreCalls(%d): got true", friends)
		}
	}
	if !impl.AreCalls(2, repeated(impl.Call{A: 0, B: 1}, 60)) {
		t.Error("60 calls: got false")
	}
	if impl.AreCalls(2, repeated(impl.Call{A: 0, B: 1}, 61)) {
		t.Error("61 calls: got true")
	}
	for _, wrong := range wrongCalls() {
		for at := range 3 {
			list := calls("01-12-02")
			list[at] = wrong
			if impl.AreCalls(3, list) {
				t.Errorf("AreCalls with %v at %d: got true", wrong, at)
			}
		}
	}
}

// wrongCalls are no calls of three friends.
func wrongCalls() []impl.Call {
	return []impl.Call{{A: 0, B: 0}, {A: 2, B: 2}, {A: 1, B: 0}, {A: 2, B: 1}, {A: 0, B: 3}, {A: -1, B: 1}, {A: -1, B: -1}, {A: 3, B: 4},
		{A: math.MinInt, B: 0}, {A: 0, B: math.MaxInt}, {A: math.MinInt, B: math.MaxInt}, {A: math.MaxInt, B: math.MaxInt}, {A: 64, B: 65}}
}

// Promise 1: what is known goes call by call, as in a model of its own.
func TestKnownGoesCallByCall(t *testing.T) {
	for _, c := range sample() {
		name := fmt.Sprint(c)
		h := startHeard(c.friends).after(c.calls)
		known, ok := impl.KnownAfter(c.friends, c.calls)
		expect(t, "KnownAfter "+name, known, ok, h.lists(c.friends))
		n, ok := impl.CountKnown(c.friends, c.calls)
		expect(t, "CountKnown "+name, n, ok, h.count())
		whole, ok := impl.AllKnow(c.friends, c.calls)
		expect(t, "AllKnow "+name, whole, ok, h.count() == c.friends*c.friends)
		for friend := range c.friends {
			var want []int
			for f := range c.friends {
				if h[f][friend] {
					want = append(want, f)
				}
			}
			who, ok := impl.WhoKnows(c.friends, c.calls, friend)
			expect(t, fmt.Sprint("WhoKnows ", name, friend), who, ok, want)
		}
	}
}

// Promise 1: known news, told by hand.
func TestKnownOfOrdinaryCalls(t *testing.T) {
	known, ok := impl.KnownAfter(1, nil)
	expect(t, "one friend", known, ok, [][]int{{0}})
	known, ok = impl.KnownAfter(4, calls("02-23-01"))
	expect(t, "02-23-01", known, ok, [][]int{{0, 1, 2}, {0, 1, 2}, {0, 2, 3}, {0, 2, 3}})
	who, ok := impl.WhoKnows(4, calls("02-23-01"), 2)
	expect(t, "who knows 2", who, ok, []int{0, 1, 2, 3})
	who, ok = impl.WhoKnows(4, calls("02-23-01"), 3)
	expect(t, "who knows 3", who, ok, []int{2, 3})
	who, ok = impl.WhoKnows(4, nil, 3)
	expect(t, "who knows 3 before", who, ok, []int{3})
	n, ok := impl.CountKnown(4, calls("02-23-01"))
	expect(t, "count", n, ok, 12)
	n, ok = impl.CountKnown(10, nil)
	expect(t, "count before", n, ok, 10)
	whole, ok := impl.AllKnow(1, nil)
	expect(t, "one friend knows all", whole, ok, true)
	whole, ok = impl.AllKnow(2, nil)
	expect(t, "two friends do not", whole, ok, false)
}

// Promise 1: the least number of calls behind which all know.
func TestCallsNeeded(t *testing.T) {
	n, ok := impl.CallsNeeded(1, nil)
	expect(t, "one friend", n, ok, 0)
	n, ok = impl.CallsNeeded(2, calls("01-01-01"))
	expect(t, "two friends", n, ok, 1)
	n, ok = impl.CallsNeeded(4, calls("01-23-02-13-01-23"))
	expect(t, "four friends", n, ok, 4)
	n, ok = impl.CallsNeeded(4, calls("01-23-02-13"))
	expect(t, "by the last call", n, ok, 4)
	n, ok = impl.CallsNeeded(4, calls("01-23-02"))
	expectFail(t, "never", n, ok)
	n, ok = impl.CallsNeeded(2, nil)
	expectFail(t, "no calls", n, ok)
	for _, c := range sample() {
		want := -1
		h := startHeard(c.friends)
		for k := 0; k <= len(c.calls); k++ {
			if h.count() == c.friends*c.friends {
				want = k
				break
			}
			if k < len(c.calls) {
				h.talk(c.calls[k])
			}
		}
		n, ok := impl.CallsNeeded(c.friends, c.calls)
		if want < 0 {
			expectFail(t, fmt.Sprint("CallsNeeded ", c), n, ok)
		} else {
			expect(t, fmt.Sprint("CallsNeeded ", c), n, ok, want)
		}
	}
}

// Promise 1: what is learned in each call, and in which ones nothing is.
func TestLearnedInAndIdleCalls(t *testing.T) {
	for _, c := range sample() {
		var idle []int
		h := startHeard(c.friends)
		for k, call := range c.calls {
			want := h.talk(call)
			if want == 0 {
				idle = append(idle, k)
			}
			n, ok := impl.LearnedIn(c.friends, c.calls, k)
			expect(t, fmt.Sprint("LearnedIn ", c, k), n, ok, want)
		}
		got, ok := impl.IdleCalls(c.friends, c.calls)
		expect(t, fmt.Sprint("IdleCalls ", c), got, ok, idle)
	}
	n, ok := impl.LearnedIn(3, calls("01-12-01"), 1)
	expect(t, "unequal learning", n, ok, 3)
	n, ok = impl.LearnedIn(3, calls("01-12-01"), 2)
	expect(t, "one learns", n, ok, 1)
	for _, k := range []int{math.MinInt, -1, 3, 4, math.MaxInt} {
		n, ok = impl.LearnedIn(3, calls("01-12-01"), k)
		expectFail(t, fmt.Sprint("LearnedIn ", k), n, ok)
	}
	n, ok = impl.LearnedIn(3, nil, 0)
	expectFail(t, "LearnedIn none", n, ok)
}

// Promise 1: needless are just those calls without which all know the same.
func TestNeedlessCalls(t *testing.T) {
	for _, c := range sample() {
		whole := startHeard(c.friends).after(c.calls).lists(c.friends)
		var want []int
		for k := range c.calls {
			if same(startHeard(c.friends).after(without(c.calls, k)).lists(c.friends), whole) {
				want = append(want, k)
			}
		}
		got, ok := impl.NeedlessCalls(c.friends, c.calls)
		expect(t, fmt.Sprint("NeedlessCalls ", c), got, ok, want)
	}
	got, ok := impl.NeedlessCalls(4, calls("01-23-02-13-03"))
	expect(t, "an idle one alone", got, ok, []int{4})
	got, ok = impl.NeedlessCalls(4, calls("01-01-23-02-13"))
	expect(t, "one of two", got, ok, []int{0, 1})
}

// Promise 1: calls told backwards tell who knows whose news the other way around.
func TestBackCallsTellTheOtherWay(t *testing.T) {
	for _, c := range sample() {
		back, ok := impl.BackCalls(c.friends, c.calls)
		var want []impl.Call
		for k := len(c.calls) - 1; k >= 0; k-- {
			want = append(want, c.calls[k])
		}
		expect(t, fmt.Sprint("BackCalls ", c), back, ok, want)
		known, fine := impl.KnownAfter(c.friends, back)
		for x := range c.friends {
			who, sure := impl.WhoKnows(c.friends, c.calls, x)
			if !ok || !fine || !sure || !same(known[x], who) {
				t.Errorf("BackCalls %v: %d knows %v, whom %v know", c, x, known[x], who)
			}
		}
	}
}

// Promise 1: renamed friends know what they knew by their former names.
func TestRenameCalls(t *testing.T) {
	got, ok := impl.RenameCalls(4, calls("01-23-02"), []int{3, 1, 0, 2})
	expect(t, "by names", got, ok, calls("13-02-03"))
	got, ok = impl.RenameCalls(1, nil, []int{0})
	expect(t, "one friend", got, ok, []impl.Call(nil))
	r := rand.New(rand.NewSource(2))
	for _, c := range sample() {
		names := r.Perm(c.friends)
		var want []impl.Call
		for _, call := range c.calls {
			a, b := names[call.A], names[call.B]
			if a > b {
				a, b = b, a
			}
			want = append(want, impl.Call{A: a, B: b})
		}
		got, ok := impl.RenameCalls(c.friends, c.calls, names)
		expect(t, fmt.Sprint("RenameCalls ", c, names), got, ok, want)
	}
	wrong := [][]int{nil, {}, {0}, {0, 1}, {0, 1, 2, 3}, {0, 1, 1}, {0, 0, 2}, {2, 1, 2}, {0, 1, 3}, {-1, 0, 1}, {1, 2, 3}, {0, 1, math.MinInt}, {math.MaxInt, 0, 1}, {0, 1, 64}, {0, 1, 66}, {0, 1, 2, 2}}
	for _, names := range wrong {
		got, ok := impl.RenameCalls(3, calls("01-12"), names)
		expectFail(t, fmt.Sprint("RenameCalls ", names), got, ok)
		got, ok = impl.RenameCalls(3, nil, names)
		expectFail(t, fmt.Sprint("RenameCalls of none ", names), got, ok)
	}
}

// Promise 1: the calls of each friend.
func TestCallsOf(t *testing.T) {
	got, ok := impl.CallsOf(4, calls("01-23-02-13"), 3)
	expect(t, "CallsOf 3", got, ok, []int{1, 3})
	got, ok = impl.CallsOf(4, calls("01-02-01"), 3)
	expect(t, "CallsOf none", got, ok, []int(nil))
	for _, c := range sample() {
		for friend := range c.friends {
			var want []int
			for k, call := range c.calls {
				if call.A == friend || call.B == friend {
					want = append(want, k)
				}
			}
			got, ok := impl.CallsOf(c.friends, c.calls, friend)
			expect(t, fmt.Sprint("CallsOf ", c, friend), got, ok, want)
		}
	}
}

// Promise 1: the number of calls that the document tells, which are the fewest by search where that is short.
func TestFewestCalls(t *testing.T) {
	for i, want := range []int{0, 1, 3, 4, 6, 8, 10, 12, 14, 16} {
		n, ok := impl.FewestCalls(i + 1)
		expect(t, fmt.Sprint("FewestCalls ", i+1), n, ok, want)
	}
	for friends := 1; friends <= 5; friends++ {
		n, _ := impl.FewestCalls(friends)
		if n > 0 && firstList(friends, n-1, nil) != nil {
			t.Errorf("FewestCalls(%d): fewer than %d will do", friends, n)
		}
	}
}

// firstList tries all lists of so many calls in order, and returns the text of the first one behind which all know.
func firstList(friends int, left int, list []impl.Call) *string {
	if left == 0 {
		if startHeard(friends).after(list).count() != friends*friends {
			return nil
		}
		text := written(list)
		return &text
	}
	for _, c := range pairsOf(friends) {
		// A list of less than friends - 1 different pairs joins not all of them.
		if different(append(list, c))+left-1 < friends-1 {
			continue
		}
		if text := firstList(friends, left-1, append(list, c)); text != nil {
			return text
		}
	}
	return nil
}

func different(list []impl.Call) int {
	seen := map[impl.Call]bool{}
	for _, c := range list {
		seen[c] = true
	}
	return len(seen)
}

func written(list []impl.Call) string {
	var parts []string
	for _, c := range list {
		parts = append(parts, fmt.Sprint(c.A)+fmt.Sprint(c.B))
	}
	return strings.Join(parts, "-")
}

// Promise 1: the first plan is the first one of all lists of fewest calls.
func TestFirstPlan(t *testing.T) {
	for i, want := range []string{"", "01", "01-02-01", "01-23-02-13"} {
		plan, ok := impl.FirstPlan(i + 1)
		expect(t, fmt.Sprint("FirstPlan ", i+1), plan, ok, calls(want))
	}
	for friends := 1; friends <= 5; friends++ {
		fewest, _ := impl.FewestCalls(friends)
		plan, ok := impl.FirstPlan(friends)
		expect(t, fmt.Sprint("FirstPlan ", friends), written(plan), ok, *firstList(friends, fewest, nil))
	}
	for _, friends := range append([]int{6, 7, 8, 9, 10}, wrongFriends...) {
		plan, ok := impl.FirstPlan(friends)
		expectFail(t, fmt.Sprint("FirstPlan ", friends), plan, ok)
	}
}

// Promise 1: plans of four are as told, of fewest calls, and behind them all know.
func TestFourPlan(t *testing.T) {
	texts := []string{"01-23-02-13", "04-01-23-02-13-04", "04-05-01-23-02-13-04-05", "04-05-06-01-23-02-13-04-05-06"}
	for i, want := range texts {
		plan, ok := impl.FourPlan(i + 4)
		expect(t, fmt.Sprint("FourPlan ", i+4), plan, ok, calls(want))
	}
	plan, ok := impl.FourPlan(10)
	expect(t, "FourPlan 10", plan, ok, calls("04-05-06-07-08-09-01-23-02-13-04-05-06-07-08-09"))
	for friends := 4; friends <= 10; friends++ {
		plan, ok := impl.FourPlan(friends)
		fewest, _ := impl.FewestCalls(friends)
		if !ok || len(plan) != fewest || startHeard(friends).after(plan).count() != friends*friends {
			t.Errorf("FourPlan(%d): %v", friends, plan)
		}
	}
	for _, friends := range append([]int{1, 2, 3}, wrongFriends...) {
		plan, ok := impl.FourPlan(friends)
		expectFail(t, fmt.Sprint("FourPlan ", friends), plan, ok)
	}
}

// Promise 1: plans of the friend 0, behind which all know.
func TestTablePlan(t *testing.T) {
	for i, want := range []string{"", "01", "01-02-01", "01-02-03-01-02", "01-02-03-04-01-02-03"} {
		plan, ok := impl.TablePlan(i + 1)
		expect(t, fmt.Sprint("TablePlan ", i+1), plan, ok, calls(want))
	}
	plan, ok := impl.TablePlan(10)
	expect(t, "TablePlan 10", plan, ok, calls("01-02-03-04-05-06-07-08-09-01-02-03-04-05-06-07-08"))
	for friends := 1; friends <= 10; friends++ {
		plan, ok := impl.TablePlan(friends)
		if !ok || startHeard(friends).after(plan).count() != friends*friends {
			t.Errorf("TablePlan(%d): %v", friends, plan)
		}
	}
}

// Promise 1: texts tell calls, and nothing else is a text of calls.
func TestCallsText(t *testing.T) {
	s, ok := impl.CallsText(nil)
	expect(t, "none", s, ok, "")
	s, ok = impl.CallsText([]impl.Call{{A: 0, B: 9}, {A: 8, B: 9}, {A: 0, B: 9}})
	expect(t, "three", s, ok, "09-89-09")
	for _, c := range sample() {
		s, ok := impl.CallsText(c.calls)
		expect(t, fmt.Sprint("CallsText ", c), s, ok, written(c.calls))
		list, ok := impl.ParseCalls(s)
		expect(t, "ParseCalls "+s, list, ok, c.calls)
	}
	wrong := append(wrongCalls(), impl.Call{A: 9, B: 10}, impl.Call{A: 0, B: 10}, impl.Call{A: 5, B: 4})
	for _, c := range wrong {
		s, ok := impl.CallsText([]impl.Call{{A: 0, B: 1}, c})
		if c.A == 0 && c.B == 3 || c.A == 3 && c.B == 4 {
			expect(t, fmt.Sprint("CallsText ", c), s, ok, "01-"+written([]impl.Call{c}))
			continue
		}
		expectFail(t, fmt.Sprint("CallsText ", c), s, ok)
	}
	s, ok = impl.CallsText(repeated(impl.Call{A: 0, B: 1}, 61))
	expectFail(t, "CallsText of 61", s, ok)
}

func TestParseCalls(t *testing.T) {
	list, ok := impl.ParseCalls("")
	expect(t, "an empty text", list, ok, []impl.Call(nil))
	list, ok = impl.ParseCalls("89-01-01")
	expect(t, "three calls", list, ok, calls("89-01-01"))
	sixty := strings.Repeat("01-", 59) + "01"
	list, ok = impl.ParseCalls(sixty)
	expect(t, "sixty calls", list, ok, repeated(impl.Call{A: 0, B: 1}, 60))
	wrong := []string{"-", "01-", "-01", "01--12", "0", "1", "012", "01-2", "01-023", "0112", "10", "11", "00", "01-21", "01,12", "01 12", " 01", "01 ", "01\n",
		"0a", "a0", "a1", "/1", "0:", ":;", "./", "01-./", "0\x00", "\xff\xff", "é", "٠١", "+1", "-1", "0-1", "1-2", "01_12", "01–12", "01/12", "+1-02", ".", "./", "?", sixty + "-01", sixty + "-", sixty + "-1", strings.Repeat("01-", 1000) + "01", strings.Repeat("-", 1<<16), strings.Repeat("0", 1<<16)}
	for _, s := range wrong {
		list, ok := impl.ParseCalls(s)
		expectFail(t, fmt.Sprintf("ParseCalls %.60q", s), list, ok)
	}
	for a := range 256 {
		for b := range 256 {
			s := string([]byte{byte(a), byte(b)})
			list, ok := impl.ParseCalls(s)
			if '0' <= a && a < b && b <= '9' {
				expect(t, "ParseCalls "+s, list, ok, []impl.Call{{A: a - '0', B: b - '0'}})
			} else {
				expectFail(t, fmt.Sprintf("ParseCalls %q", s), list, ok)
			}
		}
	}
}

// Promise 1: numbers of friends, calls and friends that there are not make each function fail.
func TestWrongArgumentsFail(t *testing.T) {
	wrong := []callCase{{2, repeated(impl.Call{A: 0, B: 1}, 61)}, {3, repeated(impl.Call{A: 0, B: 1}, 500)}}
	for _, friends := range wrongFriends {
		wrong = append(wrong, callCase{friends, nil}, callCase{friends, calls("01")})
		n, ok := impl.FewestCalls(friends)
		expectFail(t, fmt.Sprint("FewestCalls ", friends), n, ok)
		plan, ok := impl.TablePlan(friends)
		expectFail(t, fmt.Sprint("TablePlan ", friends), plan, ok)
	}
	for _, c := range wrongCalls() {
		wrong = append(wrong, callCase{3, []impl.Call{c}}, callCase{3, []impl.Call{{A: 0, B: 1}, c}}, callCase{3, []impl.Call{c, {A: 0, B: 1}}})
	}
	for _, c := range wrong {
		for _, f := range callFunctions() {
			if f.name == "CallsText" {
				continue
			}
			got, ok := f.run(c.friends, c.calls, 0, []int{0, 1, 2}[:min(3, max(0, c.friends))])
			expectFail(t, fmt.Sprint(f.name, " ", c.friends, len(c.calls)), got, ok)
		}
	}
	for _, friend := range []int{math.MinInt, -1, 3, 4, 9, 64, math.MaxInt} {
		list, ok := impl.WhoKnows(3, calls("01-12"), friend)
		expectFail(t, fmt.Sprint("WhoKnows ", friend), list, ok)
		list, ok = impl.CallsOf(3, calls("01-12"), friend)
		expectFail(t, fmt.Sprint("CallsOf ", friend), list, ok)
	}
}
