package impl

import (
	"math/bits"
	"strconv"
	"strings"
)

const MaxFriends = 10
const MaxCalls = 60

type Call struct {
	A int
	B int
}

// friendSet has the bit i if the friend i is in it. News are told by the
// friends whose own they are, so that it is a set of news, too.
type friendSet uint16

func (s friendSet) has(friend int) bool { return s&(1<<friend) != 0 }

func (s friendSet) count() int { return bits.OnesCount16(uint16(s)) }

func (s friendSet) list() []int {
	found := make([]int, 0, s.count())
	for friend := range MaxFriends {
		if s.has(friend) {
			found = append(found, friend)
		}
	}
	return found
}

// knowledge tells the news that each friend knows. Friends that there are not
// know none, so that two values are equal just if all know the same by them.
type knowledge struct {
	friends int
	news    [MaxFriends]friendSet
}

// callers are the two friends of a call, with what each of them knows before it.
type callers struct {
	Call
	newsA friendSet
	newsB friendSet
}

func (c callers) include(friend int) bool { return c.A == friend || c.B == friend }

func (c callers) learnNothing() bool { return c.newsA == c.newsB }

// both returns what both friends know behind the call.
func (c callers) both() friendSet { return c.newsA | c.newsB }

func (c callers) learned() int {
	return 2*c.both().count() - c.newsA.count() - c.newsB.count()
}

func ownNews(friends int) knowledge {
	k := knowledge{friends: friends}
	for friend := range friends {
		k.news[friend] = 1 << friend
	}
	return k
}

func (k knowledge) before(c Call) callers {
	return callers{Call: c, newsA: k.news[c.A], newsB: k.news[c.B]}
}

func (k knowledge) behind(c Call) knowledge { return k.behindCallers(k.before(c)) }

func (k knowledge) behindCallers(c callers) knowledge {
	k.news[c.A] = c.both()
	k.news[c.B] = c.both()
	return k
}

func (k knowledge) behindAll(calls []Call) knowledge {
	for _, c := range calls {
		k = k.behind(c)
	}
	return k
}

func (k knowledge) isWhole() bool {
	return k.count() == k.friends*k.friends
}

func (k knowledge) lists() [][]int {
	known := make([][]int, k.friends)
	for friend := range known {
		known[friend] = k.news[friend].list()
	}
	return known
}

func (k knowledge) count() int {
	sum := 0
	for _, s := range k.news {
		sum += s.count()
	}
	return sum
}

func knowledgeBehind(friends int, calls []Call) knowledge {
	return ownNews(friends).behindAll(calls)
}

func canBeFriends(friends int) bool { return 1 <= friends && friends <= MaxFriends }

func isFriend(friends int, friend int) bool { return 0 <= friend && friend < friends }

// callOf returns the call of two friends, named in whichever order.
func callOf(a int, b int) Call { return Call{A: min(a, b), B: max(a, b)} }

func isCall(friends int, c Call) bool {
	return isFriend(friends, c.A) && isFriend(friends, c.B) && c.A != c.B && c == callOf(c.A, c.B)
}

// allCalls returns the calls that so many friends can make, in order.
func allCalls(friends int) []Call {
	var calls []Call
	for a := range friends {
		for b := a + 1; b < friends; b++ {
			calls = append(calls, Call{A: a, B: b})
		}
	}
	return calls
}

// AreCalls reports whether a list of calls, whose numbers may be any, are calls of so many friends, whatever that number is: they are none where there cannot be so many.
func AreCalls(friends int, calls []Call) bool {
	if !canBeFriends(friends) || len(calls) > MaxCalls {
		return false
	}
	for _, c := range calls {
		if !isCall(friends, c) {
			return false
		}
	}
	return true
}

// KnownAfter returns for each friend whose news this one knows behind all calls, increasing.
func KnownAfter(friends int, calls []Call) ([][]int, bool) {
	if !AreCalls(friends, calls) {
		return nil, false
	}
	return knowledgeBehind(friends, calls).lists(), true
}

// AllKnow reports whether all know then.
func AllKnow(friends int, calls []Call) (bool, bool) {
	if !AreCalls(friends, calls) {
		return false, false
	}
	return knowledgeBehind(friends, calls).isWhole(), true
}

// CountKnown returns how many news all friends know together, each told as often as it is known.
func CountKnown(friends int, calls []Call) (int, bool) {
	if !AreCalls(friends, calls) {
		return 0, false
	}
	return knowledgeBehind(friends, calls).count(), true
}

// WhoKnows returns the friends who know the news of a friend, this one with them, increasing.
func WhoKnows(friends int, calls []Call, friend int) ([]int, bool) {
	if !AreCalls(friends, calls) || !isFriend(friends, friend) {
		return nil, false
	}
	k := knowledgeBehind(friends, calls)
	var who []int
	for other := range friends {
		if k.news[other].has(friend) {
			who = append(who, other)
		}
	}
	return who, true
}

// CallsNeeded returns the least number of calls from the first one on behind which all know. It fails if they do not behind all of them.
func CallsNeeded(friends int, calls []Call) (int, bool) {
	if !AreCalls(friends, calls) {
		return 0, false
	}
	for n := range len(calls) + 1 {
		if knowledgeBehind(friends, calls[:n]).isWhole() {
			return n, true
		}
	}
	return 0, false
}

// LearnedIn returns how many news both friends of the call with an index come to know by it, together.
func LearnedIn(friends int, calls []Call, k int) (int, bool) {
	if !AreCalls(friends, calls) || k < 0 || k >= len(calls) {
		return 0, false
	}
	return knowledgeBehind(friends, calls[:k]).before(calls[k]).learned(), true
}

// IdleCalls returns the indices of the calls by which nobody comes to know anything, increasing.
func IdleCalls(friends int, calls []Call) ([]int, bool) {
	return callsThat(friends, calls, callers.learnNothing)
}

// callsThat returns the indices of the calls whose callers have a property just before them.
func callsThat(friends int, calls []Call, have func(callers) bool) ([]int, bool) {
	if !AreCalls(friends, calls) {
		return nil, false
	}
	var found []int
	known := ownNews(friends)
	for k, c := range calls {
		if have(known.before(c)) {
			found = append(found, k)
		}
		known = known.behind(c)
	}
	return found, true
}

// NeedlessCalls returns the indices of the calls without each of which, one alone, each friend knows the same behind all calls, increasing.
func NeedlessCalls(friends int, calls []Call) ([]int, bool) {
	if !AreCalls(friends, calls) {
		return nil, false
	}
	var found []int
	whole := knowledgeBehind(friends, calls)
	for skipped := range calls {
		if knowledgeWithout(friends, calls, skipped) == whole {
			found = append(found, skipped)
		}
	}
	return found, true
}

func knowledgeWithout(friends int, calls []Call, skipped int) knowledge {
	return knowledgeBehind(friends, calls[:skipped]).behindAll(calls[skipped+1:])
}

// BackCalls returns the calls in the other order: a friend x knows the news of y behind these just if y knows those of x behind the calls themselves.
func BackCalls(friends int, calls []Call) ([]Call, bool) {
	if !AreCalls(friends, calls) {
		return nil, false
	}
	back := make([]Call, len(calls))
	for k, c := range calls {
		back[len(calls)-1-k] = c
	}
	return back, true
}

// RenameCalls returns the calls with each friend i told as names[i]: names are a list of all friends, each once.
func RenameCalls(friends int, calls []Call, names []int) ([]Call, bool) {
	if !AreCalls(friends, calls) || !nameAll(friends, names) {
		return nil, false
	}
	renamed := make([]Call, len(calls))
	for k, c := range calls {
		renamed[k] = callOf(names[c.A], names[c.B])
	}
	return renamed, true
}

// nameAll reports whether names are a list of all of so many friends, or wires (chapter 5), each once.
func nameAll(friends int, names []int) bool {
	if len(names) != friends {
		return false
	}
	var named friendSet
	for _, name := range names {
		if !isFriend(friends, name) || named.has(name) {
			return false
		}
		named |= 1 << name
	}
	return true
}

// CallsOf returns the indices of the calls in which a friend is, increasing.
func CallsOf(friends int, calls []Call, friend int) ([]int, bool) {
	if !isFriend(friends, friend) {
		return nil, false
	}
	return callsThat(friends, calls, func(c callers) bool { return c.include(friend) })
}

// FewestCalls returns the least number of calls behind which all know: 0, 1 and 3 for one, two and three friends, otherwise twice as many as there are friends, less 4.
func FewestCalls(friends int) (int, bool) {
	if !canBeFriends(friends) {
		return 0, false
	}
	if friends < 4 {
		return friends * (friends - 1) / 2, true
	}
	return 2*friends - 4, true
}

// FirstPlan returns the lexicographically first list of so few calls behind which all know, for at most 5 friends.
func FirstPlan(friends int) ([]Call, bool) {
	fewest, ok := FewestCalls(friends)
	if !ok || friends > 5 {
		return nil, false
	}
	plan := make([]Call, fewest)
	if !fillPlan(plan, ownNews(friends), allCalls(friends)) {
		return nil, false
	}
	return plan, true
}

// fillPlan fills rest with the first calls of choices behind which all know,
// if there are such. A plan of fewest calls has no idle one, for it could be
// left out: so these are not tried.
func fillPlan(rest []Call, known knowledge, choices []Call) bool {
	if len(rest) == 0 {
		return known.isWhole()
	}
	for _, c := range choices {
		if known.before(c).learnNothing() {
			continue
		}
		rest[0] = c
		if fillPlan(rest[1:], known.behind(c), choices) {
			return true
		}
	}
	return false
}

// FourPlan returns a list of FewestCalls calls for at least four friends: first each of 4, 5, .. calls 0, in this order; then 0 and 1, 2 and 3, 0 and 2, 1 and 3 call; then each of 4, 5, .. calls 0 again.
func FourPlan(friends int) ([]Call, bool) {
	if !canBeFriends(friends) || friends < 4 {
		return nil, false
	}
	plan := callsOfFirst(4, friends)
	plan = append(plan, Call{A: 0, B: 1}, Call{A: 2, B: 3}, Call{A: 0, B: 2}, Call{A: 1, B: 3})
	return append(plan, callsOfFirst(4, friends)...), true
}

// callsOfFirst returns the calls of the friend 0 with from, from + 1, .. and the one before end.
func callsOfFirst(from int, end int) []Call {
	var calls []Call
	for friend := from; friend < end; friend++ {
		calls = append(calls, Call{A: 0, B: friend})
	}
	return calls
}

// TablePlan returns the calls of 0 with 1, 2, .. in this order, and then with all of them but the last one once more.
func TablePlan(friends int) ([]Call, bool) {
	if !canBeFriends(friends) {
		return nil, false
	}
	return append(callsOfFirst(1, friends), callsOfFirst(1, friends-1)...), true
}

// CallsText returns the two digits of each call, the calls with - between them: an empty text for none.
func CallsText(calls []Call) (string, bool) {
	if !AreCalls(MaxFriends, calls) {
		return "", false
	}
	parts := make([]string, len(calls))
	for k, c := range calls {
		parts[k] = strconv.Itoa(c.A) + strconv.Itoa(c.B)
	}
	return strings.Join(parts, "-"), true
}

// ParseCalls returns the calls with a CallsText, of MaxFriends friends. It fails if there are none.
func ParseCalls(s string) ([]Call, bool) {
	if s == "" {
		return nil, true
	}
	var calls []Call
	// One part more than there may be calls is enough to fail.
	for _, part := range strings.SplitN(s, "-", MaxCalls+1) {
		if len(part) != 2 {
			return nil, false
		}
		// A byte that is no digit becomes a number that no friend has.
		calls = append(calls, Call{A: int(part[0]) - '0', B: int(part[1]) - '0'})
	}
	if !AreCalls(MaxFriends, calls) {
		return nil, false
	}
	return calls, true
}
