package tests

import (
	"fmt"
	"math"
	"math/rand"
	"strings"
	"testing"

	"loop.example/g01316/impl"
)

// letters reads letters such as "0>1-1>2" without the package's help.
func letters(s string) []impl.Letter {
	var out []impl.Letter
	for i := 0; i+2 < len(s); i += 4 {
		out = append(out, impl.Letter{From: int(s[i] - '0'), To: int(s[i+2] - '0')})
	}
	return out
}

func repeatedLetter(l impl.Letter, times int) []impl.Letter {
	var out []impl.Letter
	for range times {
		out = append(out, l)
	}
	return out
}

func writtenLetters(list []impl.Letter) string {
	var parts []string
	for _, l := range list {
		parts = append(parts, fmt.Sprintf("%d>%d", l.From, l.To))
	}
	return strings.Join(parts, "-")
}

// lettersOf lists all letters of so many friends in order.
func lettersOf(friends int) []impl.Letter {
	var out []impl.Letter
	for n := range friends * friends {
		if n/friends != n%friends {
			out = append(out, impl.Letter{From: n / friends, To: n % friends})
		}
	}
	return out
}

type letterCase struct {
	friends int
	letters []impl.Letter
}

func (c letterCase) String() string { return fmt.Sprint(c.friends, " ", writtenLetters(c.letters)) }

// letterSample returns numbers of friends and letters of them: all lists that are short, and random ones of all lengths.
func letterSample() []letterCase {
	out := []letterCase{{1, nil}}
	for friends := 2; friends <= 3; friends++ {
		lists := [][]impl.Letter{nil}
		for len(lists) > 0 {
			list := lists[0]
			lists = lists[1:]
			out = append(out, letterCase{friends, list})
			if len(list) < 4 {
				for _, l := range lettersOf(friends) {
					lists = append(lists, append(append([]impl.Letter{}, list...), l))
				}
			}
		}
	}
	r := rand.New(rand.NewSource(5))
	for friends := 2; friends <= impl.MaxFriends; friends++ {
		for _, most := range []int{3, 8, 20, 60} {
			for range 15 {
				out = append(out, letterCase{friends, randomLetters(r, friends, r.Intn(most+1))})
			}
		}
		out = append(out, letterCase{friends, randomLetters(r, friends, 60)})
	}
	return out
}

func randomLetters(r *rand.Rand, friends int, n int) []impl.Letter {
	choices := lettersOf(friends)
	out := make([]impl.Letter, n)
	for i := range out {
		out[i] = choices[r.Intn(len(choices))]
	}
	return out
}

// knowers follows the news of one friend alone, letter by letter, and returns who knows them at last.
func knowers(friends int, list []impl.Letter, news int) []bool {
	know := make([]bool, friends)
	know[news] = true
	for _, l := range list {
		know[l.To] = know[l.To] || know[l.From]
	}
	return know
}

// told lists for each friend the news that this one knows behind letters.
func told(friends int, list []impl.Letter) [][]int {
	out := make([][]int, friends)
	for news := range friends {
		for f, knows := range knowers(friends, list, news) {
			if knows {
				out[f] = append(out[f], news)
			}
		}
	}
	return out
}

func countTold(friends int, list []impl.Letter) int {
	n := 0
	for _, known := range told(friends, list) {
		n += len(known)
	}
	return n
}

func allTold(friends int, list []impl.Letter) bool {
	return countTold(friends, list) == friends*friends
}

// wrongLetters are no letters of three friends.
func wrongLetters() []impl.Letter {
	return []impl.Letter{{From: 0, To: 0}, {From: 1, To: 1}, {From: 2, To: 2}, {From: 3, To: 3}, {From: 0, To: 3}, {From: 3, To: 0}, {From: -1, To: 1}, {From: 1, To: -1},
		{From: -1, To: -1}, {From: -1, To: -2}, {From: 3, To: 4}, {From: math.MinInt, To: 0}, {From: 0, To: math.MaxInt}, {From: math.MaxInt, To: math.MinInt}, {From: 64, To: 65}}
}

// Promise 2: the document's examples.
func TestLetterExamples(t *testing.T) {
	list, ok := impl.StarLetters(3, 0)
	expect(t, "StarLetters(3, 0)", list, ok, letters("1>0-2>0-0>1-0>2"))
	whole, ok := impl.AllByLetters(3, list)
	expect(t, "AllByLetters of it", whole, ok, true)
	list, ok = impl.RingLetters(3)
	expect(t, "RingLetters(3)", list, ok, letters("0>1-1>2-2>0-0>1"))
	list, ok = impl.FirstLetters(3)
	expect(t, "FirstLetters(3)", list, ok, letters("0>1-1>2-2>0-0>1"))
	arrows := letters("0>1-1>2")
	for friend, want := range [][]int{{0, 1, 2}, {1, 2}, {2}} {
		who, ok := impl.HeardFrom(3, arrows, friend)
		expect(t, fmt.Sprint("HeardFrom ", friend), who, ok, want)
	}
	groups, ok := impl.SilentGroups(3, arrows)
	expect(t, "SilentGroups", groups, ok, [][]int{{0}, {1}, {2}})
	list, ok = impl.LettersOfCalls(2, calls("01"))
	expect(t, "LettersOfCalls 01", list, ok, letters("0>1-1>0"))
}

// Promise 2: letters are valid by their number and their friends alone.
func TestAreLetters(t *testing.T) {
	for friends := 1; friends <= impl.MaxFriends; friends++ {
		for from := -2; from < 13; from++ {
			for to := -2; to < 13; to++ {
				want := 0 <= from && from < friends && 0 <= to && to < friends && from != to
				if got := impl.AreLetters(friends, []impl.Letter{{From: from, To: to}}); got != want {
					t.Errorf("AreLetters(%d, %d>%d): got %v", friends, from, to, got)
				}
			}
		}
		if !impl.AreLetters(friends, nil) || !impl.AreLetters(friends, []impl.Letter{}) {
			t.Errorf("AreLetters(%d, none): got false", friends)
		}
	}
	for _, friends := range wrongFriends {
		if impl.AreLetters(friends, nil) || impl.AreLetters(friends, letters("0>1")) {
			t.Errorf("AreLetters(%d): got true", friends)
		}
	}
	if !impl.AreLetters(2, repeatedLetter(impl.Letter{From: 1, To: 0}, 60)) {
		t.Error("60 letters: got false")
	}
	if impl.AreLetters(2, repeatedLetter(impl.Letter{From: 1, To: 0}, 61)) {
		t.Error("61 letters: got true")
	}
	for _, wrong := range wrongLetters() {
		for at := range 3 {
			list := letters("0>1-2>1-2>0")
			list[at] = wrong
			if impl.AreLetters(3, list) {
				t.Errorf("AreLetters with %v at %d: got true", wrong, at)
			}
		}
	}
}

// Promise 2: a letter tells what is known when it is written, as in a model that follows the news of each friend alone.
func TestLettersTellWhatIsKnown(t *testing.T) {
	for _, c := range letterSample() {
		known, ok := impl.KnownByLetters(c.friends, c.letters)
		expect(t, fmt.Sprint("KnownByLetters ", c), known, ok, told(c.friends, c.letters))
		whole, ok := impl.AllByLetters(c.friends, c.letters)
		expect(t, fmt.Sprint("AllByLetters ", c), whole, ok, allTold(c.friends, c.letters))
	}
	known, ok := impl.KnownByLetters(1, nil)
	expect(t, "one friend", known, ok, [][]int{{0}})
	known, ok = impl.KnownByLetters(3, letters("0>1-1>2"))
	expect(t, "the writer comes to know nothing", known, ok, [][]int{{0}, {0, 1}, {0, 1, 2}})
	known, ok = impl.KnownByLetters(3, letters("1>2-0>1"))
	expect(t, "later news stay behind", known, ok, [][]int{{0}, {0, 1}, {1, 2}})
	known, ok = impl.KnownByLetters(4, letters("3>0-0>2-2>3"))
	expect(t, "back to the first one", known, ok, [][]int{{0, 3}, {1}, {0, 2, 3}, {0, 2, 3}})
	whole, ok := impl.AllByLetters(1, nil)
	expect(t, "one friend knows all", whole, ok, true)
	whole, ok = impl.AllByLetters(2, letters("0>1"))
	expect(t, "one of two knows all", whole, ok, false)
	whole, ok = impl.AllByLetters(2, letters("0>1-1>0"))
	expect(t, "two know all", whole, ok, true)
}

// Promise 2: the least number of letters behind which each knows all news.
func TestLettersNeeded(t *testing.T) {
	n, ok := impl.LettersNeeded(1, nil)
	expect(t, "one friend", n, ok, 0)
	n, ok = impl.LettersNeeded(2, letters("0>1-0>1-1>0-0>1"))
	expect(t, "two friends", n, ok, 3)
	n, ok = impl.LettersNeeded(3, letters("1>0-2>0-0>1-0>2"))
	expect(t, "by the last letter", n, ok, 4)
	n, ok = impl.LettersNeeded(3, letters("1>0-2>0-0>1"))
	expectFail(t, "never", n, ok)
	n, ok = impl.LettersNeeded(2, nil)
	expectFail(t, "no letters", n, ok)
	for _, c := range letterSample() {
		n, ok := impl.LettersNeeded(c.friends, c.letters)
		if !allTold(c.friends, c.letters) {
			expectFail(t, fmt.Sprint("LettersNeeded ", c), n, ok)
			continue
		}
		want := len(c.letters)
		for want > 0 && allTold(c.friends, c.letters[:want-1]) {
			want--
		}
		expect(t, fmt.Sprint("LettersNeeded ", c), n, ok, want)
	}
}

// Promise 2: idle are just those letters behind which no more is known than before them.
func TestIdleLetters(t *testing.T) {
	got, ok := impl.IdleLetters(3, letters("0>1-0>1-1>0-0>1-1>2-2>0-2>1"))
	expect(t, "by hand", got, ok, []int{1, 3})
	got, ok = impl.IdleLetters(4, nil)
	expect(t, "none", got, ok, []int(nil))
	for _, c := range letterSample() {
		var want []int
		for k := range c.letters {
			if countTold(c.friends, c.letters[:k]) == countTold(c.friends, c.letters[:k+1]) {
				want = append(want, k)
			}
		}
		got, ok := impl.IdleLetters(c.friends, c.letters)
		expect(t, fmt.Sprint("IdleLetters ", c), got, ok, want)
	}
}

// Promise 2: needless are just those letters without which, one alone, each knows the same.
func TestNeedlessLetters(t *testing.T) {
	got, ok := impl.NeedlessLetters(2, letters("0>1-0>1"))
	expect(t, "one of two", got, ok, []int{0, 1})
	got, ok = impl.NeedlessLetters(3, letters("1>0-2>0-0>1-0>2"))
	expect(t, "a star", got, ok, []int(nil))
	got, ok = impl.NeedlessLetters(3, letters("0>1-1>2-0>2"))
	expect(t, "an idle one", got, ok, []int{2})
	got, ok = impl.NeedlessLetters(3, letters("0>1-0>2-1>2"))
	expect(t, "one that is told again", got, ok, []int{1})
	for _, c := range letterSample() {
		whole := told(c.friends, c.letters)
		var want []int
		for k := range c.letters {
			rest := append(append([]impl.Letter{}, c.letters[:k]...), c.letters[k+1:]...)
			if same(told(c.friends, rest), whole) {
				want = append(want, k)
			}
		}
		got, ok := impl.NeedlessLetters(c.friends, c.letters)
		expect(t, fmt.Sprint("NeedlessLetters ", c), got, ok, want)
	}
}

// Promise 2: two letters for each call tell what the calls tell.
func TestLettersOfCalls(t *testing.T) {
	list, ok := impl.LettersOfCalls(4, calls("23-01-02"))
	expect(t, "23-01-02", list, ok, letters("2>3-3>2-0>1-1>0-0>2-2>0"))
	list, ok = impl.LettersOfCalls(1, nil)
	expect(t, "none", list, ok, []impl.Letter(nil))
	list, ok = impl.LettersOfCalls(2, repeated(impl.Call{A: 0, B: 1}, 30))
	expect(t, "30 calls", writtenLetters(list), ok, strings.Repeat("0>1-1>0-", 29)+"0>1-1>0")
	list, ok = impl.LettersOfCalls(2, repeated(impl.Call{A: 0, B: 1}, 31))
	expectFail(t, "31 calls", list, ok)
	for _, c := range sample() {
		list, ok := impl.LettersOfCalls(c.friends, c.calls)
		if len(c.calls) > 30 {
			expectFail(t, fmt.Sprint("LettersOfCalls ", c), list, ok)
			continue
		}
		var want []impl.Letter
		for _, call := range c.calls {
			want = append(want, impl.Letter{From: call.A, To: call.B}, impl.Letter{From: call.B, To: call.A})
		}
		expect(t, fmt.Sprint("LettersOfCalls ", c), list, ok, want)
		known, fine := impl.KnownByLetters(c.friends, list)
		expect(t, fmt.Sprint("known by LettersOfCalls ", c), known, fine, startHeard(c.friends).after(c.calls).lists(c.friends))
	}
	for _, c := range wrongCalls() {
		list, ok := impl.LettersOfCalls(3, []impl.Call{{A: 0, B: 1}, c})
		expectFail(t, fmt.Sprint("LettersOfCalls ", c), list, ok)
	}
	for _, friends := range wrongFriends {
		list, ok := impl.LettersOfCalls(friends, nil)
		expectFail(t, fmt.Sprint("LettersOfCalls of ", friends), list, ok)
	}
}

// Promise 2: by letters told backwards x knows the news of y just if y knew those of x.
func TestBackLetters(t *testing.T) {
	back, ok := impl.BackLetters(4, letters("0>1-3>2-1>0"))
	expect(t, "by hand", back, ok, letters("0>1-2>3-1>0"))
	for _, c := range letterSample() {
		var want []impl.Letter
		for k := len(c.letters) - 1; k >= 0; k-- {
			want = append(want, impl.Letter{From: c.letters[k].To, To: c.letters[k].From})
		}
		back, ok := impl.BackLetters(c.friends, c.letters)
		expect(t, fmt.Sprint("BackLetters ", c), back, ok, want)
		known, fine := impl.KnownByLetters(c.friends, back)
		for x := range c.friends {
			var who []int
			for y, knows := range knowers(c.friends, c.letters, x) {
				if knows {
					who = append(who, y)
				}
			}
			expect(t, fmt.Sprint("known by BackLetters ", c, x), known[x], fine, who)
		}
	}
}

// firstOfAll tries all lists of so many letters in order, and returns the first one behind which each friend knows all news.
// It keeps the news as digits of one number, eight for each friend, and leaves no list out.
func firstOfAll(friends int, n int) ([]impl.Letter, bool) {
	start, whole := uint32(0), uint32(0)
	for f := range friends {
		start |= 1 << f << (8 * f)
		whole |= (1<<friends - 1) << (8 * f)
	}
	list := make([]impl.Letter, n)
	var try func(k int, known uint32) bool
	try = func(k int, known uint32) bool {
		if k == n {
			return known == whole
		}
		for _, l := range lettersOf(friends) {
			list[k] = l
			if try(k+1, known|(known>>(8*l.From)&255)<<(8*l.To)) {
				return true
			}
		}
		return false
	}
	return list, try(0, start)
}

// Promise 2: the fewest letters are as many as told, and fewer will not do where all lists can be tried.
func TestFewestLetters(t *testing.T) {
	for friends := 1; friends <= impl.MaxFriends; friends++ {
		n, ok := impl.FewestLetters(friends)
		expect(t, fmt.Sprint("FewestLetters ", friends), n, ok, 2*friends-2)
	}
	for friends := 1; friends <= 4; friends++ {
		n, _ := impl.FewestLetters(friends)
		for fewer := range n {
			if list, found := firstOfAll(friends, fewer); found {
				t.Errorf("FewestLetters(%d) is %d, but %v will do", friends, n, list)
			}
		}
	}
}

// Promise 2: the first letters are the first one of all lists of fewest letters.
func TestFirstLetters(t *testing.T) {
	for i, want := range []string{"", "0>1-1>0", "0>1-1>2-2>0-0>1"} {
		list, ok := impl.FirstLetters(i + 1)
		expect(t, fmt.Sprint("FirstLetters ", i+1), list, ok, letters(want))
	}
	for friends := 1; friends <= 4; friends++ {
		want, found := firstOfAll(friends, 2*friends-2)
		list, ok := impl.FirstLetters(friends)
		expect(t, fmt.Sprint("FirstLetters ", friends), list, ok && found, want)
	}
	for _, friends := range append([]int{5, 6, 7, 8, 9, 10}, wrongFriends...) {
		list, ok := impl.FirstLetters(friends)
		expectFail(t, fmt.Sprint("FirstLetters ", friends), list, ok)
	}
}

// Promise 2: stars of letters are as few as can be, and each friend knows all behind them.
func TestStarLetters(t *testing.T) {
	list, ok := impl.StarLetters(1, 0)
	expect(t, "StarLetters(1, 0)", list, ok, []impl.Letter(nil))
	list, ok = impl.StarLetters(2, 1)
	expect(t, "StarLetters(2, 1)", list, ok, letters("0>1-1>0"))
	list, ok = impl.StarLetters(4, 2)
	expect(t, "StarLetters(4, 2)", list, ok, letters("0>2-1>2-3>2-2>0-2>1-2>3"))
	list, ok = impl.StarLetters(10, 9)
	expect(t, "StarLetters(10, 9)", list, ok, letters("0>9-1>9-2>9-3>9-4>9-5>9-6>9-7>9-8>9-9>0-9>1-9>2-9>3-9>4-9>5-9>6-9>7-9>8"))
	for friends := 1; friends <= impl.MaxFriends; friends++ {
		for friend := range friends {
			list, ok := impl.StarLetters(friends, friend)
			if !ok || len(list) != 2*friends-2 || !allTold(friends, list) {
				t.Errorf("StarLetters(%d, %d): %v", friends, friend, list)
			}
		}
		for _, friend := range []int{math.MinInt, -1, friends, friends + 1, 64, math.MaxInt} {
			list, ok := impl.StarLetters(friends, friend)
			expectFail(t, fmt.Sprint("StarLetters ", friends, friend), list, ok)
		}
	}
}

// Promise 2: rings of letters are as few as can be, and each friend knows all behind them.
func TestRingLetters(t *testing.T) {
	for i, want := range []string{"", "0>1-1>0", "0>1-1>2-2>0-0>1", "0>1-1>2-2>3-3>0-0>1-1>2", "0>1-1>2-2>3-3>4-4>0-0>1-1>2-2>3"} {
		list, ok := impl.RingLetters(i + 1)
		expect(t, fmt.Sprint("RingLetters ", i+1), list, ok, letters(want))
	}
	list, ok := impl.RingLetters(10)
	expect(t, "RingLetters 10", list, ok, letters("0>1-1>2-2>3-3>4-4>5-5>6-6>7-7>8-8>9-9>0-0>1-1>2-2>3-3>4-4>5-5>6-6>7-7>8"))
	for friends := 1; friends <= impl.MaxFriends; friends++ {
		list, ok := impl.RingLetters(friends)
		if !ok || len(list) != 2*friends-2 || !allTold(friends, list) {
			t.Errorf("RingLetters(%d): %v", friends, list)
		}
	}
}

// arrowSample returns all arrows of few friends, and random ones of as many as there may be.
func arrowSample() []letterCase {
	out := []letterCase{{1, nil}}
	for friends := 2; friends <= 4; friends++ {
		choices := lettersOf(friends)
		for set := range 1 << len(choices) {
			var arrows []impl.Letter
			for k, l := range choices {
				if set>>k&1 == 1 {
					arrows = append(arrows, l)
				}
			}
			out = append(out, letterCase{friends, arrows})
		}
	}
	r := rand.New(rand.NewSource(6))
	for friends := 5; friends <= impl.MaxArrowed; friends++ {
		for n := range 3 * friends {
			for range 5 {
				out = append(out, letterCase{friends, randomLetters(r, friends, n)})
			}
		}
		out = append(out, letterCase{friends, lettersOf(friends)}, letterCase{friends, randomLetters(r, friends, 60)})
	}
	return out
}

// canHear follows the arrows again and again, as often as there are friends, which is as often as it can help.
func canHear(c letterCase, from int) []bool {
	var list []impl.Letter
	for range c.friends {
		list = append(list, c.letters...)
	}
	return knowers(c.friends, list, from)
}

// Promise 2: each can hear from just those whose news letters of arrows can bring there.
func TestWhoCanHear(t *testing.T) {
	for _, c := range arrowSample() {
		var hear [][]bool
		whole := true
		for from := range c.friends {
			hear = append(hear, canHear(c, from))
			var want []int
			for f, hears := range hear[from] {
				whole = whole && hears
				if hears {
					want = append(want, f)
				}
			}
			who, ok := impl.HeardFrom(c.friends, c.letters, from)
			expect(t, fmt.Sprint("HeardFrom ", c, " ", from), who, ok, want)
		}
		can, ok := impl.CanAllHear(c.friends, c.letters)
		expect(t, fmt.Sprint("CanAllHear ", c), can, ok, whole)
		groups, ok := impl.SilentGroups(c.friends, c.letters)
		expect(t, fmt.Sprint("SilentGroups ", c), groups, ok, groupsOf(hear))
	}
}

// groupsOf puts each friend into the first group whose first one it hears and is heard by.
func groupsOf(hear [][]bool) [][]int {
	var groups [][]int
	for f := range hear {
		at := 0
		for at < len(groups) && !(hear[f][groups[at][0]] && hear[groups[at][0]][f]) {
			at++
		}
		if at == len(groups) {
			groups = append(groups, nil)
		}
		groups[at] = append(groups[at], f)
	}
	return groups
}

// Promise 2: who can hear, told by hand.
func TestOrdinaryArrows(t *testing.T) {
	who, ok := impl.HeardFrom(8, letters("6>7-5>6-4>5-3>4-2>3-1>2-0>1"), 0)
	expect(t, "a way against the order", who, ok, []int{0, 1, 2, 3, 4, 5, 6, 7})
	who, ok = impl.HeardFrom(8, letters("6>7-5>6-4>5-3>4-2>3-1>2-0>1"), 5)
	expect(t, "the end of it", who, ok, []int{5, 6, 7})
	who, ok = impl.HeardFrom(5, nil, 3)
	expect(t, "no arrows", who, ok, []int{3})
	can, ok := impl.CanAllHear(1, nil)
	expect(t, "one friend", can, ok, true)
	can, ok = impl.CanAllHear(2, nil)
	expect(t, "two friends", can, ok, false)
	can, ok = impl.CanAllHear(3, letters("0>1-1>2-2>0"))
	expect(t, "a circle", can, ok, true)
	can, ok = impl.CanAllHear(3, letters("0>1-1>2-0>2"))
	expect(t, "one way", can, ok, false)
	groups, ok := impl.SilentGroups(1, nil)
	expect(t, "groups of one", groups, ok, [][]int{{0}})
	groups, ok = impl.SilentGroups(6, letters("0>3-3>0-1>5-5>4-4>1-0>1"))
	expect(t, "groups of six", groups, ok, [][]int{{0, 3}, {1, 4, 5}, {2}})
	groups, ok = impl.SilentGroups(8, letters("0>7-7>0"))
	expect(t, "groups of eight", groups, ok, [][]int{{0, 7}, {1}, {2}, {3}, {4}, {5}, {6}})
}

// Promise 2: there are arrows of at most MaxArrowed friends, and at most MaxLetters of them.
func TestArrowsAreLimited(t *testing.T) {
	fails := []letterCase{{9, nil}, {10, nil}, {9, letters("0>1")}, {10, letters("0>1-1>0")}, {2, repeatedLetter(impl.Letter{From: 0, To: 1}, 61)}, {8, letters("0>8")}}
	for _, friends := range wrongFriends {
		fails = append(fails, letterCase{friends, nil}, letterCase{friends, letters("0>1")})
	}
	for _, l := range wrongLetters() {
		fails = append(fails, letterCase{3, []impl.Letter{l}}, letterCase{3, []impl.Letter{{From: 0, To: 1}, l}})
	}
	for _, c := range fails {
		who, ok := impl.HeardFrom(c.friends, c.letters, 0)
		expectFail(t, fmt.Sprint("HeardFrom ", c), who, ok)
		can, ok := impl.CanAllHear(c.friends, c.letters)
		expectFail(t, fmt.Sprint("CanAllHear ", c), can, ok)
		groups, ok := impl.SilentGroups(c.friends, c.letters)
		expectFail(t, fmt.Sprint("SilentGroups ", c), groups, ok)
	}
	for _, friend := range []int{math.MinInt, -1, 3, 4, 8, 64, math.MaxInt} {
		who, ok := impl.HeardFrom(3, letters("0>1"), friend)
		expectFail(t, fmt.Sprint("HeardFrom ", friend), who, ok)
	}
	who, ok := impl.HeardFrom(2, repeatedLetter(impl.Letter{From: 0, To: 1}, 60), 0)
	expect(t, "60 arrows", who, ok, []int{0, 1})
}

// Promise 2: texts tell letters.
func TestLettersText(t *testing.T) {
	s, ok := impl.LettersText(nil)
	expect(t, "none", s, ok, "")
	s, ok = impl.LettersText([]impl.Letter{{From: 0, To: 9}, {From: 9, To: 8}, {From: 0, To: 9}})
	expect(t, "three", s, ok, "0>9-9>8-0>9")
	for _, c := range letterSample() {
		s, ok := impl.LettersText(c.letters)
		expect(t, fmt.Sprint("LettersText ", c), s, ok, writtenLetters(c.letters))
		list, ok := impl.ParseLetters(s)
		expect(t, "ParseLetters "+s, list, ok, c.letters)
	}
	for _, l := range []impl.Letter{{From: 0, To: 10}, {From: 10, To: 0}, {From: 4, To: 4}, {From: -1, To: 0}, {From: 0, To: -1}, {From: math.MinInt, To: 1}, {From: 1, To: math.MaxInt}} {
		s, ok := impl.LettersText([]impl.Letter{{From: 0, To: 1}, l})
		expectFail(t, fmt.Sprint("LettersText ", l), s, ok)
	}
	s, ok = impl.LettersText(repeatedLetter(impl.Letter{From: 0, To: 1}, 61))
	expectFail(t, "LettersText of 61", s, ok)
}

// Promise 2: nothing but a text of letters is read as one.
func TestParseLetters(t *testing.T) {
	list, ok := impl.ParseLetters("")
	expect(t, "an empty text", list, ok, []impl.Letter(nil))
	list, ok = impl.ParseLetters("9>8-0>1-0>1")
	expect(t, "three letters", list, ok, letters("9>8-0>1-0>1"))
	sixty := strings.Repeat("1>0-", 59) + "1>0"
	list, ok = impl.ParseLetters(sixty)
	expect(t, "sixty letters", list, ok, repeatedLetter(impl.Letter{From: 1, To: 0}, 60))
	wrong := []string{"-", ">", ">>>", "0>1-", "-0>1", "0", "01", "0>", ">1", "0>12", "12>0", "01>", ">01", "0>1-2", "0>1-2>", "0>1--1>2", "0>11>2", "0>0", "9>9", "0>1-1>1", "0<1", "0-1", "0=1", "0>1,1>2", "0>1 1>2",
		" 0>1", "0>1 ", "0>1\n", "0 > 1", "0>a", "a>0", "/>1", "0>:", ":>;", "0>1-.>/", "0>\x00", "\xff>\xff", "0\x001", "é>1", "٠>١", "+0>1", "0>+1", "0>1_1>2", "0>1–1>2", "0>1/1>2", "01-12", sixty + "-0>1", sixty + "-", sixty + "-0>", strings.Repeat("0>1-", 1000) + "0>1", strings.Repeat("-", 1<<16), strings.Repeat("0>1", 1<<16)}
	for _, s := range wrong {
		list, ok := impl.ParseLetters(s)
		expectFail(t, fmt.Sprintf("ParseLetters %.60q", s), list, ok)
	}
	for first := range 256 {
		for last := range 256 {
			for _, middle := range []byte{'>', '-', '0', '=', 0, '>' + 128} {
				s := string([]byte{byte(first), middle, byte(last)})
				list, ok := impl.ParseLetters(s)
				if '0' <= first && first <= '9' && '0' <= last && last <= '9' && first != last && middle == '>' {
					expect(t, "ParseLetters "+s, list, ok, []impl.Letter{{From: first - '0', To: last - '0'}})
				} else {
					expectFail(t, fmt.Sprintf("ParseLetters %q", s), list, ok)
				}
			}
		}
	}
}

// Promise 2: numbers of friends and letters that there are not make each function fail.
func TestWrongLettersFail(t *testing.T) {
	wrong := []letterCase{{2, repeatedLetter(impl.Letter{From: 0, To: 1}, 61)}, {3, repeatedLetter(impl.Letter{From: 2, To: 1}, 500)}}
	for _, friends := range wrongFriends {
		wrong = append(wrong, letterCase{friends, nil}, letterCase{friends, letters("0>1")})
		n, ok := impl.FewestLetters(friends)
		expectFail(t, fmt.Sprint("FewestLetters ", friends), n, ok)
		list, ok := impl.RingLetters(friends)
		expectFail(t, fmt.Sprint("RingLetters ", friends), list, ok)
		list, ok = impl.StarLetters(friends, 0)
		expectFail(t, fmt.Sprint("StarLetters ", friends), list, ok)
	}
	for _, l := range wrongLetters() {
		wrong = append(wrong, letterCase{3, []impl.Letter{l}}, letterCase{3, []impl.Letter{{From: 0, To: 1}, l}}, letterCase{3, []impl.Letter{l, {From: 1, To: 0}}})
	}
	for _, c := range wrong {
		for _, f := range letterFunctions() {
			got, ok := f.run(c.friends, c.letters, 0)
			expectFail(t, fmt.Sprint(f.name, " ", c), got, ok)
		}
	}
}
