package tests

import (
	"fmt"
	"math"
	"math/rand"
	"slices"
	"strings"
	"testing"

	"loop.example/g01316/impl"
)

// puzzle reads puzzles such as "3c2:1.0.0.3,0.2.0.1" without the package's help.
func puzzle(s string) impl.Puzzle {
	var p impl.Puzzle
	sizes, clues, _ := strings.Cut(s, ":")
	if n, err := fmt.Sscanf(sizes, "%dc%d", &p.Friends, &p.Calls); n != 2 || err != nil {
		panic(s)
	}
	for _, part := range strings.FieldsFunc(clues, func(r rune) bool { return r == ',' }) {
		p.Clues = append(p.Clues, clue(part))
	}
	return p
}

func clue(s string) impl.Clue {
	var c impl.Clue
	if n, err := fmt.Sscanf(s, "%d.%d.%d.%d", &c.Kind, &c.A, &c.B, &c.C); n != 4 || err != nil {
		panic(s)
	}
	return c
}

func writtenPuzzle(p impl.Puzzle) string {
	parts := []string{}
	for _, c := range p.Clues {
		parts = append(parts, fmt.Sprintf("%d.%d.%d.%d", c.Kind, c.A, c.B, c.C))
	}
	return fmt.Sprintf("%dc%d:%s", p.Friends, p.Calls, strings.Join(parts, ","))
}

// setting is how many friends and calls hidden lists have.
type setting struct {
	friends int
	calls   int
}

func settings() []setting {
	var out []setting
	for friends := 2; friends <= 4; friends++ {
		for calls := range 4 {
			out = append(out, setting{friends, calls})
		}
	}
	return out
}

// wrongSettings are numbers of friends and calls of which there are no hidden lists.
func wrongSettings() []setting {
	var out []setting
	for _, friends := range []int{math.MinInt, -1, 0, 1, 5, 6, 10, 1 << 32, math.MaxInt} {
		for calls := range 4 {
			out = append(out, setting{friends, calls})
		}
	}
	for _, calls := range []int{math.MinInt, -2, -1, 4, 5, 60, 1 << 32, math.MaxInt} {
		for friends := 2; friends <= 4; friends++ {
			out = append(out, setting{friends, calls})
		}
	}
	return append(out, setting{-1, -1}, setting{5, 4}, setting{math.MinInt, math.MaxInt})
}

var keptHidden = map[setting][][]impl.Call{}

// hiddenOf counts through all hidden lists in order: the first call is the highest digit.
func hiddenOf(s setting) [][]impl.Call {
	if kept, ok := keptHidden[s]; ok {
		return kept
	}
	pairs := pairsOf(s.friends)
	all := 1
	for range s.calls {
		all *= len(pairs)
	}
	var out [][]impl.Call
	for n := range all {
		list := make([]impl.Call, s.calls)
		for k := s.calls - 1; k >= 0; k-- {
			list[k] = pairs[n%len(pairs)]
			n /= len(pairs)
		}
		out = append(out, list)
	}
	keptHidden[s] = out
	return out
}

// whoHeard follows the news of one friend through a list. It tells who knows it at last, and by which calls it was told on.
func whoHeard(friends int, list []impl.Call, news int) ([]bool, []bool) {
	knows, toldOn := make([]bool, friends), make([]bool, len(list))
	knows[news] = true
	for k, c := range list {
		toldOn[k] = knows[c.A] != knows[c.B]
		if toldOn[k] {
			knows[c.A], knows[c.B] = true, true
		}
	}
	return knows, toldOn
}

func countTrue(list []bool) int {
	n := 0
	for _, so := range list {
		if so {
			n++
		}
	}
	return n
}

// toldOf returns the number that a clue of a kind with A and B must have as C for a list.
func toldOf(friends int, list []impl.Call, kind int, a int, b int) int {
	var known [4][]bool
	moved := make([]bool, len(list))
	for news := range friends {
		knows, toldOn := whoHeard(friends, list, news)
		known[news] = knows
		for k := range moved {
			moved[k] = moved[k] || toldOn[k]
		}
	}
	n := 0
	switch kind {
	case 0:
		n = strings.Count(written(list), fmt.Sprint(a))
	case 1:
		for news := range friends {
			n += countTrue(known[news][a : a+1])
		}
	case 2:
		n = countTrue(known[b][a : a+1])
	case 3:
		n = len(list) - countTrue(moved)
	case 4:
		n = strings.Count(written(list[a:a+1]), fmt.Sprint(b))
	case 5:
		for news := range friends {
			n += countTrue(known[news])
		}
	}
	return n
}

// question is what a clue tells of lists, without the number that it tells.
type question struct {
	setting
	kind int
	a    int
	b    int
}

var keptAnswers = map[question][]int{}

// answersTo returns what is told of each hidden list.
func answersTo(s setting, c impl.Clue) []int {
	q := question{s, c.Kind, c.A, c.B}
	if kept, ok := keptAnswers[q]; ok {
		return kept
	}
	var out []int
	for _, list := range hiddenOf(s) {
		out = append(out, toldOf(s.friends, list, c.Kind, c.A, c.B))
	}
	keptAnswers[q] = out
	return out
}

func settingOf(p impl.Puzzle) setting { return setting{p.Friends, p.Calls} }

func solutionsByModel(s setting, clues []impl.Clue) [][]impl.Call {
	var out [][]impl.Call
	for n, list := range hiddenOf(s) {
		if !slices.ContainsFunc(clues, func(c impl.Clue) bool { return answersTo(s, c)[n] != c.C }) {
			out = append(out, list)
		}
	}
	return out
}

func isClueByModel(s setting, c impl.Clue) bool {
	in := func(n int, least int, most int) bool { return least <= n && n <= most }
	if !in(s.friends, 2, 4) || !in(s.calls, 0, 3) {
		return false
	}
	a, b := in(c.A, 0, s.friends-1), in(c.B, 0, s.friends-1)
	switch c.Kind {
	case 0:
		return a && c.B == 0 && in(c.C, 0, s.calls)
	case 1:
		return a && c.B == 0 && in(c.C, 1, s.friends)
	case 2:
		return a && b && in(c.C, 0, 1)
	case 3:
		return c.A == 0 && c.B == 0 && in(c.C, 0, s.calls)
	case 4:
		return in(c.A, 0, s.calls-1) && b && in(c.C, 0, 1)
	case 5:
		return c.A == 0 && c.B == 0 && in(c.C, 1, 16)
	}
	return false
}

var keptClues = map[setting][]impl.Clue{}

// cluesOf returns all clues of so many friends and calls.
func cluesOf(s setting) []impl.Clue {
	if kept, ok := keptClues[s]; ok {
		return kept
	}
	var out []impl.Clue
	for kind := range 6 {
		for a := range 4 {
			for b := range 4 {
				for n := range 17 {
					if c := (impl.Clue{Kind: kind, A: a, B: b, C: n}); isClueByModel(s, c) {
						out = append(out, c)
					}
				}
			}
		}
	}
	keptClues[s] = out
	return out
}

func withoutClue(clues []impl.Clue, k int) []impl.Clue {
	return slices.Delete(slices.Clone(clues), k, k+1)
}

// harderByModel takes out clues by their indices, going on to the next index only behind a clue that stays.
func harderByModel(s setting, clues []impl.Clue) []impl.Clue {
	for k := 0; k < len(clues); {
		if rest := withoutClue(clues, k); len(solutionsByModel(s, rest)) == 1 {
			clues = rest
		} else {
			k++
		}
	}
	return clues
}

// expectPuzzle checks a call that must succeed with the wanted puzzle.
func expectPuzzle(t *testing.T, what string, got impl.Puzzle, ok bool, want impl.Puzzle) {
	t.Helper()
	if !ok || writtenPuzzle(got) != writtenPuzzle(want) {
		t.Errorf("%s: got %s, %v; want %s, true", what, writtenPuzzle(got), ok, writtenPuzzle(want))
	}
}

// checkPuzzle holds all functions that take a puzzle alone against its solutions.
func checkPuzzle(t *testing.T, p impl.Puzzle) {
	t.Helper()
	what, s := " "+writtenPuzzle(p), settingOf(p)
	if !impl.IsPuzzle(p) {
		t.Errorf("IsPuzzle%s: false", what)
	}
	want := solutionsByModel(s, p.Clues)
	solutions, ok := impl.Solutions(p)
	expect(t, "Solutions"+what, solutions, ok, want)
	n, ok := impl.CountSolutions(p)
	expect(t, "CountSolutions"+what, n, ok, len(want))
	solved, ok := impl.IsSolved(p)
	expect(t, "IsSolved"+what, solved, ok, len(want) == 1)
	checkSolution(t, p, want)
	checkEachClue(t, p, len(want))
	harder, ok := impl.HarderPuzzle(p)
	if len(want) == 1 {
		expectPuzzle(t, "HarderPuzzle"+what, harder, ok, impl.Puzzle{Friends: p.Friends, Calls: p.Calls, Clues: harderByModel(s, p.Clues)})
		first, ok := impl.FirstSolution(harder)
		expect(t, "FirstSolution of HarderPuzzle"+what, first, ok, want[0])
	} else {
		expectFail(t, "HarderPuzzle"+what, harder, ok)
	}
	text, ok := impl.PuzzleText(p)
	expect(t, "PuzzleText"+what, text, ok, writtenPuzzle(p))
	parsed, ok := impl.ParsePuzzle(writtenPuzzle(p))
	expectPuzzle(t, "ParsePuzzle"+what, parsed, ok, p)
}

// checkSolution checks what is told of the solutions of a puzzle, if it has some.
func checkSolution(t *testing.T, p impl.Puzzle, want [][]impl.Call) {
	t.Helper()
	what := " " + writtenPuzzle(p)
	first, ok := impl.FirstSolution(p)
	sure, fine := impl.SureCalls(p)
	if len(want) == 0 {
		expectFail(t, "FirstSolution"+what, first, ok)
		expectFail(t, "SureCalls"+what, sure, fine)
		return
	}
	expect(t, "FirstSolution"+what, first, ok, want[0])
	parts := []string{}
	for k := range p.Calls {
		found := map[string]bool{}
		for _, list := range want {
			found[written(list[k:k+1])] = true
		}
		if len(found) == 1 {
			parts = append(parts, written(want[0][k:k+1]))
		} else {
			parts = append(parts, "??")
		}
	}
	expect(t, "SureCalls"+what, sure, fine, strings.Join(parts, "-"))
}

// checkEachClue checks what is told of the clues of a puzzle with so many solutions.
func checkEachClue(t *testing.T, p impl.Puzzle, solutions int) {
	t.Helper()
	what, s := " "+writtenPuzzle(p), settingOf(p)
	left, needless := []int{len(hiddenOf(s))}, []int{}
	best, fewest := 0, math.MaxInt
	for k, c := range p.Clues {
		left = append(left, len(solutionsByModel(s, p.Clues[:k+1])))
		if len(solutionsByModel(s, withoutClue(p.Clues, k))) == solutions {
			needless = append(needless, k)
		}
		if alone := len(solutionsByModel(s, []impl.Clue{c})); alone < fewest {
			best, fewest = k, alone
		}
		dropped, ok := impl.DropClue(p, k)
		expectPuzzle(t, fmt.Sprint("DropClue", what, " ", k), dropped, ok, impl.Puzzle{Friends: p.Friends, Calls: p.Calls, Clues: withoutClue(p.Clues, k)})
	}
	gotLeft, ok := impl.LeftByClues(p)
	expect(t, "LeftByClues"+what, gotLeft, ok, left)
	gotNeedless, ok := impl.NeedlessClues(p)
	expect(t, "NeedlessClues"+what, gotNeedless, ok, needless)
	gotBest, ok := impl.BestClue(p)
	if len(p.Clues) == 0 {
		expectFail(t, "BestClue"+what, gotBest, ok)
	} else {
		expect(t, "BestClue"+what, gotBest, ok, best)
	}
}

// failForPuzzle checks that all functions that require a puzzle fail.
func failForPuzzle(t *testing.T, p impl.Puzzle) {
	t.Helper()
	what := fmt.Sprintf(" %.99s", writtenPuzzle(p))
	if impl.IsPuzzle(p) {
		t.Errorf("IsPuzzle%s: true", what)
	}
	solutions, ok := impl.Solutions(p)
	expectFail(t, "Solutions"+what, solutions, ok)
	n, ok := impl.CountSolutions(p)
	expectFail(t, "CountSolutions"+what, n, ok)
	first, ok := impl.FirstSolution(p)
	expectFail(t, "FirstSolution"+what, first, ok)
	sure, ok := impl.SureCalls(p)
	expectFail(t, "SureCalls"+what, sure, ok)
	solved, ok := impl.IsSolved(p)
	expectFail(t, "IsSolved"+what, solved, ok)
	needless, ok := impl.NeedlessClues(p)
	expectFail(t, "NeedlessClues"+what, needless, ok)
	for k := -1; k < 8; k++ {
		dropped, ok := impl.DropClue(p, k)
		expectFail(t, fmt.Sprint("DropClue", what, " ", k), dropped, ok)
	}
	for _, c := range append(slices.Clone(p.Clues[:min(8, len(p.Clues))]), clue("5.0.0.2"), clue("0.0.0.0")) {
		added, ok := impl.AddClue(p, c)
		expectFail(t, fmt.Sprint("AddClue", what, " ", c), added, ok)
	}
	left, ok := impl.LeftByClues(p)
	expectFail(t, "LeftByClues"+what, left, ok)
	best, ok := impl.BestClue(p)
	expectFail(t, "BestClue"+what, best, ok)
	harder, ok := impl.HarderPuzzle(p)
	expectFail(t, "HarderPuzzle"+what, harder, ok)
	text, ok := impl.PuzzleText(p)
	expectFail(t, "PuzzleText"+what, text, ok)
}

// randomPuzzle returns a puzzle with n clues that one list fits, but for those of them that are wrong.
func randomPuzzle(r *rand.Rand, s setting, n int, wrong int) impl.Puzzle {
	lists, clues := hiddenOf(s), cluesOf(s)
	list := r.Intn(len(lists))
	p := impl.Puzzle{Friends: s.friends, Calls: s.calls}
	for k := range n {
		c := clues[r.Intn(len(clues))]
		if k >= wrong {
			c.C = answersTo(s, c)[list]
		}
		p.Clues = append(p.Clues, c)
	}
	r.Shuffle(n, func(i int, j int) { p.Clues[i], p.Clues[j] = p.Clues[j], p.Clues[i] })
	return p
}

// puzzleSample returns puzzles of all numbers of friends, calls and clues, some of which have no solution.
func puzzleSample() []impl.Puzzle {
	var out []impl.Puzzle
	r := rand.New(rand.NewSource(91))
	for _, s := range settings() {
		for n := range impl.MaxClues + 1 {
			for _, wrong := range []int{0, 0, 0, 0, 0, 1, 1, 3} {
				out = append(out, randomPuzzle(r, s, n, min(n, wrong)))
			}
		}
	}
	return out
}

// Promise 9: the document's examples.
func TestPuzzleExamples(t *testing.T) {
	p, ok := impl.ParsePuzzle("3c2:1.0.0.3,0.2.0.1")
	want := impl.Puzzle{Friends: 3, Calls: 2, Clues: []impl.Clue{{Kind: 1, A: 0, B: 0, C: 3}, {Kind: 0, A: 2, B: 0, C: 1}}}
	expectPuzzle(t, "ParsePuzzle", p, ok, want)
	solutions, ok := impl.Solutions(want)
	expect(t, "Solutions", solutions, ok, [][]impl.Call{calls("01-02"), calls("02-01"), calls("12-01")})
	n, ok := impl.CountSolutions(want)
	expect(t, "CountSolutions", n, ok, 3)
	lists, ok := impl.HiddenLists(3, 2)
	expect(t, "HiddenLists", lists, ok, 9)
	left, ok := impl.LeftByClues(want)
	expect(t, "LeftByClues", left, ok, []int{9, 4, 3})
	sure, ok := impl.SureCalls(want)
	expect(t, "SureCalls", sure, ok, "??-??")
}

// Promise 9: the limits are those of the document.
func TestPuzzleLimits(t *testing.T) {
	if impl.MaxHidden != 3 || impl.MaxHiddenFriends != 4 || impl.MaxClues != 6 {
		t.Errorf("MaxHidden %d, MaxHiddenFriends %d, MaxClues %d", impl.MaxHidden, impl.MaxHiddenFriends, impl.MaxClues)
	}
}

// Promise 9: clues have the numbers of their kind, and 0 for what it does not tell; there are none of lists that there are not.
func TestIsClue(t *testing.T) {
	numbers := []int{math.MinInt, -4, -1, 0, 1, 2, 3, 4, 5, 6, 1 << 32, math.MaxInt}
	told := []int{math.MinInt, -1, 0, 1, 2, 3, 4, 5, 15, 16, 17, 1 << 32, math.MaxInt}
	for _, s := range append(settings(), wrongSettings()...) {
		for _, kind := range numbers {
			for _, a := range numbers {
				for _, b := range numbers {
					for _, n := range told {
						c := impl.Clue{Kind: kind, A: a, B: b, C: n}
						if got := impl.IsClue(s.friends, s.calls, c); got != isClueByModel(s, c) {
							t.Errorf("IsClue %v %v: %v", s, c, got)
						}
					}
				}
			}
		}
	}
	for s, want := range map[setting]int{{2, 0}: 2 + 4 + 8 + 1 + 0 + 16, {2, 3}: 8 + 4 + 8 + 4 + 12 + 16, {3, 1}: 6 + 9 + 18 + 2 + 6 + 16, {4, 3}: 16 + 16 + 32 + 4 + 24 + 16} {
		n := 0
		for _, c := range cluesOf(s) {
			if impl.IsClue(s.friends, s.calls, c) {
				n++
			}
		}
		if n != want {
			t.Errorf("%v has %d clues", s, n)
		}
	}
}

// Promise 9: clues of friends, calls and numbers that there just are, and of those that there just are not.
func TestKnownClues(t *testing.T) {
	for s, yes := range map[setting]string{
		{2, 0}: "0.0.0.0 0.1.0.0 1.1.0.1 1.0.0.2 2.0.0.0 2.0.0.1 2.1.0.1 2.0.1.0 3.0.0.0 5.0.0.1 5.0.0.16",
		{3, 2}: "0.2.0.2 0.2.0.0 1.2.0.3 1.0.0.1 2.2.2.0 2.2.1.1 3.0.0.2 4.1.2.1 4.0.0.0 4.1.2.0 5.0.0.9 5.0.0.16",
		{4, 3}: "0.3.0.3 1.3.0.4 2.3.3.1 2.0.3.0 3.0.0.3 4.2.3.1 4.2.0.0 5.0.0.1 5.0.0.16",
	} {
		for _, one := range strings.Fields(yes) {
			if !impl.IsClue(s.friends, s.calls, clue(one)) {
				t.Errorf("IsClue %v %s: false", s, one)
			}
		}
	}
	for s, no := range map[setting]string{
		{2, 0}: "0.0.0.1 0.2.0.0 0.0.1.0 0.-1.0.0 0.0.0.-1 1.0.0.0 1.0.0.3 1.2.0.1 1.0.1.1 2.0.0.2 2.0.0.-1 2.2.0.0 2.0.2.0 3.0.0.1 3.1.0.0 3.0.1.0 4.0.0.0 4.0.1.0 4.-1.0.0 5.0.0.0 5.0.0.17 5.1.0.1 5.0.1.1 6.0.0.0 6.0.0.1 -1.0.0.0 -1.0.0.1",
		{3, 2}: "0.3.0.0 0.2.0.3 1.2.0.4 1.3.0.1 2.3.0.0 2.0.3.0 3.0.0.3 3.0.0.-1 4.2.0.0 4.0.3.0 4.0.0.2 4.0.0.-1 5.0.0.17 6.0.0.1 7.0.0.1",
		{4, 3}: "0.4.0.0 0.0.0.4 0.0.3.0 1.0.0.5 1.0.0.0 2.0.4.0 2.4.0.0 3.0.0.4 4.3.0.0 4.0.4.0 5.0.0.0 5.0.0.-1 6.0.0.0",
	} {
		for _, one := range strings.Fields(no) {
			if impl.IsClue(s.friends, s.calls, clue(one)) {
				t.Errorf("IsClue %v %s: true", s, one)
			}
		}
	}
}

// Promise 9: there are hidden lists of 2..4 friends and 0..3 calls alone.
func TestHiddenLists(t *testing.T) {
	want := map[setting]int{{2, 0}: 1, {2, 1}: 1, {2, 2}: 1, {2, 3}: 1, {3, 0}: 1, {3, 1}: 3, {3, 2}: 9, {3, 3}: 27, {4, 0}: 1, {4, 1}: 6, {4, 2}: 36, {4, 3}: 216}
	for _, s := range settings() {
		n, ok := impl.HiddenLists(s.friends, s.calls)
		expect(t, fmt.Sprint("HiddenLists ", s), n, ok, want[s])
		solutions, ok := impl.Solutions(impl.Puzzle{Friends: s.friends, Calls: s.calls})
		expect(t, fmt.Sprint("Solutions ", s), solutions, ok, hiddenOf(s))
	}
	for _, s := range wrongSettings() {
		n, ok := impl.HiddenLists(s.friends, s.calls)
		expectFail(t, fmt.Sprint("HiddenLists ", s), n, ok)
	}
}

// Promise 9: all lists fit each clue that tells what is so, and no other one.
func TestDoesFit(t *testing.T) {
	for _, s := range settings() {
		for n, list := range hiddenOf(s) {
			for _, c := range cluesOf(s) {
				fits, ok := impl.DoesFit(s.friends, c, list)
				expect(t, fmt.Sprint("DoesFit ", s, " ", c, " ", written(list)), fits, ok, answersTo(s, c)[n] == c.C)
			}
		}
	}
	for _, c := range []struct {
		friends int
		clue    string
		list    string
		fits    bool
	}{
		{2, "0.1.0.0", "", true}, {2, "1.1.0.1", "", true}, {2, "1.1.0.2", "", false}, {2, "2.0.1.0", "", true}, {2, "2.1.1.1", "", true}, {2, "2.1.1.0", "", false}, {2, "3.0.0.0", "", true}, {2, "5.0.0.2", "", true},
		{2, "5.0.0.4", "01", true}, {2, "3.0.0.0", "01", true}, {2, "3.0.0.1", "01-01", true}, {2, "3.0.0.2", "01-01-01", true}, {2, "0.0.0.3", "01-01-01", true}, {2, "4.2.1.1", "01-01-01", true}, {2, "4.2.1.0", "01-01-01", false},
		{3, "1.0.0.2", "01-12", true}, {3, "1.2.0.3", "01-12", true}, {3, "2.0.2.0", "01-12", true}, {3, "2.2.0.1", "01-12", true}, {3, "2.0.2.1", "01-12", false}, {3, "4.0.2.0", "01-12", true}, {3, "4.1.2.1", "01-12", true}, {3, "5.0.0.8", "01-12", true}, {3, "3.0.0.1", "01-12-12", true}, {3, "5.0.0.9", "01-12-02", true},
		{4, "5.0.0.12", "01-23-02", true}, {4, "5.0.0.16", "01-23-02", false}, {4, "0.3.0.1", "01-23-02", true}, {4, "1.3.0.2", "01-23-02", true}, {4, "2.2.1.1", "01-23-02", true}, {4, "2.1.2.0", "01-23-02", true},
	} {
		fits, ok := impl.DoesFit(c.friends, clue(c.clue), calls(c.list))
		expect(t, fmt.Sprint("DoesFit ", c), fits, ok, c.fits)
	}
}

// Promise 9: lists that are not hidden ones fit no clue, and no list fits what is no clue of so many friends and calls.
func TestWrongFits(t *testing.T) {
	fails := func(friends int, c impl.Clue, list []impl.Call) {
		t.Helper()
		fits, ok := impl.DoesFit(friends, c, list)
		expectFail(t, fmt.Sprint("DoesFit ", friends, " ", c, " ", written(list)), fits, ok)
	}
	for _, friends := range []int{2, 3, 4} {
		for _, one := range []string{"0.0.0.0", "0.0.0.1", "1.0.0.1", "2.0.0.1", "2.0.0.0", "3.0.0.0", "4.0.0.0", "5.0.0.2"} {
			c := clue(one)
			for _, n := range []int{4, 5, 60, 61, 1000} {
				fails(friends, c, repeated(impl.Call{A: 0, B: 1}, n))
			}
			for _, n := range []int{-1, friends, 4, 9, 64, math.MinInt, math.MaxInt} {
				for _, call := range []impl.Call{{A: 0, B: n}, {A: n, B: 1}, {A: n, B: n}, {A: 1, B: 0}, {A: 0, B: 0}} {
					fails(friends, c, []impl.Call{call})
					fails(friends, c, []impl.Call{{A: 0, B: 1}, call})
				}
			}
		}
	}
	for _, friends := range []int{math.MinInt, -1, 0, 1, 5, 6, 10, 11, math.MaxInt} {
		for _, list := range []string{"", "01", "01-01", "01-01-01"} {
			for _, one := range []string{"0.0.0.0", "0.0.0.1", "1.0.0.1", "2.0.0.1", "3.0.0.0", "4.0.0.1", "5.0.0.1", "5.0.0.4"} {
				fails(friends, clue(one), calls(list))
			}
		}
	}
	for _, s := range settings() {
		lists := hiddenOf(s)
		for kind := -1; kind < 8; kind++ {
			for a := -1; a < 6; a++ {
				for b := -1; b < 6; b++ {
					for n := -1; n < 19; n++ {
						if c := (impl.Clue{Kind: kind, A: a, B: b, C: n}); !isClueByModel(s, c) {
							fails(s.friends, c, lists[(a+b+n+3)%len(lists)])
						}
					}
				}
			}
		}
	}
}

// Promise 9: a puzzle has at most MaxClues clues, perhaps none, and all of them are clues.
func TestIsPuzzle(t *testing.T) {
	for _, s := range append(settings(), wrongSettings()...) {
		can := slices.Contains(settings(), s)
		for _, n := range []int{0, 1, 2, 5, 6, 7, 8, 100, 100000} {
			p := impl.Puzzle{Friends: s.friends, Calls: s.calls, Clues: slices.Repeat([]impl.Clue{clue("5.0.0.2")}, n)}
			if got := impl.IsPuzzle(p); got != (can && n <= 6) {
				t.Errorf("IsPuzzle %v of %d clues: %v", s, n, got)
			}
		}
	}
	for _, s := range settings() {
		for n := 1; n <= impl.MaxClues; n++ {
			for k := range n {
				p := impl.Puzzle{Friends: s.friends, Calls: s.calls, Clues: slices.Repeat([]impl.Clue{clue("2.1.0.1")}, n)}
				if !impl.IsPuzzle(p) {
					t.Errorf("IsPuzzle %s: false", writtenPuzzle(p))
				}
				for _, one := range []impl.Clue{{Kind: 6}, {Kind: -1}, {Kind: 1}, {Kind: 5, C: 17}, {Kind: 4, A: s.calls}, {A: s.friends}, {B: 1}, {C: s.calls + 1}, {Kind: math.MaxInt}, {Kind: math.MinInt}} {
					p.Clues[k] = one
					if impl.IsPuzzle(p) {
						t.Errorf("IsPuzzle %s: true", writtenPuzzle(p))
					}
				}
			}
		}
	}
}

// Promise 9: all puzzles of at most two clues, where there are few hidden lists.
func TestSmallPuzzles(t *testing.T) {
	for _, s := range settings() {
		p := impl.Puzzle{Friends: s.friends, Calls: s.calls}
		checkPuzzle(t, p)
		for _, first := range cluesOf(s) {
			p.Clues = []impl.Clue{first}
			checkPuzzle(t, p)
			if len(hiddenOf(s)) > 6 {
				continue // to save time
			}
			for _, second := range cluesOf(s) {
				p.Clues = []impl.Clue{first, second}
				checkPuzzle(t, p)
			}
		}
	}
}

// Promise 9: puzzles of all numbers of clues, with no solution, one and more.
func TestPuzzles(t *testing.T) {
	none, solved, more := 0, 0, 0
	for _, p := range puzzleSample() {
		checkPuzzle(t, p)
		switch len(solutionsByModel(settingOf(p), p.Clues)) {
		case 0:
			none++
		case 1:
			solved++
		default:
			more++
		}
	}
	if none < 100 || solved < 150 || more < 150 {
		t.Errorf("%d puzzles have no solution, %d one, %d more", none, solved, more)
	}
}

// Promise 9: puzzles of which the solutions are known.
func TestKnownPuzzles(t *testing.T) {
	for _, c := range []struct {
		puzzle   string
		first    string
		sure     string
		needless []int
		left     []int
		best     int
	}{
		{"2c0:", "", "", nil, []int{1}, -1},
		{"2c1:", "01", "01", nil, []int{1}, -1},
		{"2c3:", "01-01-01", "01-01-01", nil, []int{1}, -1},
		{"2c2:3.0.0.1", "01-01", "01-01", []int{0}, []int{1, 1}, 0},
		{"3c1:", "01", "??", nil, []int{3}, -1},
		{"3c1:0.0.0.0", "12", "12", nil, []int{3, 1}, 0},
		{"3c1:4.0.0.0,0.1.0.1,4.0.2.1", "12", "12", []int{0, 1, 2}, []int{3, 1, 1, 1}, 0},
		{"4c0:0.3.0.0,1.2.0.1,2.1.2.0,3.0.0.0,5.0.0.4", "", "", []int{0, 1, 2, 3, 4}, []int{1, 1, 1, 1, 1, 1}, 0},
		{"4c1:0.0.0.1,0.3.0.1", "03", "03", nil, []int{6, 3, 1}, 0},
		{"4c1:0.0.0.1,1.3.0.2,2.0.3.1,5.0.0.6", "03", "03", []int{0, 1, 2, 3}, []int{6, 3, 1, 1, 1}, 2},
		{"4c3:3.0.0.2,0.2.0.3,0.3.0.3", "23-23-23", "23-23-23", []int{0}, []int{216, 6, 3, 1}, 0},
		{"4c3:2.0.3.1,2.3.0.0,2.2.3.1,4.1.1.0,0.3.0.1,1.1.0.2", "01-23-02", "??-23-02", []int{2}, []int{216, 119, 24, 19, 9, 5, 2}, 5},
		{"3c2:4.0.0.1,4.0.1.1,4.1.1.1,4.1.2.1,3.0.0.0,2.2.2.1", "01-12", "01-12", []int{0, 3, 4, 5}, []int{9, 6, 3, 2, 1, 1, 1}, 0},
	} {
		p := puzzle(c.puzzle)
		checkPuzzle(t, p)
		first, ok := impl.FirstSolution(p)
		expect(t, "FirstSolution "+c.puzzle, first, ok, calls(c.first))
		sure, ok := impl.SureCalls(p)
		expect(t, "SureCalls "+c.puzzle, sure, ok, c.sure)
		needless, ok := impl.NeedlessClues(p)
		expect(t, "NeedlessClues "+c.puzzle, needless, ok, c.needless)
		left, ok := impl.LeftByClues(p)
		expect(t, "LeftByClues "+c.puzzle, left, ok, c.left)
		best, ok := impl.BestClue(p)
		if c.best < 0 {
			expectFail(t, "BestClue "+c.puzzle, best, ok)
		} else {
			expect(t, "BestClue "+c.puzzle, best, ok, c.best)
		}
	}
}

// Promise 9: puzzles without a solution have none first, nothing is sure in them, and none are harder; clues are still needless, left and best.
func TestPuzzlesWithoutSolution(t *testing.T) {
	for _, c := range []struct {
		puzzle   string
		needless []int
		left     []int
		best     int
	}{
		{"2c2:3.0.0.0", nil, []int{1, 0}, 0},
		{"3c0:2.0.1.1", nil, []int{1, 0}, 0},
		{"3c2:5.0.0.16", nil, []int{9, 0}, 0},
		{"3c1:0.0.0.0,0.1.0.0", nil, []int{3, 1, 0}, 0},
		{"3c1:0.0.0.1,0.0.0.0", nil, []int{3, 2, 0}, 1},
		{"4c3:5.0.0.14,4.0.3.1,4.1.0.0", []int{1, 2}, []int{216, 0, 0, 0}, 0},
		{"3c1:5.0.0.1,5.0.0.1", []int{0, 1}, []int{3, 0, 0}, 0},
	} {
		p := puzzle(c.puzzle)
		checkPuzzle(t, p)
		n, ok := impl.CountSolutions(p)
		expect(t, "CountSolutions "+c.puzzle, n, ok, 0)
		solved, ok := impl.IsSolved(p)
		expect(t, "IsSolved "+c.puzzle, solved, ok, false)
		needless, ok := impl.NeedlessClues(p)
		expect(t, "NeedlessClues "+c.puzzle, needless, ok, c.needless)
		left, ok := impl.LeftByClues(p)
		expect(t, "LeftByClues "+c.puzzle, left, ok, c.left)
		best, ok := impl.BestClue(p)
		expect(t, "BestClue "+c.puzzle, best, ok, c.best)
	}
}

// Promise 9: what are no puzzles, by friends, calls, too many clues, or a clue that is none.
func TestWrongPuzzles(t *testing.T) {
	for _, s := range wrongSettings() {
		for _, clues := range []string{"", "5.0.0.2", "1.0.0.1,1.1.0.1", "0.0.0.0", "6.0.0.0", "3.0.0.1"} {
			p := puzzle("2c0:" + clues)
			p.Friends, p.Calls = s.friends, s.calls
			failForPuzzle(t, p)
		}
	}
	for _, s := range settings() {
		most := impl.Puzzle{Friends: s.friends, Calls: s.calls, Clues: slices.Repeat([]impl.Clue{clue("1.1.0.2")}, impl.MaxClues)}
		checkPuzzle(t, most)
		for _, n := range []int{7, 8, 1000} {
			failForPuzzle(t, impl.Puzzle{Friends: s.friends, Calls: s.calls, Clues: slices.Repeat([]impl.Clue{clue("1.1.0.2")}, n)})
		}
		for _, one := range []impl.Clue{{Kind: 6}, {Kind: -1}, {Kind: math.MaxInt}, {Kind: math.MinInt}, {A: s.friends}, {A: -1}, {B: 1}, {C: s.calls + 1}, {C: -1}, {Kind: 1}, {Kind: 1, C: s.friends + 1}, {Kind: 1, B: 1, C: 1}, {Kind: 1, A: s.friends, C: 1},
			{Kind: 2, C: 2}, {Kind: 2, A: s.friends}, {Kind: 2, B: s.friends}, {Kind: 2, B: -1}, {Kind: 3, A: 1}, {Kind: 3, B: 1}, {Kind: 3, C: s.calls + 1}, {Kind: 4, A: s.calls}, {Kind: 4, A: -1}, {Kind: 4, B: s.friends}, {Kind: 4, C: 2}, {Kind: 5}, {Kind: 5, C: 17}, {Kind: 5, A: 1, C: 8}, {Kind: 5, B: 1, C: 8}} {
			for _, clues := range [][]impl.Clue{{one}, {one, {}}, {{}, one}, {{}, {}, one, {}, {}, {}}, {{}, {}, {}, {}, {}, one}} {
				failForPuzzle(t, impl.Puzzle{Friends: s.friends, Calls: s.calls, Clues: clues})
			}
		}
	}
}

// Promise 9: clues are put behind the others as long as there are fewer than MaxClues, and those that there are are dropped.
func TestChangedPuzzles(t *testing.T) {
	for _, p := range puzzleSample() {
		s, what := settingOf(p), " "+writtenPuzzle(p)
		for n := range 3 {
			c := cluesOf(s)[(n*97+len(p.Clues))%len(cluesOf(s))]
			added, ok := impl.AddClue(p, c)
			if len(p.Clues) == impl.MaxClues {
				expectFail(t, fmt.Sprint("AddClue", what, " ", c), added, ok)
				continue
			}
			expectPuzzle(t, fmt.Sprint("AddClue", what, " ", c), added, ok, impl.Puzzle{Friends: p.Friends, Calls: p.Calls, Clues: append(slices.Clone(p.Clues), c)})
			back, ok := impl.DropClue(added, len(p.Clues))
			expectPuzzle(t, fmt.Sprint("DropClue AddClue", what, " ", c), back, ok, p)
		}
		for _, c := range []impl.Clue{{Kind: 6}, {Kind: -1}, {A: s.friends}, {B: 1}, {C: s.calls + 1}, {Kind: 1}, {Kind: 4, A: s.calls}, {Kind: 5}, {Kind: 5, C: 17}, {Kind: math.MaxInt}} {
			added, ok := impl.AddClue(p, c)
			expectFail(t, fmt.Sprint("AddClue", what, " ", c), added, ok)
		}
		for _, k := range []int{math.MinInt, -2, -1, len(p.Clues), len(p.Clues) + 1, 6, 7, 1 << 32, math.MaxInt} {
			dropped, ok := impl.DropClue(p, k)
			expectFail(t, fmt.Sprint("DropClue", what, " ", k), dropped, ok)
		}
	}
	added, ok := impl.AddClue(puzzle("3c2:1.0.0.3"), clue("0.2.0.1"))
	expectPuzzle(t, "AddClue", added, ok, puzzle("3c2:1.0.0.3,0.2.0.1"))
	dropped, ok := impl.DropClue(added, 0)
	expectPuzzle(t, "DropClue", dropped, ok, puzzle("3c2:0.2.0.1"))
}

// Promise 9: harder puzzles are solved by the same list, and by more without any one clue; clues are tried from the first one on.
func TestHarderPuzzle(t *testing.T) {
	for from, want := range map[string]string{
		"2c0:":                        "2c0:",
		"2c3:":                        "2c3:",
		"2c2:3.0.0.1":                 "2c2:",
		"2c3:2.1.0.1,4.2.1.1":         "2c3:",
		"3c1:0.0.0.0":                 "3c1:0.0.0.0",
		"3c1:4.0.0.0,0.1.0.1,4.0.2.1": "3c1:0.1.0.1,4.0.2.1",
		"3c3:1.2.0.1,3.0.0.2":         "3c3:1.2.0.1",
		"4c1:0.0.0.1,0.3.0.1":         "4c1:0.0.0.1,0.3.0.1",
		"4c3:3.0.0.2,0.2.0.3,0.3.0.3": "4c3:0.2.0.3,0.3.0.3",
		"4c0:0.3.0.0,1.2.0.1,5.0.0.4": "4c0:",
		"4c1:0.0.0.1,1.3.0.2,2.0.3.1": "4c1:2.0.3.1",
		"3c1:0.0.0.0,0.0.0.0,0.0.0.0": "3c1:0.0.0.0",
		"4c1:0.0.0.1,0.3.0.1,2.0.3.1": "4c1:2.0.3.1",
		"4c1:2.0.3.1,0.0.0.1,0.3.0.1": "4c1:0.0.0.1,0.3.0.1",
		"3c2:4.0.0.1,4.0.1.1,4.1.1.1,4.1.2.1,3.0.0.0,2.2.2.1":  "3c2:4.0.1.1,4.1.1.1,4.1.2.1,3.0.0.0",
		"4c3:0.0.0.3,4.0.1.1,4.1.2.1,4.2.3.1,1.0.0.4,5.0.0.13": "4c3:0.0.0.3,4.1.2.1,4.2.3.1,5.0.0.13",
	} {
		harder, ok := impl.HarderPuzzle(puzzle(from))
		expectPuzzle(t, "HarderPuzzle "+from, harder, ok, puzzle(want))
	}
	for _, p := range puzzleSample() {
		harder, ok := impl.HarderPuzzle(p)
		if solved, _ := impl.IsSolved(p); ok != solved {
			t.Errorf("HarderPuzzle %s: %v", writtenPuzzle(p), ok)
		}
		if !ok {
			continue
		}
		first, _ := impl.FirstSolution(p)
		solutions, ok := impl.Solutions(harder)
		expect(t, "Solutions of HarderPuzzle "+writtenPuzzle(p), solutions, ok, [][]impl.Call{first})
		for k := range harder.Clues {
			if n := len(solutionsByModel(settingOf(p), withoutClue(harder.Clues, k))); n < 2 {
				t.Errorf("HarderPuzzle %s: %s has %d solutions without %d", writtenPuzzle(p), writtenPuzzle(harder), n, k)
			}
		}
	}
	for _, s := range []string{"3c1:", "3c2:1.0.0.3,0.2.0.1", "2c2:3.0.0.0", "3c2:5.0.0.16", "4c3:"} {
		harder, ok := impl.HarderPuzzle(puzzle(s))
		expectFail(t, "HarderPuzzle "+s, harder, ok)
	}
}

// madeByModel makes a puzzle with big steps: all numbers first, and then a clue of each two of them.
func madeByModel(s setting, list []impl.Call, clues int, seed int) impl.Puzzle {
	numbers := []int{seed}
	for k := range 2 * clues {
		numbers = append(numbers, (numbers[k]*197+2531)%10007)
	}
	p := impl.Puzzle{Friends: s.friends, Calls: s.calls}
	for k := range clues {
		kind, y := numbers[2*k+1]%6, numbers[2*k+2]
		if kind == 4 && s.calls == 0 {
			kind = 0
		}
		c := impl.Clue{Kind: kind}
		switch kind {
		case 0, 1:
			c.A = y % s.friends
		case 2:
			c.A, c.B = y%s.friends, y/7%s.friends
		case 4:
			c.A, c.B = y%s.calls, y/7%s.friends
		}
		c.C = toldOf(s.friends, list, c.Kind, c.A, c.B)
		p.Clues = append(p.Clues, c)
	}
	return p
}

func checkMade(t *testing.T, s setting, list []impl.Call, clues int, seed int) impl.Puzzle {
	t.Helper()
	what := fmt.Sprint("MakePuzzle ", s, " ", written(list), " ", clues, " ", seed)
	made, ok := impl.MakePuzzle(s.friends, list, clues, seed)
	expectPuzzle(t, what, made, ok, madeByModel(s, list, clues, seed))
	if !impl.IsPuzzle(made) || len(made.Clues) != clues {
		t.Errorf("%s: %s", what, writtenPuzzle(made))
	}
	return made
}

// Promise 9: puzzles are made by their seeds of what a list tells.
func TestMakePuzzle(t *testing.T) {
	for _, s := range settings() {
		for n, list := range hiddenOf(s) {
			for clues := range impl.MaxClues + 1 {
				for _, seed := range []int{0, 1, 2, 9998, 9999, (n*7 + clues*1301) % 10000} {
					made := checkMade(t, s, list, clues, seed)
					solutions, ok := impl.Solutions(made)
					if !ok || !slices.ContainsFunc(solutions, func(x []impl.Call) bool { return slices.Equal(x, list) }) {
						t.Errorf("MakePuzzle %v %s %d %d: it does not fit", s, written(list), clues, seed)
					}
				}
			}
		}
	}
	kinds := map[int]bool{}
	for seed := range 10000 {
		for _, c := range checkMade(t, setting{4, 3}, calls("01-23-02"), 1, seed).Clues {
			kinds[c.Kind] = true
		}
		checkMade(t, setting{3, 0}, nil, 2, seed)
	}
	if len(kinds) != 6 {
		t.Errorf("made clues are of the kinds %v", kinds)
	}
}

// Promise 9: puzzles that are known to be made.
func TestKnownMadePuzzles(t *testing.T) {
	for _, c := range []struct {
		friends int
		list    string
		clues   int
		seed    int
		puzzle  string
	}{
		{3, "01-02", 2, 0, "3c2:5.0.0.8,0.0.0.2"},
		{3, "12", 0, 5, "3c1:"},
		{2, "", 6, 0, "2c0:5.0.0.2,0.0.0.0,0.1.0.0,2.1.1.1,0.1.0.0,2.1.1.1"},
		{4, "", 6, 4, "4c0:1.3.0.1,0.2.0.0,0.0.0.0,0.0.0.0,0.1.0.0,5.0.0.4"},
		{4, "01-23-02", 6, 0, "4c3:5.0.0.12,0.0.0.2,4.1.1.0,2.1.3.0,0.3.0.1,2.1.3.0"},
		{4, "01-23-02", 6, 1, "4c3:4.0.0.1,1.1.0.2,0.0.0.2,2.1.1.1,3.0.0.0,0.1.0.1"},
		{4, "01-23-02", 6, 9999, "4c3:1.1.0.2,4.1.0.0,1.3.0.2,2.2.0.1,3.0.0.0,3.0.0.0"},
		{3, "01-01-12", 5, 1234, "3c3:1.0.0.2,1.0.0.2,4.1.0.1,1.2.0.3,5.0.0.8"},
		{2, "01", 6, 77, "2c1:1.1.0.2,5.0.0.4,5.0.0.4,3.0.0.0,5.0.0.4,1.0.0.2"},
		{4, "13-03", 6, 500, "4c2:1.3.0.3,4.0.2.0,4.1.1.0,2.2.0.0,3.0.0.0,1.3.0.3"},
		{2, "01-01-01", 6, 4321, "2c3:5.0.0.4,0.1.0.3,2.0.0.1,1.0.0.2,4.0.1.1,2.1.0.1"},
	} {
		made, ok := impl.MakePuzzle(c.friends, calls(c.list), c.clues, c.seed)
		expectPuzzle(t, fmt.Sprint("MakePuzzle ", c), made, ok, puzzle(c.puzzle))
	}
}

// Promise 9: nothing is made of lists that are not hidden ones, or with numbers of clues and seeds below 0 and above the greatest.
func TestWrongMadePuzzles(t *testing.T) {
	fails := func(friends int, list []impl.Call, clues int, seed int) {
		t.Helper()
		made, ok := impl.MakePuzzle(friends, list, clues, seed)
		expectFail(t, fmt.Sprintf("MakePuzzle %d %.40s %d %d", friends, written(list), clues, seed), made, ok)
	}
	for _, clues := range []int{0, 1, 6} {
		for _, seed := range []int{0, 5000, 9999} {
			for _, friends := range []int{math.MinInt, -1, 0, 1, 5, 10, 11, math.MaxInt} {
				for _, list := range []string{"", "01", "01-01-01"} {
					fails(friends, calls(list), clues, seed)
				}
			}
			for _, friends := range []int{2, 3, 4} {
				for _, list := range []string{"01-01-01-01", "10", "00", "11", "04", "01-34", "09", "01-01-10"} {
					fails(friends, calls(list), clues, seed)
				}
				fails(friends, repeated(impl.Call{A: 0, B: 1}, 1000), clues, seed)
				fails(friends, []impl.Call{{A: 0, B: friends}}, clues, seed)
				fails(friends, []impl.Call{{A: -1, B: 1}}, clues, seed)
				fails(friends, []impl.Call{{A: math.MinInt, B: math.MaxInt}}, clues, seed)
			}
		}
	}
	for _, s := range settings() {
		list := hiddenOf(s)[0]
		for _, clues := range []int{math.MinInt, -2, -1, 7, 8, 1 << 32, math.MaxInt} {
			fails(s.friends, list, clues, 1)
		}
		for _, seed := range []int{math.MinInt, -2, -1, 10000, 10001, 10006, 10007, 1 << 32, math.MaxInt} {
			fails(s.friends, list, 0, seed)
			fails(s.friends, list, 6, seed)
		}
	}
}

// Promise 9: puzzles are written and read again, those without clues, too.
func TestPuzzleText(t *testing.T) {
	for s, want := range map[string]impl.Puzzle{
		"2c0:":                       {Friends: 2},
		"4c3:":                       {Friends: 4, Calls: 3},
		"3c2:5.0.0.10":               {Friends: 3, Calls: 2, Clues: []impl.Clue{{Kind: 5, C: 10}}},
		"4c3:5.0.0.16,4.2.3.1":       {Friends: 4, Calls: 3, Clues: []impl.Clue{{Kind: 5, C: 16}, {Kind: 4, A: 2, B: 3, C: 1}}},
		"2c1:0.1.0.1,0.1.0.1":        {Friends: 2, Calls: 1, Clues: []impl.Clue{{A: 1, C: 1}, {A: 1, C: 1}}},
		"2c3:" + sixClues("2.1.0.1"): {Friends: 2, Calls: 3, Clues: slices.Repeat([]impl.Clue{{Kind: 2, A: 1, C: 1}}, 6)},
	} {
		text, ok := impl.PuzzleText(want)
		expect(t, fmt.Sprint("PuzzleText ", want), text, ok, s)
		got, ok := impl.ParsePuzzle(s)
		expectPuzzle(t, fmt.Sprintf("ParsePuzzle %q", s), got, ok, want)
	}
}

func sixClues(s string) string { return strings.Repeat(s+",", 5) + s }

// Promise 9: texts that are no PuzzleText.
func TestWrongPuzzleTexts(t *testing.T) {
	wrong := []string{"", ":", "c", "c:", "3", "3c", "3c2", "3:2", "c2:", "3c:", "3c2:,", "3c2::", "3cc2:", "3c2c:", " 3c2:", "3c2: ", "3c2:\n", "3c2:\x00", "\x003c2:", "3C2:", "3 c2:", "3c 2:", "3c2;", "3x2:", "２c0:", "3c2:x", "é", "\xff",
		"1c0:", "0c0:", "5c0:", "-2c0:", "10c0:", "22c0:", "2c4:", "2c-1:", "2c10:", "02c0:", "2c00:", "+2c0:", "2c+1:", "2c-0:", "2c01:", "99999999999999999999c0:", "2c99999999999999999999:", "18446744073709551618c0:", "2c18446744073709551617:",
		"3c2:1.0.0.3,", "3c2:,1.0.0.3", "3c2:1.0.0.3,,0.2.0.1", "3c2:1.0.0.3;0.2.0.1", "3c2:1.0.0.3 0.2.0.1", "3c2:1.0.0.3, 0.2.0.1", "3c2:1.0.0.3:0.2.0.1", "3c2:1.0.0.3,3c2:", "1.0.0.3", "3c2 1.0.0.3", "3c21.0.0.3",
		"3c2:1", "3c2:1.0", "3c2:1.0.0", "3c2:1.0.0.", "3c2:1..0.3", "3c2:.0.0.3", "3c2:1.0.0.3.", "3c2:.1.0.0.3", "3c2:1.0.0.3.0", "3c2:1.0.0.3.0.2.0.1", "3c2:...", "3c2:1,0,0,3", "3c2:1003", "3c2:1-0-0-3", "3c2:0.0.0.0.", "3c2:0.0.0", "3c2:0.0..0", "3c2:0", "3c2:.",
		"2c0:" + sixClues("5.0.0.2") + ",5.0.0.2", "2c0:" + sixClues("5.0.0.2") + ",", "2c0:" + strings.Repeat("5.0.0.2,", 1000) + "5.0.0.2", "2c0:" + strings.Repeat(",", 100000), "2c0:" + strings.Repeat("0.", 100000), strings.Repeat("2c0:", 1000), strings.Repeat("2", 100000), strings.Repeat("c", 100000), strings.Repeat(":", 100000)}
	for _, n := range []string{"", "-1", "+0", "-0", "00", "01", "+1", " 0", "0 ", "4", "7", "17", "016", "x", "/", ":", "\x00", "\xff", "０", "9223372036854775808", "18446744073709551616", "99999999999999999999", "1e0", "0x0", "1_0"} {
		wrong = append(wrong, "3c2:"+n+".0.0.2", "3c2:0."+n+".0.2", "3c2:2.0."+n+".1", "3c2:2.0.0."+n, "3c2:5.0.0.8,"+n+".0.0.2", "3c2:0.0.0."+n+",5.0.0.8", n+"c2:5.0.0.8", "3c"+n+":5.0.0.8")
	}
	for _, s := range wrong {
		if s == "4c2:5.0.0.8" {
			continue // the only one with a number that is right there
		}
		got, ok := impl.ParsePuzzle(s)
		expectFail(t, fmt.Sprintf("ParsePuzzle %.60q", s), got, ok)
	}
	for _, s := range []string{"3c2:6.0.0.1", "3c2:4.2.0.1", "3c2:0.3.0.1", "3c2:0.0.1.1", "3c2:5.0.0.0", "3c2:5.0.0.17", "3c0:4.0.0.0", "3c2:1.0.0.4", "3c2:3.0.0.3"} {
		got, ok := impl.ParsePuzzle(s)
		expectFail(t, fmt.Sprintf("ParsePuzzle %q", s), got, ok)
	}
}
