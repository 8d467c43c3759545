package tests

import (
	"fmt"
	"math"
	"math/rand"
	"slices"
	"strings"
	"testing"

	"loop.example/g01316/impl"
)

// wireTests reads tests such as "0+2/1+2" without the package's help: each second byte is a wire or begins the next test.
func wireTests(s string) [][]int {
	var out [][]int
	for _, part := range strings.Split(s, "/") {
		var test []int
		for i := 0; i < len(part); i += 2 {
			test = append(test, int(part[i]-'0'))
		}
		if len(test) > 0 {
			out = append(out, test)
		}
	}
	return out
}

func writtenTests(tests [][]int) string {
	s := strings.Trim(fmt.Sprint(tests), "[]")
	return strings.ReplaceAll(strings.ReplaceAll(s, "] [", "/"), " ", "+")
}

var keptWireSets = map[int][][]int{}

// wireSets returns all increasing lists of so many wires, the shorter ones first, then lexicographically.
func wireSets(wires int) [][]int {
	if kept, ok := keptWireSets[wires]; ok {
		return kept
	}
	var out [][]int
	for chosen := range 1 << wires {
		out = append(out, chosenWires(wires, chosen))
	}
	slices.SortFunc(out, compareWires)
	keptWireSets[wires] = out
	return out
}

func compareWires(x []int, y []int) int {
	if len(x) != len(y) {
		return len(x) - len(y)
	}
	return slices.Compare(x, y)
}

func chosenWires(wires int, chosen int) []int {
	var out []int
	for wire := range wires {
		if chosen>>wire&1 > 0 {
			out = append(out, wire)
		}
	}
	return out
}

// breaks reports whether a test has a broken wire.
func breaks(test []int, broken []int) bool {
	for _, wire := range test {
		if slices.Contains(broken, wire) {
			return true
		}
	}
	return false
}

func signsOf(tests [][]int, broken []int) string {
	s := ""
	for _, test := range tests {
		if breaks(test, broken) {
			s += "1"
		} else {
			s += "0"
		}
	}
	return s
}

// fittingSets returns the lists of at most so many broken wires with the results, in order.
func fittingSets(wires int, tests [][]int, results string, most int) [][]int {
	var out [][]int
	for _, broken := range wireSets(wires) {
		if len(broken) <= most && signsOf(tests, broken) == results {
			out = append(out, broken)
		}
	}
	return out
}

// tellUpTo reports whether there are as many different results as lists of at most so many broken wires.
func tellUpTo(wires int, tests [][]int, most int) bool {
	lists, signs := 0, map[string]bool{}
	for _, broken := range wireSets(wires) {
		if len(broken) <= most {
			lists++
			signs[signsOf(tests, broken)] = true
		}
	}
	return len(signs) == lists
}

func digitTests(wires int) [][]int {
	var out [][]int
	for power := 1; power <= wires; power *= 2 {
		var test []int
		for number := 1; number <= wires; number++ {
			if number/power%2 == 1 {
				test = append(test, number-1)
			}
		}
		out = append(out, test)
	}
	return out
}

func eachAlone(wires int) [][]int {
	var out [][]int
	for wire := range wires {
		out = append(out, []int{wire})
	}
	return out
}

// testCase are tests of so many wires.
type testCase struct {
	wires int
	tests [][]int
}

func (c testCase) String() string { return fmt.Sprint(c.wires, " ", writtenTests(c.tests)) }

func randomTests(r *rand.Rand, wires int, n int) [][]int {
	var out [][]int
	for range n {
		out = append(out, chosenWires(wires, 1+r.Intn(1<<wires-1)))
	}
	return out
}

// testSample returns all tests of at most 3 wires with at most 2 of them, some of each number, and those that tell much.
func testSample() []testCase {
	var out []testCase
	for wires := 1; wires <= 3; wires++ {
		out = append(out, testCase{wires, nil})
		for _, x := range wireSets(wires)[1:] {
			out = append(out, testCase{wires, [][]int{x}})
			for _, y := range wireSets(wires)[1:] {
				out = append(out, testCase{wires, [][]int{x, y}})
			}
		}
	}
	r := rand.New(rand.NewSource(24))
	for wires := 1; wires <= impl.MaxTested; wires++ {
		out = append(out, testCase{wires, nil}, testCase{wires, eachAlone(wires)}, testCase{wires, digitTests(wires)},
			testCase{wires, append(eachAlone(wires), wireSets(wires)[1<<wires-1])}, testCase{wires, slices.Repeat([][]int{{wires - 1}}, 12)})
		for n := 1; n <= impl.MaxTests; n++ {
			out = append(out, testCase{wires, randomTests(r, wires, n)})
		}
	}
	return out
}

// wrongTests are lists that are no tests, however many wires there are.
func wrongTests() [][][]int {
	out := [][][]int{{nil}, {{}}, {{0}, nil}, {{}, {0}}, {{0}, {}, {0}}, slices.Repeat([][]int{{0}}, 13), slices.Repeat([][]int{{0}}, 1000), make([][]int, 13),
		{{0, 0}}, {{1, 0}}, {{0, 1, 1}}, {{0, 2, 1}}, {{0}, {1, 1}}, {{0}, {2, 0, 1}, {0}}, {{0, -1}}, {{-1, 0}}, {{0, 1, 2, 3, 4, 5, 6, 7, 8, 9, 10}}, {make([]int, 1000)}}
	for _, n := range []int{math.MinInt, -64, -2, -1, 10, 11, 16, 63, 64, 1 << 32, math.MaxInt} {
		out = append(out, [][]int{{n}}, [][]int{{0, n}}, [][]int{{0}, {n}})
	}
	return out
}

var wrongTested = []int{math.MinInt, -10, -1, 0, 11, 12, 16, 64, math.MaxInt}

// Promise 6: tests are lists of increasing wires of the cable, none of them empty.
func TestAreTests(t *testing.T) {
	for _, c := range testSample() {
		if !impl.AreTests(c.wires, c.tests) {
			t.Errorf("AreTests %v: false", c)
		}
		for wires := -1; wires <= 12; wires++ {
			want := wires >= 1 && wires <= 10
			for _, test := range c.tests {
				want = want && slices.Max(test) < wires
			}
			if got := impl.AreTests(wires, c.tests); got != want {
				t.Errorf("AreTests %d, %v: %v", wires, c.tests, got)
			}
		}
	}
	for wires := 1; wires <= 3; wires++ {
		for length := 1; length <= 3; length++ {
			for _, list := range listsOf(length, wires+1) {
				for i := range list {
					list[i]-- // so that numbers below 0 are among them
				}
				_, want := slices.BinarySearchFunc(wireSets(wires), list, compareWires)
				if got := impl.AreTests(wires, [][]int{{0}, list}); got != want {
					t.Errorf("AreTests %d, 0 and %v: %v", wires, list, got)
				}
			}
		}
	}
	for _, tests := range wrongTests() {
		for wires := -1; wires <= 12; wires++ {
			if impl.AreTests(wires, tests) {
				t.Errorf("AreTests %d, %v: true", wires, tests)
			}
		}
	}
	for _, wires := range wrongTested {
		for _, tests := range [][][]int{nil, {}, {{0}}, {{0, 1}, {0}}} {
			if impl.AreTests(wires, tests) {
				t.Errorf("AreTests %d, %v: true", wires, tests)
			}
		}
	}
}

// failAll checks that all functions of chapter 6 that take tests fail for arguments of which one is invalid for them.
func failAll(t *testing.T, wires int, tests [][]int, results string, most int) {
	t.Helper()
	what := fmt.Sprintf("(%d, %v, %q, %d)", wires, tests, results, most)
	count, ok := impl.CountFitting(wires, tests, results, most)
	expectFail(t, "CountFitting"+what, count, ok)
	sets, ok := impl.FittingSets(wires, tests, results, most)
	expectFail(t, "FittingSets"+what, sets, ok)
	sure, ok := impl.SureWires(wires, tests, results, most)
	expectFail(t, "SureWires"+what, sure, ok)
	best, n, ok := impl.BestTest(wires, tests, results, most)
	expectFail(t, "BestTest"+what, best, ok)
	expectFail(t, "BestTest"+what, n, ok)
}

// failToTell checks that the functions that take no results fail.
func failToTell(t *testing.T, wires int, tests [][]int, most int) {
	t.Helper()
	what := fmt.Sprintf("(%d, %v, %d)", wires, tests, most)
	told, ok := impl.TellsUpTo(wires, tests, most)
	expectFail(t, "TellsUpTo"+what, told, ok)
	needless, ok := impl.NeedlessTests(wires, tests, most)
	expectFail(t, "NeedlessTests"+what, needless, ok)
}

// Promise 6: lists that are no tests, and numbers of wires that there cannot be, make all functions of tests fail.
func TestWrongTests(t *testing.T) {
	fails := func(wires int, tests [][]int) {
		t.Helper()
		results := strings.Repeat("1", len(tests))
		failAll(t, wires, tests, results, 1)
		failAll(t, wires, tests, results, 0)
		failToTell(t, wires, tests, 0)
		failToTell(t, wires, tests, 1)
		what := fmt.Sprint(" ", wires, tests)
		signs, ok := impl.ResultsOf(wires, tests, nil)
		expectFail(t, "ResultsOf"+what, signs, ok)
		greatest, ok := impl.GreatestTold(wires, tests)
		expectFail(t, "GreatestTold"+what, greatest, ok)
		suspects, ok := impl.SuspectsOf(wires, tests, results)
		expectFail(t, "SuspectsOf"+what, suspects, ok)
		for _, other := range [][][]int{nil, {{0}}, tests} {
			joined, ok := impl.JoinTests(wires, tests, other)
			expectFail(t, fmt.Sprint("JoinTests", what, other), joined, ok)
			joined, ok = impl.JoinTests(wires, other, tests)
			expectFail(t, fmt.Sprint("JoinTests ", wires, other, tests), joined, ok)
		}
	}
	for _, tests := range wrongTests() {
		for _, wires := range []int{1, 2, 3, 5, 10} {
			fails(wires, tests)
		}
		s, ok := impl.TestsText(tests)
		expectFail(t, fmt.Sprint("TestsText ", tests), s, ok)
	}
	for _, wires := range wrongTested {
		fails(wires, nil)
		fails(wires, [][]int{{0}})
	}
	for wires := 1; wires <= 9; wires++ {
		fails(wires, [][]int{{wires}})
		fails(wires, [][]int{{0}, {0, wires}})
	}
}

// Promise 6: the result of each test tells whether one of its wires is broken.
func TestResultsOf(t *testing.T) {
	for _, c := range testSample() {
		for _, broken := range wireSets(c.wires) {
			got, ok := impl.ResultsOf(c.wires, c.tests, broken)
			expect(t, fmt.Sprint("ResultsOf ", c, broken), got, ok, signsOf(c.tests, broken))
		}
	}
	got, ok := impl.ResultsOf(3, wireTests("0+2/1+2/0"), []int{1})
	expect(t, "ResultsOf 0+2/1+2/0, 1", got, ok, "010")
	got, ok = impl.ResultsOf(3, wireTests("0+2/1+2/0"), nil)
	expect(t, "ResultsOf 0+2/1+2/0, none", got, ok, "000")
	got, ok = impl.ResultsOf(3, wireTests("0+2/1+2/0"), []int{0, 1, 2})
	expect(t, "ResultsOf 0+2/1+2/0, all", got, ok, "111")
	got, ok = impl.ResultsOf(10, nil, []int{0, 9})
	expect(t, "ResultsOf no tests", got, ok, "")
	for wires := 1; wires <= impl.MaxTested; wires++ {
		for _, broken := range [][]int{{-1}, {wires}, {0, 0}, {0, wires}, {-1, 0}, {1, 0}, {0, -1}, {math.MaxInt}, {math.MinInt}, {0, 64}, make([]int, 1000)} {
			for _, tests := range [][][]int{nil, {{0}}} {
				got, ok := impl.ResultsOf(wires, tests, broken)
				expectFail(t, fmt.Sprint("ResultsOf ", wires, tests, broken), got, ok)
			}
		}
	}
}

// resultsFor returns results of some broken wires, those of all and of none of them, and some signs.
func resultsFor(r *rand.Rand, c testCase) []string {
	out := []string{strings.Repeat("0", len(c.tests)), strings.Repeat("1", len(c.tests)), ""}
	for range c.tests {
		out[2] += "01"[r.Intn(2):][:1]
	}
	for range 2 {
		out = append(out, signsOf(c.tests, chosenWires(c.wires, r.Intn(1<<c.wires))))
	}
	return out
}

// sureByModel returns the sign of each wire, by the lists that fit.
func sureByModel(wires int, sets [][]int) string {
	s := ""
	for wire := range wires {
		in := 0
		for _, set := range sets {
			if slices.Contains(set, wire) {
				in++
			}
		}
		switch {
		case in == len(sets):
			s += "x"
		case in == 0:
			s += "o"
		default:
			s += "?"
		}
	}
	return s
}

// Promise 6: the lists that fit are those of broken wires that have the results, and sure wires are theirs.
func TestFitting(t *testing.T) {
	r := rand.New(rand.NewSource(26))
	for _, c := range testSample() {
		for _, results := range resultsFor(r, c) {
			for most := range c.wires + 1 {
				want := fittingSets(c.wires, c.tests, results, most)
				what := fmt.Sprintf(" %v, %q, %d", c, results, most)
				count, ok := impl.CountFitting(c.wires, c.tests, results, most)
				expect(t, "CountFitting"+what, count, ok, len(want))
				sets, ok := impl.FittingSets(c.wires, c.tests, results, most)
				if len(want) > 200 {
					expectFail(t, "FittingSets"+what, sets, ok)
				} else {
					expect(t, "FittingSets"+what, sets, ok, want)
				}
				sure, ok := impl.SureWires(c.wires, c.tests, results, most)
				if len(want) == 0 {
					expectFail(t, "SureWires"+what, sure, ok)
				} else {
					expect(t, "SureWires"+what, sure, ok, sureByModel(c.wires, want))
				}
			}
		}
	}
}

// Promise 6: lists that fit and sure wires told by hand, and as many lists as are told at most.
func TestKnownFitting(t *testing.T) {
	binary := wireTests("0+2/1+2")
	sets, ok := impl.FittingSets(3, binary, "11", 1)
	expect(t, "FittingSets 11, 1", sets, ok, [][]int{{2}})
	sets, ok = impl.FittingSets(3, binary, "11", 2)
	expect(t, "FittingSets 11, 2", sets, ok, [][]int{{2}, {0, 1}, {0, 2}, {1, 2}})
	sets, ok = impl.FittingSets(3, nil, "", 3)
	expect(t, "FittingSets of no tests", sets, ok, [][]int{{}, {0}, {1}, {2}, {0, 1}, {0, 2}, {1, 2}, {0, 1, 2}})
	sets, ok = impl.FittingSets(3, nil, "", 0)
	expect(t, "FittingSets of no tests, 0", sets, ok, [][]int{{}})
	sets, ok = impl.FittingSets(2, wireTests("0/0"), "01", 2)
	expect(t, "FittingSets that none fits", sets, ok, [][]int{})
	count, ok := impl.CountFitting(2, wireTests("0/0"), "01", 2)
	expect(t, "CountFitting that none fits", count, ok, 0)
	for results, want := range map[string]string{"11": "oox", "10": "xoo", "01": "oxo", "00": "ooo"} {
		sure, ok := impl.SureWires(3, binary, results, 1)
		expect(t, "SureWires "+results+", 1", sure, ok, want)
	}
	sure, ok := impl.SureWires(3, binary, "11", 2)
	expect(t, "SureWires 11, 2", sure, ok, "???")
	sure, ok = impl.SureWires(4, wireTests("0/1+2/2+3"), "110", 4)
	expect(t, "SureWires 110", sure, ok, "xxoo")
	sure, ok = impl.SureWires(4, wireTests("0+1/3"), "10", 3)
	expect(t, "SureWires 10", sure, ok, "???o")
	for _, c := range []struct {
		wires   int
		tests   string
		results string
		most    int
		count   int
	}{{8, "0+3+5/0+4+7", "11", 8, 200}, {10, "2/0+2+3+4", "01", 4, 199}, {8, "0+3+5+7/1+2+5/0+1+3+6", "111", 7, 201}, {10, "0+2+5+6/6+7+9/2+4", "110", 8, 200},
		{10, "", "", 10, 1024}, {10, "", "", 3, 176}, {10, "", "", 4, 386}, {8, "", "", 4, 163}, {8, "", "", 5, 219}} {
		what := fmt.Sprint(" ", c)
		count, ok := impl.CountFitting(c.wires, wireTests(c.tests), c.results, c.most)
		expect(t, "CountFitting"+what, count, ok, c.count)
		sets, ok := impl.FittingSets(c.wires, wireTests(c.tests), c.results, c.most)
		if c.count > 200 {
			expectFail(t, "FittingSets"+what, sets, ok)
		} else if !ok || len(sets) != c.count {
			t.Errorf("FittingSets%s: %d, %v", what, len(sets), ok)
		}
	}
}

// Promise 6: results are texts of just so many signs 0 and 1, and numbers of broken wires are in 0 up to all.
func TestWrongResults(t *testing.T) {
	r := rand.New(rand.NewSource(27))
	for _, c := range testSample() {
		right := signsOf(c.tests, chosenWires(c.wires, r.Intn(1<<c.wires)))
		for _, most := range []int{-1, c.wires + 1, math.MinInt, math.MaxInt, 11, 64} {
			failAll(t, c.wires, c.tests, right, most)
			failToTell(t, c.wires, c.tests, most)
		}
		wrong := []string{right + "0", right + "1", right + " ", right + "\n", strings.Repeat("0", 100000)}
		if right != "" {
			wrong = append(wrong, right[1:], "", " "+right[1:], right+right, "-"+right[:len(right)-1])
			for _, sign := range []string{"2", "/", "x", "o", "?", "a", "\x00", "\x01", "\xff", "１"} {
				k := r.Intn(len(right))
				wrong = append(wrong, right[:k]+sign+right[k+1:])
			}
		}
		if len(right) > 1 {
			wrong = append(wrong, "é"+right[2:], right[2:]+"é") // as many bytes
		}
		for _, results := range wrong {
			failAll(t, c.wires, c.tests, results, 1)
			suspects, ok := impl.SuspectsOf(c.wires, c.tests, results)
			expectFail(t, fmt.Sprintf("SuspectsOf %v, %q", c, results), suspects, ok)
		}
	}
}

// Promise 6: tests tell up to so many broken wires if all lists of them have different results.
func TestTells(t *testing.T) {
	for _, c := range testSample() {
		greatest := 0
		for most := range c.wires + 1 {
			want := tellUpTo(c.wires, c.tests, most)
			if want {
				greatest = most
			}
			told, ok := impl.TellsUpTo(c.wires, c.tests, most)
			expect(t, fmt.Sprint("TellsUpTo ", c, ", ", most), told, ok, want)
		}
		got, ok := impl.GreatestTold(c.wires, c.tests)
		expect(t, fmt.Sprint("GreatestTold ", c), got, ok, greatest)
	}
	for _, c := range []struct {
		wires int
		tests string
		want  int
	}{{3, "0+2/1+2", 1}, {3, "0/1/2", 3}, {1, "0", 1}, {1, "", 0}, {10, "", 0}, {4, "0+1/0+2/0+3/1+2/1+3/2+3", 2}, {3, "0+1/0+2/1+2", 1}, {2, "0/0+1", 1}, {10, "0/1/2/3/4/5/6/7/8/9", 10},
		{10, "0/1/2/3/4/5/6/7/8/0+9", 1}} {
		got, ok := impl.GreatestTold(c.wires, wireTests(c.tests))
		expect(t, fmt.Sprint("GreatestTold ", c.wires, " ", c.tests), got, ok, c.want)
	}
}

// Promise 6: tests of each wire alone tell all, and those by binary digits, as few as can be, tell one broken wire.
func TestSingleAndBinaryTests(t *testing.T) {
	for wires := 1; wires <= impl.MaxTested; wires++ {
		single, ok := impl.SingleTests(wires)
		expect(t, fmt.Sprint("SingleTests ", wires), single, ok, eachAlone(wires))
		greatest, ok := impl.GreatestTold(wires, single)
		expect(t, fmt.Sprint("GreatestTold of SingleTests ", wires), greatest, ok, wires)
		binary, ok := impl.BinaryTests(wires)
		expect(t, fmt.Sprint("BinaryTests ", wires), binary, ok, digitTests(wires))
		if !tellUpTo(wires, binary, 1) {
			t.Errorf("BinaryTests %d: %v do not tell one broken wire", wires, binary)
		}
		told, ok := impl.TellsUpTo(wires, binary, 1)
		expect(t, fmt.Sprint("TellsUpTo of BinaryTests ", wires), told, ok, true)
		fewest, ok := impl.FewestTests(wires)
		expect(t, fmt.Sprint("FewestTests ", wires), fewest, ok, len(binary))
	}
	for s, wires := range map[string]int{"0": 1, "0/1": 2, "0+2/1+2": 3, "0+2/1+2/3": 4, "0+2+4+6/1+2+5+6/3+4+5+6": 7, "0+2+4+6+8/1+2+5+6+9/3+4+5+6/7+8+9": 10} {
		binary, ok := impl.BinaryTests(wires)
		expect(t, fmt.Sprint("BinaryTests ", wires), binary, ok, wireTests(s))
	}
	for i, want := range []int{1, 2, 2, 3, 3, 3, 3, 4, 4, 4} {
		fewest, ok := impl.FewestTests(i + 1)
		expect(t, fmt.Sprint("FewestTests ", i+1), fewest, ok, want)
	}
	for _, wires := range wrongTested {
		single, ok := impl.SingleTests(wires)
		expectFail(t, fmt.Sprint("SingleTests ", wires), single, ok)
		binary, ok := impl.BinaryTests(wires)
		expectFail(t, fmt.Sprint("BinaryTests ", wires), binary, ok)
		fewest, ok := impl.FewestTests(wires)
		expectFail(t, fmt.Sprint("FewestTests ", wires), fewest, ok)
	}
}

// Promise 6: no tests that are fewer than FewestTests tell one broken wire, of up to 6 wires.
func TestFewestTestsAreFewest(t *testing.T) {
	for wires := 1; wires <= 6; wires++ {
		fewest, _ := impl.FewestTests(wires)
		lists := [][][]int{nil}
		for range fewest - 1 {
			var longer [][][]int
			for _, list := range lists {
				for _, test := range wireSets(wires)[1:] {
					longer = append(longer, append(slices.Clone(list), test))
				}
			}
			lists = longer
		}
		for _, list := range lists {
			if told, ok := impl.TellsUpTo(wires, list, 1); told || !ok || tellUpTo(wires, list, 1) {
				t.Errorf("TellsUpTo %d, %v, 1: %v, %v, though FewestTests is %d", wires, list, told, ok, fewest)
			}
		}
	}
}

// Promise 6: without a needless test, the others still tell.
func TestNeedlessTests(t *testing.T) {
	for _, c := range testSample() {
		for most := range c.wires + 1 {
			what := fmt.Sprint("NeedlessTests ", c, ", ", most)
			got, ok := impl.NeedlessTests(c.wires, c.tests, most)
			if !tellUpTo(c.wires, c.tests, most) {
				expectFail(t, what, got, ok)
				continue
			}
			var want []int
			for k := range c.tests {
				if tellUpTo(c.wires, slices.Delete(slices.Clone(c.tests), k, k+1), most) {
					want = append(want, k)
				}
			}
			expect(t, what, got, ok, want)
		}
	}
	for _, c := range []struct {
		wires int
		tests string
		most  int
		want  []int
	}{{3, "0+2/1+2", 1, nil}, {3, "0+2/1+2/0+2", 1, []int{0, 2}}, {3, "0+2/1+2", 0, []int{0, 1}}, {3, "0/1/2", 1, nil}, {3, "0/1/2/0+1+2", 1, []int{0, 1, 2, 3}},
		{3, "0/1/2/0+1+2", 3, []int{3}}, {1, "0/0", 1, []int{0, 1}}, {1, "0", 1, nil}, {5, "", 0, nil}} {
		got, ok := impl.NeedlessTests(c.wires, wireTests(c.tests), c.most)
		expect(t, fmt.Sprint("NeedlessTests ", c), got, ok, c.want)
	}
	got, ok := impl.NeedlessTests(3, wireTests("0+2/1+2"), 2)
	expectFail(t, "NeedlessTests that do not tell", got, ok)
	got, ok = impl.NeedlessTests(3, nil, 1)
	expectFail(t, "NeedlessTests of none", got, ok)
}

// Promise 6: suspects are in no test without a broken wire, whether or not broken wires fit.
func TestSuspectsOf(t *testing.T) {
	r := rand.New(rand.NewSource(28))
	for _, c := range testSample() {
		for _, results := range resultsFor(r, c) {
			var want []int
			for wire := range c.wires {
				cleared := false
				for k, test := range c.tests {
					cleared = cleared || results[k] == '0' && slices.Contains(test, wire)
				}
				if !cleared {
					want = append(want, wire)
				}
			}
			got, ok := impl.SuspectsOf(c.wires, c.tests, results)
			expect(t, fmt.Sprintf("SuspectsOf %v, %q", c, results), got, ok, want)
		}
	}
	for results, want := range map[string][]int{"10": {0}, "01": {1}, "11": {0, 1, 2}, "00": nil} {
		got, ok := impl.SuspectsOf(3, wireTests("0+2/1+2"), results)
		expect(t, "SuspectsOf "+results, got, ok, want)
	}
	got, ok := impl.SuspectsOf(4, nil, "")
	expect(t, "SuspectsOf no tests", got, ok, []int{0, 1, 2, 3})
	got, ok = impl.SuspectsOf(2, wireTests("0/0"), "01")
	expect(t, "SuspectsOf results that none fits", got, ok, []int{1})
}

// bestByModel returns the first test that leaves the fewest lists in the worse case, and how many it leaves.
func bestByModel(wires int, sets [][]int) ([]int, int) {
	var best []int
	least := math.MaxInt
	for _, test := range wireSets(wires)[1:] {
		left := map[bool]int{}
		for _, set := range sets {
			left[breaks(test, set)]++
		}
		if worse := max(left[true], left[false]); worse < least {
			best, least = test, worse
		}
	}
	return best, least
}

// Promise 6: the best test leaves the fewest lists that fit in the worse case.
func TestBestTest(t *testing.T) {
	r := rand.New(rand.NewSource(29))
	for _, c := range testSample() {
		for _, results := range resultsFor(r, c) {
			most := r.Intn(c.wires + 1)
			what := fmt.Sprintf("BestTest %v, %q, %d", c, results, most)
			sets := fittingSets(c.wires, c.tests, results, most)
			best, n, ok := impl.BestTest(c.wires, c.tests, results, most)
			if len(sets) == 0 {
				expectFail(t, what, best, ok)
				expectFail(t, what, n, ok)
				continue
			}
			wantBest, wantN := bestByModel(c.wires, sets)
			expect(t, what, best, ok, wantBest)
			expect(t, what, n, ok, wantN)
		}
	}
	for _, c := range []struct {
		wires   int
		tests   string
		results string
		most    int
		best    []int
		n       int
	}{{3, "", "", 1, []int{0, 1}, 2}, {3, "0+2/1+2", "11", 1, []int{0}, 1}, {3, "0+2/1+2", "11", 2, []int{0}, 2}, {4, "", "", 4, []int{0}, 8}, {1, "", "", 0, []int{0}, 1}, {1, "", "", 1, []int{0}, 1},
		{7, "", "", 1, []int{0, 1, 2, 3}, 4}, {2, "0/0/0/0/0/0/0/0/0/0/0/0", "111111111111", 2, []int{1}, 1}, {10, "", "", 10, []int{0}, 512}} {
		best, n, ok := impl.BestTest(c.wires, wireTests(c.tests), c.results, c.most)
		expect(t, fmt.Sprint("BestTest ", c), best, ok, c.best)
		expect(t, fmt.Sprint("BestTest ", c), n, ok, c.n)
	}
	best, n, ok := impl.BestTest(2, wireTests("0/0"), "10", 2)
	expectFail(t, "BestTest that none fits", best, ok)
	expectFail(t, "BestTest that none fits", n, ok)
}

// halvesByModel searches a broken wire in a list of those that are left.
func halvesByModel(left []int, broken int) [][]int {
	if len(left) < 2 {
		return nil
	}
	first, second := left[:len(left)/2], left[len(left)/2:]
	if slices.Contains(first, broken) {
		return append([][]int{first}, halvesByModel(first, broken)...)
	}
	return append([][]int{first}, halvesByModel(second, broken)...)
}

// Promise 6: a search by halves tests all wires, and then halves of those that are left, until one is.
func TestHalvesSearch(t *testing.T) {
	for wires := 1; wires <= impl.MaxTested; wires++ {
		all := wireSets(wires)[1<<wires-1]
		got, ok := impl.HalvesSearch(wires, -1)
		expect(t, fmt.Sprint("HalvesSearch ", wires, ", none"), got, ok, [][]int{all})
		for broken := range wires {
			what := fmt.Sprint("HalvesSearch ", wires, ", ", broken)
			got, ok := impl.HalvesSearch(wires, broken)
			expect(t, what, got, ok, append([][]int{all}, halvesByModel(all, broken)...))
			sets := fittingSets(wires, got, signsOf(got, []int{broken}), 1)
			if !same(sets, [][]int{{broken}}) {
				t.Errorf("%s: %v leave %v", what, got, sets)
			}
		}
		for _, broken := range []int{-2, -3, wires, wires + 1, 10, 64, math.MinInt, math.MaxInt} {
			got, ok := impl.HalvesSearch(wires, broken)
			expectFail(t, fmt.Sprint("HalvesSearch ", wires, ", ", broken), got, ok)
		}
	}
	for _, c := range []struct {
		wires  int
		broken int
		want   string
	}{{4, 2, "0+1+2+3/0+1/2"}, {1, 0, "0"}, {3, 0, "0+1+2/0"}, {3, 2, "0+1+2/0/1"}, {5, 4, "0+1+2+3+4/0+1/2/3"}, {10, 9, "0+1+2+3+4+5+6+7+8+9/0+1+2+3+4/5+6/7/8"}, {10, 0, "0+1+2+3+4+5+6+7+8+9/0+1+2+3+4/0+1/0"}} {
		got, ok := impl.HalvesSearch(c.wires, c.broken)
		expect(t, fmt.Sprint("HalvesSearch ", c.wires, ", ", c.broken), got, ok, wireTests(c.want))
	}
	for _, wires := range wrongTested {
		for _, broken := range []int{-2, -1, 0, wires - 1, wires} {
			got, ok := impl.HalvesSearch(wires, broken)
			expectFail(t, fmt.Sprint("HalvesSearch ", wires, ", ", broken), got, ok)
		}
	}
}

// Promise 6: joined tests have the results of both, and are at most MaxTests.
func TestJoinTests(t *testing.T) {
	r := rand.New(rand.NewSource(30))
	for wires := 1; wires <= impl.MaxTested; wires++ {
		for n := range impl.MaxTests + 1 {
			for m := range impl.MaxTests + 1 {
				a, b := randomTests(r, wires, n), randomTests(r, wires, m)
				what := fmt.Sprint("JoinTests ", wires, " ", a, " ", b)
				got, ok := impl.JoinTests(wires, a, b)
				if n+m > 12 {
					expectFail(t, what, got, ok)
					continue
				}
				var want [][]int
				want = append(append(want, a...), b...)
				expect(t, what, got, ok, want)
				broken := chosenWires(wires, r.Intn(1<<wires))
				signs, ok := impl.ResultsOf(wires, got, broken)
				expect(t, "ResultsOf "+what, signs, ok, signsOf(a, broken)+signsOf(b, broken))
			}
		}
	}
	got, ok := impl.JoinTests(3, wireTests("0+2"), wireTests("1+2/0"))
	expect(t, "JoinTests 0+2 and 1+2/0", got, ok, wireTests("0+2/1+2/0"))
	got, ok = impl.JoinTests(1, nil, nil)
	expect(t, "JoinTests of none", got, ok, [][]int{})
	got, ok = impl.JoinTests(2, wireTests("0"), wireTests("2"))
	expectFail(t, "JoinTests of another cable", got, ok)
}

// Promise 6: texts of tests have the wires of each, and are read again.
func TestTestsText(t *testing.T) {
	for _, c := range testSample() {
		want := writtenTests(c.tests)
		s, ok := impl.TestsText(c.tests)
		expect(t, fmt.Sprint("TestsText ", c), s, ok, want)
		got, ok := impl.ParseTests(want)
		expect(t, fmt.Sprintf("ParseTests %q", want), got, ok, c.tests)
	}
	for s, want := range map[string][][]int{"": nil, "0": {{0}}, "0+2/1+2": {{0, 2}, {1, 2}}, "9": {{9}}, "0+1+2+3+4+5+6+7+8+9/9/8+9": {{0, 1, 2, 3, 4, 5, 6, 7, 8, 9}, {9}, {8, 9}}, "3/3": {{3}, {3}}} {
		got, ok := impl.ParseTests(s)
		expect(t, fmt.Sprintf("ParseTests %q", s), got, ok, want)
		text, ok := impl.TestsText(want)
		expect(t, fmt.Sprint("TestsText ", want), text, ok, s)
	}
	most := strings.Repeat("0+1/", 12)
	got, ok := impl.ParseTests(most[:47])
	expect(t, "ParseTests of 12", got, ok, slices.Repeat([][]int{{0, 1}}, 12))
	for _, s := range []string{most + "0", most + "0+1", most + "/", most, strings.Repeat("0/", 1000) + "0", strings.Repeat("0", 100000), strings.Repeat("0+", 100000), strings.Repeat("/", 100000), strings.Repeat("+", 100000),
		"/", "+", "0/", "/0", "0//1", "0+", "+0", "0++1", "0+/1", "0/+1", "00", "01", "0 1", " 0", "0 ", "0\n", "10", "0+10", "1+0", "0+0", "0+1+1", "2+1/0", "0+2/2+1", "-1", "0-1", "0,1", "0+1;2", "a", "0+a", ":", "0+:", "/0/1/", "\x00",
		"0\x00", "0+\xff", "\xff", "é", "１", "0/1/2/3/4/5/6/7/8/9/0/1/2", "0+1+2+3+4+5+6+7+8+9+0", "0+1+2+3+4+5+6+7+8+9+9", "0+1+2+3+4+5+6+7+8+9+10", "0.1", "0+1\n/2", "0x0"} {
		got, ok := impl.ParseTests(s)
		expectFail(t, fmt.Sprintf("ParseTests %.50q", s), got, ok)
	}
}
