package tests

import (
	"fmt"
	"math/rand"
	"reflect"
	"slices"
	"strings"
	"testing"

	"loop.example/g01316/impl"
)

// wireArguments are all the arguments that a function of tests of wires may have but for texts of tests.
type wireArguments struct {
	wires   int
	tests   [][]int
	others  [][]int
	broken  []int
	results string
	number  int
}

// wireFunction is a function of chapter 6.
type wireFunction struct {
	name string
	run  func(x wireArguments) (any, bool)
}

func wireFunctions() []wireFunction {
	return []wireFunction{
		{"AreTests", func(x wireArguments) (any, bool) {
			ok := impl.AreTests(x.wires, x.tests)
			return ok, ok
		}},
		{"ResultsOf", func(x wireArguments) (any, bool) { return erase(impl.ResultsOf(x.wires, x.tests, x.broken)) }},
		{"CountFitting", func(x wireArguments) (any, bool) {
			return erase(impl.CountFitting(x.wires, x.tests, x.results, x.number))
		}},
		{"FittingSets", func(x wireArguments) (any, bool) {
			return erase(impl.FittingSets(x.wires, x.tests, x.results, x.number))
		}},
		{"TellsUpTo", func(x wireArguments) (any, bool) { return erase(impl.TellsUpTo(x.wires, x.tests, x.number)) }},
		{"GreatestTold", func(x wireArguments) (any, bool) { return erase(impl.GreatestTold(x.wires, x.tests)) }},
		{"SingleTests", func(x wireArguments) (any, bool) { return erase(impl.SingleTests(x.wires)) }},
		{"BinaryTests", func(x wireArguments) (any, bool) { return erase(impl.BinaryTests(x.wires)) }},
		{"FewestTests", func(x wireArguments) (any, bool) { return erase(impl.FewestTests(x.wires)) }},
		{"NeedlessTests", func(x wireArguments) (any, bool) { return erase(impl.NeedlessTests(x.wires, x.tests, x.number)) }},
		{"SuspectsOf", func(x wireArguments) (any, bool) { return erase(impl.SuspectsOf(x.wires, x.tests, x.results)) }},
		{"SureWires", func(x wireArguments) (any, bool) { return erase(impl.SureWires(x.wires, x.tests, x.results, x.number)) }},
		{"BestTest", func(x wireArguments) (any, bool) {
			best, n, ok := impl.BestTest(x.wires, x.tests, x.results, x.number)
			if len(best) == 0 && n == 0 {
				return [][]int(nil), ok
			}
			return [][]int{best, {n}}, ok
		}},
		{"HalvesSearch", func(x wireArguments) (any, bool) { return erase(impl.HalvesSearch(x.wires, x.number)) }},
		{"JoinTests", func(x wireArguments) (any, bool) { return erase(impl.JoinTests(x.wires, x.tests, x.others)) }},
		{"TestsText", func(x wireArguments) (any, bool) { return erase(impl.TestsText(x.tests)) }},
	}
}

// oddTests are lists of lists of numbers, many of which are no tests.
func oddTests(r *rand.Rand) [][]int {
	if r.Intn(3) == 0 {
		return wrongTests()[r.Intn(len(wrongTests()))]
	}
	out := randomTests(r, 1+r.Intn(11), r.Intn(14))
	if r.Intn(4) == 0 {
		out = append(out, oddNames(r))
	}
	return out
}

func oddResults(r *rand.Rand, n int) string {
	out := []byte(strings.Repeat("1", n+r.Intn(3)/2))
	for i := range out {
		out[i] -= byte(r.Intn(2))
		if r.Intn(40) == 0 {
			out[i] = "2/ x\x00\xff"[r.Intn(6)]
		}
	}
	return string(out)
}

// Promise 11: no argument makes a function of chapter 6 panic, and where it fails all other results are zero.
func TestAllWiresAreAccepted(t *testing.T) {
	r := rand.New(rand.NewSource(31))
	for range 3000 {
		tests := oddTests(r)
		x := wireArguments{extremes[r.Intn(len(extremes))], tests, oddTests(r), oddNumbers(r), oddResults(r, len(tests)), extremes[r.Intn(len(extremes))]}
		if r.Intn(3) > 0 {
			x.wires, x.number = r.Intn(12), r.Intn(12)-1
		}
		for _, f := range wireFunctions() {
			got, ok := f.run(x)
			if !ok && !isZero(got) {
				t.Errorf("%s of %v fails with %v", f.name, x, got)
			}
		}
	}
	for range 5000 {
		s := oddTestsText(r)
		list, ok := impl.ParseTests(s)
		if !ok {
			expectFail(t, fmt.Sprintf("ParseTests %q", s), list, ok)
		} else if text, fine := impl.TestsText(list); text != s || !fine {
			t.Errorf("ParseTests %q: %v", s, list)
		}
	}
}

func oddTestsText(r *rand.Rand) string {
	signs := "0123456789+/-.: \n\x00\xff>"
	out := make([]byte, r.Intn(12))
	for i := range out {
		out[i] = "0+1/1+2/3/0+9"[i]
		if r.Intn(12) == 0 {
			out[i] = signs[r.Intn(len(signs))]
		}
	}
	return string(out)
}

// roomyTests returns a copy of tests with filled room behind all of them, and behind each.
func roomyTests(tests [][]int) [][]int {
	var out [][]int
	for _, test := range append(slices.Clone(tests), []int{81}, []int{82, 83}) {
		out = append(out, roomyList(test))
	}
	return out[:len(tests)]
}

// Promise 11: tests and broken wires stay as they are, with the room behind them, and results have memory of their own.
func TestWiresStayAsTheyAre(t *testing.T) {
	r := rand.New(rand.NewSource(32))
	for _, c := range testSample() {
		if c.wires > 6 && len(c.tests)%3 > 0 {
			continue // to save time
		}
		tests, others := roomyTests(c.tests), roomyTests(randomTests(r, c.wires, r.Intn(4)))
		if len(tests) <= 6 && r.Intn(2) > 0 {
			others = tests // so that both arguments share their memory
		}
		broken := roomyList(chosenWires(c.wires, r.Intn(1<<c.wires)))
		whole := func() string {
			return wholeListText(tests[:cap(tests)]...) + wholeListText(others[:cap(others)]...) + wholeListText(broken)
		}
		x := wireArguments{c.wires, tests, others, broken, signsOf(c.tests, broken), r.Intn(min(c.wires, 3) + 1)}
		for _, f := range wireFunctions() {
			checkStays(t, f.name, x, func() (any, bool) { return f.run(x) }, whole)
		}
	}
}

// Promise 11: ParseTests gives new tests each time.
func TestParsedTestsAreNew(t *testing.T) {
	for _, s := range []string{"0+2/1+2", "0/0/0"} {
		first, _ := impl.ParseTests(s)
		spoil(t, "ParseTests", reflect.ValueOf(first), -9)
		again, ok := impl.ParseTests(s)
		expect(t, "ParseTests "+s, again, ok, wireTests(s))
	}
}
