package tests

import (
	"math/rand"
	"reflect"
	"slices"
	"testing"

	"loop.example/g01316/impl"
)

// netArguments are all the arguments that a function of networks may have.
type netArguments struct {
	friends int
	pairs   []impl.Call
	calls   []impl.Call
	pair    impl.Call
	a       int
	b       int
}

// netFunction is a function of chapter 4 that takes a network, whether it requires that this is joined, and otherwise
// whether it always succeeds for networks, calls that are fine, and friends and pairs that there are.
type netFunction struct {
	name   string
	joined bool
	always bool
	run    func(x netArguments) (any, bool)
}

func netFunctions() []netFunction {
	return []netFunction{
		{"ArePairs", false, true, func(x netArguments) (any, bool) {
			ok := impl.ArePairs(x.friends, x.pairs)
			return ok, ok
		}},
		{"IsJoined", false, true, func(x netArguments) (any, bool) { return erase(impl.IsJoined(x.friends, x.pairs)) }},
		{"FirstSquare", false, false, func(x netArguments) (any, bool) { return erase(impl.FirstSquare(x.friends, x.pairs)) }},
		{"CountSquares", false, true, func(x netArguments) (any, bool) { return erase(impl.CountSquares(x.friends, x.pairs)) }},
		{"FewestInNet", true, false, func(x netArguments) (any, bool) { return erase(impl.FewestInNet(x.friends, x.pairs)) }},
		{"TreePlan", true, false, func(x netArguments) (any, bool) { return erase(impl.TreePlan(x.friends, x.pairs)) }},
		{"SquarePlan", true, false, func(x netArguments) (any, bool) { return erase(impl.SquarePlan(x.friends, x.pairs)) }},
		{"AreCallsInNet", false, true, func(x netArguments) (any, bool) { return erase(impl.AreCallsInNet(x.friends, x.pairs, x.calls)) }},
		{"DistanceInNet", false, false, func(x netArguments) (any, bool) { return erase(impl.DistanceInNet(x.friends, x.pairs, x.a, x.b)) }},
		{"FarthestInNet", true, false, func(x netArguments) (any, bool) {
			a, b, n, ok := impl.FarthestInNet(x.friends, x.pairs)
			return [3]int{a, b, n}, ok
		}},
		{"BridgesOf", true, false, func(x netArguments) (any, bool) { return erase(impl.BridgesOf(x.friends, x.pairs)) }},
		{"DegreesOf", false, true, func(x netArguments) (any, bool) { return erase(impl.DegreesOf(x.friends, x.pairs)) }},
		{"AddPair", false, true, func(x netArguments) (any, bool) { return erase(impl.AddPair(x.friends, x.pairs, x.pair)) }},
		{"DropPair", false, false, func(x netArguments) (any, bool) { return erase(impl.DropPair(x.friends, x.pairs, x.a)) }},
	}
}

// madeNets are the functions of chapter 4 that make a network.
func madeNets() []netFunction {
	return []netFunction{
		{"LineNet", false, true, func(x netArguments) (any, bool) { return erase(impl.LineNet(x.friends)) }},
		{"CircleNet", false, false, func(x netArguments) (any, bool) { return erase(impl.CircleNet(x.friends)) }},
		{"StarNet", false, false, func(x netArguments) (any, bool) { return erase(impl.StarNet(x.friends, x.a)) }},
		{"WholeNet", false, true, func(x netArguments) (any, bool) { return erase(impl.WholeNet(x.friends)) }},
	}
}

// Promise 11: no argument makes a function of chapter 4 panic, and where it fails all other results are zero.
func TestAllNetsAreAccepted(t *testing.T) {
	r := rand.New(rand.NewSource(17))
	odd := oddLists()
	for friends := 1; friends <= 11; friends++ {
		odd = append(odd, pairsOf(friends), pairsThat(friends, func(i int, c impl.Call) bool { return r.Intn(2) > 0 }))
	}
	functions := append(netFunctions(), madeNets()...)
	number := func() int { return extremes[r.Intn(len(extremes))] }
	for _, pairs := range odd {
		for _, friends := range extremes {
			x := netArguments{friends, pairs, odd[r.Intn(len(odd))], impl.Call{A: number(), B: number()}, number(), number()}
			for _, f := range functions {
				got, ok := f.run(x)
				if !ok && !isZero(got) {
					t.Errorf("%s of %v fails with %v", f.name, x, got)
				}
			}
		}
	}
}

// Promise 11: networks and calls stay as they are, with the room behind them, and results have memory of their own.
func TestNetsStayAsTheyAre(t *testing.T) {
	r := rand.New(rand.NewSource(18))
	functions := append(netFunctions(), madeNets()...)
	for n, m := range netSample() {
		if n%4 != 0 && m.friends > 4 {
			continue // to save time
		}
		lists := roomy([][]impl.Call{m.pairs, randomCalls(r, m.friends, 6)})
		whole := func() string { return wholeText(lists) }
		a, b := r.Intn(m.friends), r.Intn(m.friends)
		x := netArguments{m.friends, lists[0], lists[1], impl.Call{A: min(a, b), B: max(a, b)}, a, b}
		for _, f := range functions {
			checkStays(t, f.name, x, func() (any, bool) { return f.run(x) }, whole)
		}
	}
}

// Promise 11: pairs are added and dropped at each place without a change of the network, which has room for one more.
func TestChangedNetsAreNew(t *testing.T) {
	pairs := roomy([][]impl.Call{calls("02-13-24")})
	before := wholeText(pairs)
	for _, c := range pairsOf(5) {
		got, ok := impl.AddPair(5, pairs[0], c)
		spoil(t, "AddPair", reflect.ValueOf(got), -9)
		if wholeText(pairs) != before || ok == slices.Contains(pairs[0], c) {
			t.Errorf("AddPair %v: %v, and the network is %v", c, ok, pairs)
		}
	}
	for k := range pairs[0] {
		got, ok := impl.DropPair(5, pairs[0], k)
		spoil(t, "DropPair", reflect.ValueOf(got), -9)
		if wholeText(pairs) != before || !ok {
			t.Errorf("DropPair %d: %v, and the network is %v", k, ok, pairs)
		}
	}
}
