package tests

import (
	"fmt"
	"math/rand"
	"reflect"
	"slices"
	"testing"

	"loop.example/g01316/impl"
)

// roundFunction is a function of chapter 3, with all the arguments that one of them may have but for texts.
type roundFunction struct {
	name string
	run  func(friends int, list [][]impl.Call, pairs []impl.Call, friend int, n int) (any, bool)
}

func roundFunctions() []roundFunction {
	return []roundFunction{
		{"AreRounds", func(friends int, list [][]impl.Call, pairs []impl.Call, friend int, n int) (any, bool) {
			ok := impl.AreRounds(friends, list)
			return ok, ok
		}},
		{"KnownByRounds", func(friends int, list [][]impl.Call, pairs []impl.Call, friend int, n int) (any, bool) {
			return erase(impl.KnownByRounds(friends, list))
		}},
		{"RoundsNeeded", func(friends int, list [][]impl.Call, pairs []impl.Call, friend int, n int) (any, bool) {
			return erase(impl.RoundsNeeded(friends, list))
		}},
		{"CallsOfRounds", func(friends int, list [][]impl.Call, pairs []impl.Call, friend int, n int) (any, bool) {
			return erase(impl.CallsOfRounds(friends, list))
		}},
		{"RoundsText", func(friends int, list [][]impl.Call, pairs []impl.Call, friend int, n int) (any, bool) {
			return erase(impl.RoundsText(list))
		}},
		{"IntoRounds", func(friends int, list [][]impl.Call, pairs []impl.Call, friend int, n int) (any, bool) {
			return erase(impl.IntoRounds(friends, pairs))
		}},
		{"FewestRounds", func(friends int, list [][]impl.Call, pairs []impl.Call, friend int, n int) (any, bool) {
			return erase(impl.FewestRounds(friends))
		}},
		{"FirstRounds", func(friends int, list [][]impl.Call, pairs []impl.Call, friend int, n int) (any, bool) {
			return erase(impl.FirstRounds(friends))
		}},
		{"DoublingRounds", func(friends int, list [][]impl.Call, pairs []impl.Call, friend int, n int) (any, bool) {
			return erase(impl.DoublingRounds(friends))
		}},
		{"SpreadRounds", func(friends int, list [][]impl.Call, pairs []impl.Call, friend int, n int) (any, bool) {
			return erase(impl.SpreadRounds(friends, pairs, friend))
		}},
		{"FirstSpread", func(friends int, list [][]impl.Call, pairs []impl.Call, friend int, n int) (any, bool) {
			return erase(impl.FirstSpread(friends, pairs, friend))
		}},
		{"CentersOf", func(friends int, list [][]impl.Call, pairs []impl.Call, friend int, n int) (any, bool) {
			centers, _, ok := impl.CentersOf(friends, pairs)
			return centers, ok
		}},
		{"CentersOf, rounds", func(friends int, list [][]impl.Call, pairs []impl.Call, friend int, n int) (any, bool) {
			_, needed, ok := impl.CentersOf(friends, pairs)
			return needed, ok
		}},
		{"MostInformed", func(friends int, list [][]impl.Call, pairs []impl.Call, friend int, n int) (any, bool) {
			return erase(impl.MostInformed(friends, pairs, friend, n))
		}},
	}
}

// oddRounds are lists of lists of calls, most of which are no rounds.
func oddRounds(r *rand.Rand) [][]impl.Call {
	lists := oddLists()
	out := make([][]impl.Call, r.Intn(4))
	if r.Intn(8) == 0 {
		out = make([][]impl.Call, 19+r.Intn(4))
	}
	for i := range out {
		out[i] = lists[r.Intn(len(lists))]
		if r.Intn(3) > 0 {
			out[i] = randomRound(r, 1+r.Intn(10))
		}
	}
	return out
}

// Promise 11: no argument makes a function of chapter 3 panic, and where it fails all other results are zero.
func TestAllRoundsAreAccepted(t *testing.T) {
	r := rand.New(rand.NewSource(13))
	for _, pairs := range oddLists() {
		for range 3 {
			friends, friend, n := extremes[r.Intn(len(extremes))], extremes[r.Intn(len(extremes))], extremes[r.Intn(len(extremes))]
			list := oddRounds(r)
			for _, f := range roundFunctions() {
				got, ok := f.run(friends, list, pairs, friend, n)
				if !ok && !isZero(got) {
					t.Errorf("%s(%d, %v, %v, %d, %d) fails with %v", f.name, friends, list, pairs, friend, n, got)
				}
			}
		}
	}
	for range 5000 {
		s := oddRoundsText(r)
		list, ok := impl.ParseRounds(s)
		if !ok {
			expectFail(t, fmt.Sprintf("ParseRounds %q", s), list, ok)
		} else if text, fine := impl.RoundsText(list); text != s || !fine {
			t.Errorf("ParseRounds %q: %v", s, list)
		}
	}
}

func oddRoundsText(r *rand.Rand) string {
	signs := "0123456789-/. \n\x00\xff>"
	out := make([]byte, r.Intn(12))
	for i := range out {
		out[i] = signs[r.Intn(len(signs))]
		if r.Intn(4) > 0 {
			out[i] = "01/23-"[i%6]
		}
	}
	return string(out)
}

// roomy returns a copy of rounds with filled room behind all of them, and behind each.
func roomy(list [][]impl.Call) [][]impl.Call {
	var out [][]impl.Call
	for _, round := range append(slices.Clone(list), calls("01-23"), calls("12")) {
		out = append(out, append(slices.Clone(round), calls("78-89-79")...)[:len(round)])
	}
	return out[:len(list)]
}

// wholeText tells lists of calls with all the room behind them.
func wholeText(list [][]impl.Call) string {
	s := ""
	for _, round := range list[:cap(list)] {
		s += fmt.Sprint(round[:cap(round)], len(round), ";")
	}
	return s
}

// Promise 11: rounds and pairs stay as they are, with the room behind them, and results have memory of their own.
func TestRoundsStayAsTheyAre(t *testing.T) {
	r := rand.New(rand.NewSource(14))
	for k, c := range roundSample() {
		if k%6 != 0 {
			continue // to save time
		}
		list := roomy(c.rounds)
		pairs := roomy([][]impl.Call{pairsThat(c.friends, func(i int, c impl.Call) bool { return r.Intn(2) > 0 })})
		whole := func() string { return wholeText(list) + wholeText(pairs) }
		friend, n := r.Intn(c.friends), r.Intn(21)
		for _, f := range roundFunctions() {
			run := func() (any, bool) { return f.run(c.friends, list, pairs[0], friend, n) }
			checkStays(t, f.name, []any{c, pairs}, run, whole)
		}
	}
}

// Promise 11: ParseRounds gives new rounds each time.
func TestParsedRoundsAreNew(t *testing.T) {
	for _, s := range []string{"01-23/02-13", "01/01/01"} {
		first, _ := impl.ParseRounds(s)
		spoil(t, "ParseRounds", reflect.ValueOf(first), -9)
		again, ok := impl.ParseRounds(s)
		expect(t, "ParseRounds "+s, again, ok, rounds(s))
	}
}
