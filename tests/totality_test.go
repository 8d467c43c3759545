package tests

import (
	"fmt"
	"math/rand"
	"reflect"
	"testing"

	"loop.example/g01316/impl"
)

// callFunction is a function of chapter 1 that takes calls, with all the arguments that one of them may have.
type callFunction struct {
	name string
	run  func(friends int, list []impl.Call, k int, names []int) (any, bool)
}

func callFunctions() []callFunction {
	return []callFunction{
		{"AreCalls", func(friends int, list []impl.Call, k int, names []int) (any, bool) {
			ok := impl.AreCalls(friends, list)
			return ok, ok
		}},
		{"KnownAfter", func(friends int, list []impl.Call, k int, names []int) (any, bool) {
			return erase(impl.KnownAfter(friends, list))
		}},
		{"AllKnow", func(friends int, list []impl.Call, k int, names []int) (any, bool) {
			return erase(impl.AllKnow(friends, list))
		}},
		{"CountKnown", func(friends int, list []impl.Call, k int, names []int) (any, bool) {
			return erase(impl.CountKnown(friends, list))
		}},
		{"WhoKnows", func(friends int, list []impl.Call, k int, names []int) (any, bool) {
			return erase(impl.WhoKnows(friends, list, k))
		}},
		{"CallsNeeded", func(friends int, list []impl.Call, k int, names []int) (any, bool) {
			return erase(impl.CallsNeeded(friends, list))
		}},
		{"LearnedIn", func(friends int, list []impl.Call, k int, names []int) (any, bool) {
			return erase(impl.LearnedIn(friends, list, k))
		}},
		{"IdleCalls", func(friends int, list []impl.Call, k int, names []int) (any, bool) {
			return erase(impl.IdleCalls(friends, list))
		}},
		{"NeedlessCalls", func(friends int, list []impl.Call, k int, names []int) (any, bool) {
			return erase(impl.NeedlessCalls(friends, list))
		}},
		{"BackCalls", func(friends int, list []impl.Call, k int, names []int) (any, bool) {
			return erase(impl.BackCalls(friends, list))
		}},
		{"RenameCalls", func(friends int, list []impl.Call, k int, names []int) (any, bool) {
			return erase(impl.RenameCalls(friends, list, names))
		}},
		{"CallsOf", func(friends int, list []impl.Call, k int, names []int) (any, bool) {
			return erase(impl.CallsOf(friends, list, k))
		}},
		{"CallsText", func(friends int, list []impl.Call, k int, names []int) (any, bool) {
			return erase(impl.CallsText(list))
		}},
	}
}

func erase[T any](result T, ok bool) (any, bool) { return result, ok }

// planFunctions are those of chapter 1 that take a number of friends alone.
func planFunctions() []callFunction {
	return []callFunction{
		{"FewestCalls", func(friends int, list []impl.Call, k int, names []int) (any, bool) {
			return erase(impl.FewestCalls(friends))
		}},
		{"FirstPlan", func(friends int, list []impl.Call, k int, names []int) (any, bool) {
			return erase(impl.FirstPlan(friends))
		}},
		{"FourPlan", func(friends int, list []impl.Call, k int, names []int) (any, bool) {
			return erase(impl.FourPlan(friends))
		}},
		{"TablePlan", func(friends int, list []impl.Call, k int, names []int) (any, bool) {
			return erase(impl.TablePlan(friends))
		}},
	}
}

// oddLists are lists of calls, most of which are none.
func oddLists() [][]impl.Call {
	out := [][]impl.Call{nil, {}, calls("01"), calls("01-12-02"), calls("01-23-02-13"), calls("09-89-01"), calls("10"), calls("00"),
		repeated(impl.Call{A: 0, B: 1}, 60), repeated(impl.Call{A: 0, B: 1}, 61), repeated(impl.Call{}, 1000)}
	for _, a := range extremes {
		for _, b := range extremes {
			out = append(out, []impl.Call{{A: a, B: b}}, []impl.Call{{A: 0, B: 1}, {A: a, B: b}})
		}
	}
	return out
}

func oddNames(r *rand.Rand) []int {
	switch r.Intn(4) {
	case 0:
		return nil
	case 1:
		return r.Perm(r.Intn(12))
	case 2:
		return r.Perm(3)
	}
	out := make([]int, r.Intn(12))
	for i := range out {
		out[i] = extremes[r.Intn(len(extremes))]
	}
	return out
}

// Promise 11: no argument makes a function panic, and where it fails all other results are zero.
func TestAllArgumentsAreAccepted(t *testing.T) {
	r := rand.New(rand.NewSource(3))
	functions := append(callFunctions(), planFunctions()...)
	for _, list := range oddLists() {
		for _, friends := range extremes {
			k, names := extremes[r.Intn(len(extremes))], oddNames(r)
			for _, f := range functions {
				got, ok := f.run(friends, list, k, names)
				if !ok && !isZero(got) {
					t.Errorf("%s(%d, %v, %d, %v) fails with %v", f.name, friends, list, k, names, got)
				}
			}
		}
	}
	for range 3000 {
		s := oddText(r)
		list, ok := impl.ParseCalls(s)
		if !ok {
			expectFail(t, fmt.Sprintf("ParseCalls %q", s), list, ok)
		} else if text, fine := impl.CallsText(list); text != s || !fine {
			t.Errorf("ParseCalls %q: %v", s, list)
		}
	}
}

func oddText(r *rand.Rand) string {
	signs := "0123456789-/ \n\x00\xff>"
	out := make([]byte, r.Intn(9))
	for i := range out {
		out[i] = signs[r.Intn(len(signs))]
		if r.Intn(3) > 0 {
			out[i] = "01-"[i%3]
		}
	}
	return string(out)
}

// Promise 11: arguments stay as they are, with the room behind them, and results have memory of their own.
func TestArgumentsStayAsTheyAre(t *testing.T) {
	r := rand.New(rand.NewSource(4))
	for _, c := range sample() {
		// The room behind the arguments is filled, so that a function that writes there is seen.
		roomyCalls := append(append([]impl.Call{}, c.calls...), repeated(impl.Call{A: 7, B: 8}, 5)...)
		roomyNames := append(r.Perm(c.friends), 77, 78, 79)
		whole := func() string { return fmt.Sprint(roomyCalls, roomyNames) }
		k := r.Intn(max(1, min(c.friends, len(c.calls))))
		for _, f := range append(callFunctions(), planFunctions()...) {
			list, names := roomyCalls[:len(c.calls)], roomyNames[:c.friends]
			checkStays(t, f.name, c, func() (any, bool) { return f.run(c.friends, list, k, names) }, whole)
		}
	}
}

// checkStays checks that a function of some arguments neither changes nor hands out what whole tells of these, and
// that its result is the same again behind the first one is spoilt.
func checkStays(t *testing.T, name string, arguments any, run func() (any, bool), whole func() string) {
	t.Helper()
	before := whole()
	first, ok := run()
	text := fmt.Sprint(first, ok)
	if whole() != before {
		t.Fatalf("%s of %v changed its arguments", name, arguments)
	}
	spoil(t, name, reflect.ValueOf(first), -9)
	if whole() != before {
		t.Fatalf("%s of %v handed out its arguments", name, arguments)
	}
	again, fine := run()
	if fmt.Sprint(again, fine) != text {
		t.Fatalf("%s of %v: first %s, then %v, %v", name, arguments, text, again, fine)
	}
}

// spoil overwrites a result with all the room behind it, and checks that the slices of it do not share any.
// Each slice gets junk of its own, so that one is seen to change whichever other one is written to.
func spoil(t *testing.T, name string, v reflect.Value, junk int64) {
	t.Helper()
	if v.Kind() == reflect.Struct {
		for i := range v.NumField() {
			spoil(t, name, v.Field(i), junk)
		}
	}
	if v.Kind() != reflect.Slice {
		return
	}
	if v.Type().Elem().Kind() == reflect.Slice {
		for i := range v.Len() {
			before := fmt.Sprint(v.Slice(0, i), v.Slice(i+1, v.Len()))
			spoil(t, name, v.Index(i), junk-int64(i))
			if fmt.Sprint(v.Slice(0, i), v.Slice(i+1, v.Len())) != before {
				t.Errorf("%s: two slices of the result share memory", name)
			}
		}
		return
	}
	v = v.Slice(0, v.Cap())
	for i := range v.Len() {
		overwrite(v.Index(i), junk)
	}
}

// overwrite puts junk into the numbers of a value, and zeros in place of all else.
func overwrite(v reflect.Value, junk int64) {
	switch v.Kind() {
	case reflect.Int:
		v.SetInt(junk)
	case reflect.Struct:
		for i := range v.NumField() {
			overwrite(v.Field(i), junk)
		}
	default:
		v.SetZero()
	}
}

// Promise 11: ParseCalls gives new calls each time.
func TestParsedCallsAreNew(t *testing.T) {
	first, _ := impl.ParseCalls("01-12")
	spoil(t, "ParseCalls", reflect.ValueOf(first), -9)
	again, ok := impl.ParseCalls("01-12")
	expect(t, "ParseCalls", again, ok, calls("01-12"))
}
