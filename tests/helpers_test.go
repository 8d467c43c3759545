package tests

import (
	"math"
	"math/rand"
	"reflect"
	"testing"

	"loop.example/g01316/impl"
)

// extremes are numbers that some function must reject, and some that it need not.
var extremes = []int{math.MinInt, math.MinInt + 1, -61, -2, -1, 0, 1, 2, 3, 4, 5, 6, 9, 10, 11, 15, 16, 59, 60, 61, 63, 64, 65, 1 << 32, math.MaxInt - 1, math.MaxInt}

// wrongFriends are numbers of friends that there cannot be.
var wrongFriends = []int{math.MinInt, -1, 0, 11, 12, 64, math.MaxInt}

// calls reads calls such as "01-12" without the package's help: each two bytes are the numbers.
func calls(s string) []impl.Call {
	var out []impl.Call
	for i := 0; i+1 < len(s); i += 3 {
		out = append(out, impl.Call{A: int(s[i] - '0'), B: int(s[i+1] - '0')})
	}
	return out
}

func repeated(c impl.Call, times int) []impl.Call {
	var out []impl.Call
	for range times {
		out = append(out, c)
	}
	return out
}

// pairsOf lists all calls of so many friends in order.
func pairsOf(friends int) []impl.Call {
	var out []impl.Call
	for a := 0; a < friends; a++ {
		for b := a + 1; b < friends; b++ {
			out = append(out, impl.Call{A: a, B: b})
		}
	}
	return out
}

func randomCalls(r *rand.Rand, friends int, most int) []impl.Call {
	pairs := pairsOf(friends)
	if len(pairs) == 0 {
		return nil
	}
	out := make([]impl.Call, r.Intn(most+1))
	for i := range out {
		out[i] = pairs[r.Intn(len(pairs))]
	}
	return out
}

// sample returns numbers of friends and calls of them: all lists that are short, and random ones of all lengths.
func sample() []callCase {
	var out []callCase
	for friends := 1; friends <= 3; friends++ {
		lists := [][]impl.Call{nil}
		for len(lists) > 0 {
			list := lists[0]
			lists = lists[1:]
			out = append(out, callCase{friends, list})
			if len(list) < 4 {
				for _, c := range pairsOf(friends) {
					lists = append(lists, append(append([]impl.Call{}, list...), c))
				}
			}
		}
	}
	r := rand.New(rand.NewSource(1))
	for friends := 1; friends <= impl.MaxFriends; friends++ {
		for _, most := range []int{3, 8, 20, 60} {
			for range 15 {
				out = append(out, callCase{friends, randomCalls(r, friends, most)})
			}
		}
		if friends > 1 {
			out = append(out, callCase{friends, repeated(impl.Call{A: 0, B: 1}, 60)})
		}
	}
	return out
}

type callCase struct {
	friends int
	calls   []impl.Call
}

// same compares results as the document does: a nil slice and an empty one are the same.
func same(got any, want any) bool {
	g, w := reflect.ValueOf(got), reflect.ValueOf(want)
	if g.Kind() != reflect.Slice || w.Kind() != reflect.Slice {
		return reflect.DeepEqual(got, want)
	}
	if g.Type() != w.Type() || g.Len() != w.Len() {
		return false
	}
	for i := range g.Len() {
		if !same(g.Index(i).Interface(), w.Index(i).Interface()) {
			return false
		}
	}
	return true
}

// expect checks a call that must succeed with the wanted result.
func expect(t *testing.T, what string, got any, ok bool, want any) {
	t.Helper()
	if !ok || !same(got, want) {
		t.Errorf("%s: got %v, %v; want %v, true", what, got, ok, want)
	}
}

// expectFail checks a call that must fail with a zero result.
func expectFail(t *testing.T, what string, got any, ok bool) {
	t.Helper()
	if ok || !isZero(got) {
		t.Errorf("%s: got %v, %v; want the zero value, false", what, got, ok)
	}
}

func isZero(x any) bool {
	v := reflect.ValueOf(x)
	if v.Kind() == reflect.Slice {
		return v.Len() == 0
	}
	return v.IsZero()
}
