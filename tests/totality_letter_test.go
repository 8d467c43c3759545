package tests

import (
	"fmt"
	"math/rand"
	"reflect"
	"testing"

	"loop.example/g01316/impl"
)

// letterFunction is a function of chapter 2, with all the arguments that one of them may have but for calls and texts.
type letterFunction struct {
	name string
	run  func(friends int, list []impl.Letter, friend int) (any, bool)
}

// letterFunctions are those that take a number of friends and letters or arrows of them.
func letterFunctions() []letterFunction {
	return []letterFunction{
		{"AreLetters", func(friends int, list []impl.Letter, friend int) (any, bool) {
			ok := impl.AreLetters(friends, list)
			return ok, ok
		}},
		{"KnownByLetters", func(friends int, list []impl.Letter, friend int) (any, bool) {
			return erase(impl.KnownByLetters(friends, list))
		}},
		{"AllByLetters", func(friends int, list []impl.Letter, friend int) (any, bool) {
			return erase(impl.AllByLetters(friends, list))
		}},
		{"LettersNeeded", func(friends int, list []impl.Letter, friend int) (any, bool) {
			return erase(impl.LettersNeeded(friends, list))
		}},
		{"IdleLetters", func(friends int, list []impl.Letter, friend int) (any, bool) {
			return erase(impl.IdleLetters(friends, list))
		}},
		{"NeedlessLetters", func(friends int, list []impl.Letter, friend int) (any, bool) {
			return erase(impl.NeedlessLetters(friends, list))
		}},
		{"BackLetters", func(friends int, list []impl.Letter, friend int) (any, bool) {
			return erase(impl.BackLetters(friends, list))
		}},
		{"HeardFrom", func(friends int, list []impl.Letter, friend int) (any, bool) {
			return erase(impl.HeardFrom(friends, list, friend))
		}},
		{"CanAllHear", func(friends int, list []impl.Letter, friend int) (any, bool) {
			return erase(impl.CanAllHear(friends, list))
		}},
		{"SilentGroups", func(friends int, list []impl.Letter, friend int) (any, bool) {
			return erase(impl.SilentGroups(friends, list))
		}},
	}
}

// otherLetterFunctions are those that take letters alone, or none.
func otherLetterFunctions() []letterFunction {
	return []letterFunction{
		{"FewestLetters", func(friends int, list []impl.Letter, friend int) (any, bool) {
			return erase(impl.FewestLetters(friends))
		}},
		{"StarLetters", func(friends int, list []impl.Letter, friend int) (any, bool) {
			return erase(impl.StarLetters(friends, friend))
		}},
		{"RingLetters", func(friends int, list []impl.Letter, friend int) (any, bool) {
			return erase(impl.RingLetters(friends))
		}},
		{"FirstLetters", func(friends int, list []impl.Letter, friend int) (any, bool) {
			return erase(impl.FirstLetters(friends))
		}},
		{"LettersText", func(friends int, list []impl.Letter, friend int) (any, bool) {
			return erase(impl.LettersText(list))
		}},
	}
}

// oddLetters are lists of letters, most of which are none.
func oddLetters() [][]impl.Letter {
	out := [][]impl.Letter{nil, {}, letters("0>1"), letters("0>1-1>2-2>0"), letters("0>9-9>0"), letters("0>0"),
		repeatedLetter(impl.Letter{From: 0, To: 1}, 60), repeatedLetter(impl.Letter{From: 0, To: 1}, 61), repeatedLetter(impl.Letter{}, 1000)}
	for _, from := range extremes {
		for _, to := range extremes {
			out = append(out, []impl.Letter{{From: from, To: to}}, []impl.Letter{{From: 1, To: 0}, {From: from, To: to}})
		}
	}
	return out
}

// Promise 11: no argument makes a function of chapter 2 panic, and where it fails all other results are zero.
func TestAllLettersAreAccepted(t *testing.T) {
	r := rand.New(rand.NewSource(7))
	functions := append(letterFunctions(), otherLetterFunctions()...)
	for _, list := range oddLetters() {
		for _, friends := range extremes {
			friend := extremes[r.Intn(len(extremes))]
			for _, f := range functions {
				got, ok := f.run(friends, list, friend)
				if !ok && !isZero(got) {
					t.Errorf("%s(%d, %v, %d) fails with %v", f.name, friends, list, friend, got)
				}
			}
		}
	}
	for _, list := range oddLists() {
		for _, friends := range extremes {
			got, ok := impl.LettersOfCalls(friends, list)
			if !ok && !isZero(got) {
				t.Errorf("LettersOfCalls(%d, %v) fails with %v", friends, list, got)
			}
		}
	}
	for range 3000 {
		s := oddLettersText(r)
		list, ok := impl.ParseLetters(s)
		if !ok {
			expectFail(t, fmt.Sprintf("ParseLetters %q", s), list, ok)
		} else if text, fine := impl.LettersText(list); text != s || !fine {
			t.Errorf("ParseLetters %q: %v", s, list)
		}
	}
}

func oddLettersText(r *rand.Rand) string {
	signs := "0123456789->/ \n\x00\xff"
	out := make([]byte, r.Intn(13))
	for i := range out {
		out[i] = signs[r.Intn(len(signs))]
		if r.Intn(4) > 0 {
			out[i] = "0>1-"[i%4]
		}
	}
	return string(out)
}

// Promise 11: letters stay as they are, with the room behind them, and results have memory of their own.
func TestLettersStayAsTheyAre(t *testing.T) {
	r := rand.New(rand.NewSource(8))
	for _, c := range letterSample() {
		// The room behind the letters is filled, so that a function that writes there is seen.
		roomy := append(append([]impl.Letter{}, c.letters...), repeatedLetter(impl.Letter{From: 7, To: 8}, 5)...)
		whole := func() string { return fmt.Sprint(roomy) }
		friend := r.Intn(c.friends)
		for _, f := range append(letterFunctions(), otherLetterFunctions()...) {
			run := func() (any, bool) { return f.run(c.friends, roomy[:len(c.letters)], friend) }
			checkStays(t, f.name, c, run, whole)
		}
	}
}

// Promise 11: calls of which letters are made stay as they are, with the room behind them.
func TestCallsOfLettersStayAsTheyAre(t *testing.T) {
	for _, c := range sample() {
		roomy := append(append([]impl.Call{}, c.calls...), repeated(impl.Call{A: 7, B: 8}, 5)...)
		before := append([]impl.Call{}, roomy...)
		first, ok := impl.LettersOfCalls(c.friends, roomy[:len(c.calls)])
		text := fmt.Sprint(first, ok)
		spoil(t, "LettersOfCalls", reflect.ValueOf(first), -9)
		again, fine := impl.LettersOfCalls(c.friends, roomy[:len(c.calls)])
		if !reflect.DeepEqual(roomy, before) || fmt.Sprint(again, fine) != text {
			t.Fatalf("LettersOfCalls %v: first %s, then %v, %v, calls %v", c, text, again, fine, roomy)
		}
	}
}

// Promise 11: ParseLetters gives new letters each time.
func TestParsedLettersAreNew(t *testing.T) {
	first, _ := impl.ParseLetters("0>1-1>2")
	spoil(t, "ParseLetters", reflect.ValueOf(first), -9)
	again, ok := impl.ParseLetters("0>1-1>2")
	expect(t, "ParseLetters", again, ok, letters("0>1-1>2"))
}
