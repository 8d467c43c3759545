package tests

import (
	"fmt"
	"math/rand"
	"reflect"
	"slices"
	"testing"

	"loop.example/g01316/impl"
)

// spoken is what DeskLine returns.
type spoken struct {
	Behind impl.Desk
	Reply  string
}

// consoleFunction is a function of chapter 10, with all the arguments that one of them may have.
type consoleFunction struct {
	name string
	run  func(d impl.Desk, s string) (any, bool)
}

func consoleFunctions() []consoleFunction {
	return []consoleFunction{
		{"FirstDesk", func(d impl.Desk, s string) (any, bool) { return impl.FirstDesk(), true }},
		{"IsDesk", func(d impl.Desk, s string) (any, bool) {
			ok := impl.IsDesk(d)
			return ok, ok
		}},
		{"DeskLine", func(d impl.Desk, s string) (any, bool) {
			behind, reply, ok := impl.DeskLine(d, s)
			return spoken{behind, reply}, ok
		}},
		{"RunScript", func(d impl.Desk, s string) (any, bool) { return erase(impl.RunScript(s)) }},
		{"DeskAfter", func(d impl.Desk, s string) (any, bool) { return erase(impl.DeskAfter(s)) }},
		{"FailedLines", func(d impl.Desk, s string) (any, bool) { return erase(impl.FailedLines(s)) }},
	}
}

// oddDesk returns a desk, what is nearly one, or something else.
func oddDesk(r *rand.Rand) impl.Desk {
	d := randomDesk(r)
	switch r.Intn(4) {
	case 0:
		d.Friends = oddNumber(r)
	case 1:
		d.Calls = slices.Insert(d.Calls, r.Intn(len(d.Calls)+1), impl.Call{A: oddNumber(r), B: oddNumber(r)})
	case 2:
		d.Calls = repeated(impl.Call{A: 0, B: 1}, 59+r.Intn(4))
	}
	return d
}

// oddScript returns lines that are most often ended by newlines, with some bytes changed, cut out or put in.
func oddScript(r *rand.Rand) string {
	signs := "0123456789abcdkw-> \n\n\x00\xff"
	var out []byte
	for range []int{r.Intn(3), r.Intn(10), r.Intn(60)}[r.Intn(3)] {
		out = append(append(out, randomLine(r)...), '\n')
	}
	for range r.Intn(4) {
		if len(out) == 0 {
			break
		}
		i := r.Intn(len(out))
		sign := signs[r.Intn(len(signs))]
		switch r.Intn(3) {
		case 0:
			out[i] = sign
		case 1:
			out = slices.Insert(out, i, sign)
		case 2:
			out = slices.Delete(out, i, i+1)
		}
	}
	return string(out)
}

// Promise 11: no argument makes a function of chapter 10 panic, and where it fails all other results are zero.
func TestAllDesksAndScriptsAreAccepted(t *testing.T) {
	r := rand.New(rand.NewSource(103))
	for range 4000 {
		d, s := oddDesk(r), oddScript(r)
		if r.Intn(2) == 0 {
			s = randomLine(r)
		}
		for _, f := range consoleFunctions() {
			got, ok := f.run(d, s)
			if !ok && !isZero(got) {
				t.Errorf("%s of %v and %q fails with %v", f.name, d, s, got)
			}
		}
	}
	for name := range kindsByName() {
		for _, d := range []impl.Desk{{}, {Friends: 1}, {Friends: 10}, desk(10, sixtyCalls("89"))} {
			for _, words := range []string{"", " ", " 0", " 999999", " a", " 0 0", " 999999 999999", " a a", " abcdefghijkl abcdefghijkl", " 0 0 0"} {
				_, reply, ok := impl.DeskLine(d, name+words)
				if ok != (d.Friends > 0) || ok == (reply == "") {
					t.Errorf("%q on %v: got %q, %v", name+words, d, reply, ok)
				}
			}
		}
	}
}

// Promise 11: desks stay as they are, with the room behind them, and results have memory of their own.
func TestDesksStayAsTheyAre(t *testing.T) {
	r := rand.New(rand.NewSource(104))
	lines := []string{"show", "undo", "back", "call 0 1", "four", "table", "friends 3", "calls 01", "calls ", "fly", "who 99", "rounds"}
	for range 300 {
		sampled := randomDesk(r)
		d := sampled
		d.Calls = append(slices.Clone(d.Calls), calls("78-79")...)[:len(d.Calls)]
		whole := func() string { return fmt.Sprint(d.Friends, d.Calls[:cap(d.Calls)], len(d.Calls)) }
		for _, line := range append(slices.Clone(lines), randomLine(r)) {
			for _, f := range consoleFunctions() {
				checkStays(t, f.name, sampled, func() (any, bool) { return f.run(d, line) }, whole)
			}
		}
		for _, f := range consoleFunctions() {
			s := oddScript(r)
			checkStays(t, f.name, s, func() (any, bool) { return f.run(d, s) }, whole)
		}
	}
}

// Promise 11: no state is kept from script to script, and desks are new each time.
func TestDesksAreNew(t *testing.T) {
	first := impl.FirstDesk()
	spoil(t, "FirstDesk", reflect.ValueOf(first), -9)
	expectDesk(t, "FirstDesk", impl.FirstDesk(), true, desk(4, "01-12"))
	after, _ := impl.DeskAfter("")
	spoil(t, "DeskAfter", reflect.ValueOf(after), -9)
	expectDesk(t, "FirstDesk", impl.FirstDesk(), true, desk(4, "01-12"))
	impl.RunScript("friends 7\nfour\n")
	replies, ok := impl.RunScript("show\nfew\n")
	expect(t, "RunScript", replies, ok, []string{"01-12", "4"})
}

// Promise 11: what is behind one line has no memory in common with what is behind the next one.
func TestDesksOfLinesAreApart(t *testing.T) {
	start := impl.FirstDesk()
	for _, line := range []string{"show", "undo", "call 2 3", "back", "fly", "who 4"} {
		behind, _, ok := impl.DeskLine(start, line)
		if !ok {
			t.Errorf("%q fails", line)
		}
		spoil(t, line, reflect.ValueOf(behind), -9)
		expectDesk(t, "the desk before "+line, start, true, desk(4, "01-12"))
	}
	shorter, _, _ := impl.DeskLine(start, "undo")
	longer, _, _ := impl.DeskLine(shorter, "call 0 3")
	other, _, _ := impl.DeskLine(shorter, "call 1 3")
	expectDesk(t, "undo, call 0 3", longer, true, desk(4, "01-03"))
	expectDesk(t, "undo, call 1 3", other, true, desk(4, "01-13"))
	expectDesk(t, "undo", shorter, true, desk(4, "01"))
	expectDesk(t, "the first desk", start, true, desk(4, "01-12"))
}
