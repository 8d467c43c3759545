package tests

import (
	"fmt"
	"math/rand"
	"reflect"
	"slices"
	"testing"

	"loop.example/g01316/impl"
)

// delayArguments are all the arguments that a function of delays may have but for texts.
type delayArguments struct {
	delay  int
	people int
	sends  []impl.Send
	number int
}

// delayFunction is a function of chapter 7.
type delayFunction struct {
	name string
	run  func(x delayArguments) (any, bool)
}

func delayFunctions() []delayFunction {
	return []delayFunction{
		{"InformedAt", func(x delayArguments) (any, bool) { return erase(impl.InformedAt(x.delay, x.number)) }},
		{"NewAt", func(x delayArguments) (any, bool) { return erase(impl.NewAt(x.delay, x.number)) }},
		{"MinutesFor", func(x delayArguments) (any, bool) { return erase(impl.MinutesFor(x.delay, x.people)) }},
		{"GreatestDelay", func(x delayArguments) (any, bool) { return erase(impl.GreatestDelay(x.people, x.number)) }},
		{"AreSends", func(x delayArguments) (any, bool) { return erase(impl.AreSends(x.delay, x.people, x.sends)) }},
		{"ArrivalsOf", func(x delayArguments) (any, bool) { return erase(impl.ArrivalsOf(x.delay, x.people, x.sends)) }},
		{"LastArrival", func(x delayArguments) (any, bool) { return erase(impl.LastArrival(x.delay, x.people, x.sends)) }},
		{"QuickSends", func(x delayArguments) (any, bool) { return erase(impl.QuickSends(x.delay, x.people)) }},
		{"LateBy", func(x delayArguments) (any, bool) { return erase(impl.LateBy(x.delay, x.people, x.sends)) }},
		{"SentBy", func(x delayArguments) (any, bool) { return erase(impl.SentBy(x.delay, x.people, x.sends, x.number)) }},
		{"StepsTo", func(x delayArguments) (any, bool) { return erase(impl.StepsTo(x.delay, x.people, x.sends, x.number)) }},
		{"IdleMinutes", func(x delayArguments) (any, bool) { return erase(impl.IdleMinutes(x.delay, x.people, x.sends)) }},
		{"InOrder", func(x delayArguments) (any, bool) { return erase(impl.InOrder(x.delay, x.people, x.sends)) }},
		{"SendsText", func(x delayArguments) (any, bool) { return erase(impl.SendsText(x.sends)) }},
	}
}

// oddSends are lists of sends, many of which are none.
func oddSends(r *rand.Rand) []impl.Send {
	if r.Intn(3) == 0 {
		people := 1 + r.Intn(40)
		return randomSends(r, 1+r.Intn(10), people, 1+r.Intn(people), r.Intn(4))
	}
	out := make([]impl.Send, r.Intn(6))
	if r.Intn(8) == 0 {
		out = make([]impl.Send, 38+r.Intn(6))
	}
	odd := func() int {
		if r.Intn(5) > 0 {
			return r.Intn(5)
		}
		return extremes[r.Intn(len(extremes))]
	}
	for k := range out {
		out[k] = impl.Send{From: odd(), To: odd(), At: odd()}
	}
	return out
}

// Promise 11: no argument makes a function of chapter 7 panic, and where it fails all other results are zero.
func TestAllDelaysAreAccepted(t *testing.T) {
	r := rand.New(rand.NewSource(36))
	for range 5000 {
		x := delayArguments{extremes[r.Intn(len(extremes))], extremes[r.Intn(len(extremes))], oddSends(r), extremes[r.Intn(len(extremes))]}
		if r.Intn(3) > 0 {
			x.delay, x.people, x.number = r.Intn(12), r.Intn(42), r.Intn(63)-1
		}
		for _, f := range delayFunctions() {
			got, ok := f.run(x)
			if !ok && !isZero(got) {
				t.Errorf("%s of %v fails with %v", f.name, x, got)
			}
		}
	}
	for range 5000 {
		s := oddSendsText(r)
		list, ok := impl.ParseSends(s)
		if !ok {
			expectFail(t, fmt.Sprintf("ParseSends %q", s), list, ok)
		} else if text, fine := impl.SendsText(list); text != s || !fine {
			t.Errorf("ParseSends %q: %v", s, list)
		}
	}
}

func oddSendsText(r *rand.Rand) string {
	signs := "0123456789>@;-+ \n\x00\xff"
	out := make([]byte, r.Intn(18))
	for i := range out {
		out[i] = "0>1@0;12>39@60;7>8"[i]
		if r.Intn(12) == 0 {
			out[i] = signs[r.Intn(len(signs))]
		}
	}
	return string(out)
}

// roomySends returns a copy of sends with filled room behind it.
func roomySends(list []impl.Send) []impl.Send {
	return append(slices.Clone(list), sendsIn("71>72@73;74>75@76;77>78@79")...)[:len(list)]
}

// Promise 11: sends stay as they are, with the room behind them, and results have memory of their own.
func TestSendsStayAsTheyAre(t *testing.T) {
	r := rand.New(rand.NewSource(37))
	cases := sendSample()
	for k := range cases {
		if k%8 == 0 {
			cases[k].sends = changedSends(r, cases[k])
		}
	}
	for _, c := range cases {
		list := roomySends(c.sends)
		whole := func() string { return fmt.Sprint(list[:cap(list)], len(list)) }
		x := delayArguments{c.delay, c.people, list, r.Intn(c.people)}
		for _, f := range delayFunctions() {
			checkStays(t, f.name, x, func() (any, bool) { return f.run(x) }, whole)
		}
	}
}

// Promise 11: ParseSends gives new sends each time.
func TestParsedSendsAreNew(t *testing.T) {
	for _, s := range []string{"0>1@0;0>2@1", "5>5@5"} {
		first, _ := impl.ParseSends(s)
		spoil(t, "ParseSends", reflect.ValueOf(first), -9)
		again, ok := impl.ParseSends(s)
		expect(t, "ParseSends "+s, again, ok, sendsIn(s))
	}
}
