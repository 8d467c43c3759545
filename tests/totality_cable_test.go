package tests

import (
	"fmt"
	"math/rand"
	"reflect"
	"slices"
	"testing"

	"loop.example/g01316/impl"
)

// cableArguments are all the arguments that a function of cables may have but for texts.
type cableArguments struct {
	wires int
	a     []int
	b     []int
}

// cableFunction is a function of chapter 5.
type cableFunction struct {
	name string
	run  func(x cableArguments) (any, bool)
}

// bothLists returns two lists as one result, which is zero if both are.
func bothLists(a []int, b []int, ok bool) (any, bool) {
	if len(a) == 0 && len(b) == 0 {
		return [][]int(nil), ok
	}
	return [][]int{a, b}, ok
}

func cableFunctions() []cableFunction {
	return []cableFunction{
		{"IsGrouping", func(x cableArguments) (any, bool) {
			ok := impl.IsGrouping(x.a)
			return ok, ok
		}},
		{"GroupsOf", func(x cableArguments) (any, bool) { return erase(impl.GroupsOf(x.a)) }},
		{"SizesOf", func(x cableArguments) (any, bool) { return erase(impl.SizesOf(x.a)) }},
		{"CountGroupings", func(x cableArguments) (any, bool) { return erase(impl.CountGroupings(x.wires)) }},
		{"FirstBySizes", func(x cableArguments) (any, bool) { return erase(impl.FirstBySizes(x.a)) }},
		{"LabelsOf", func(x cableArguments) (any, bool) { return erase(impl.LabelsOf(x.a, x.b)) }},
		{"LikeWires", func(x cableArguments) (any, bool) { return erase(impl.LikeWires(x.a, x.b)) }},
		{"TellsWires", func(x cableArguments) (any, bool) { return erase(impl.TellsWires(x.a, x.b)) }},
		{"CanBeTold", func(x cableArguments) (any, bool) { return erase(impl.CanBeTold(x.wires)) }},
		{"FirstTelling", func(x cableArguments) (any, bool) { return bothLists(impl.FirstTelling(x.wires)) }},
		{"SizesTell", func(x cableArguments) (any, bool) { return erase(impl.SizesTell(x.wires, x.a, x.b)) }},
		{"CountPartners", func(x cableArguments) (any, bool) { return erase(impl.CountPartners(x.a)) }},
		{"FirstPartner", func(x cableArguments) (any, bool) { return erase(impl.FirstPartner(x.a)) }},
		{"StairGrouping", func(x cableArguments) (any, bool) { return bothLists(impl.StairGrouping(x.wires)) }},
		{"RenameWires", func(x cableArguments) (any, bool) { return erase(impl.RenameWires(x.a, x.b)) }},
		{"GroupingText", func(x cableArguments) (any, bool) { return erase(impl.GroupingText(x.a)) }},
	}
}

// oddNumbers are lists of numbers, some of which are groupings, sizes or names.
func oddNumbers(r *rand.Rand) []int {
	switch r.Intn(4) {
	case 0:
		return randomGrouping(r, 1+r.Intn(13))
	case 1:
		return sizesIn(randomGrouping(r, 1+r.Intn(13)))
	case 2:
		return wrongGroupings()[r.Intn(len(wrongGroupings()))]
	}
	return oddNames(r)
}

// Promise 11: no argument makes a function of chapter 5 panic, and where it fails all other results are zero.
func TestAllCablesAreAccepted(t *testing.T) {
	r := rand.New(rand.NewSource(22))
	for range 3000 {
		x := cableArguments{extremes[r.Intn(len(extremes))], oddNumbers(r), oddNumbers(r)}
		if r.Intn(3) == 0 {
			x.wires = r.Intn(14)
		}
		for _, f := range cableFunctions() {
			got, ok := f.run(x)
			if !ok && !isZero(got) {
				t.Errorf("%s of %v fails with %v", f.name, x, got)
			}
		}
	}
	for range 5000 {
		s := oddGroupingText(r)
		list, ok := impl.ParseGrouping(s)
		if !ok {
			expectFail(t, fmt.Sprintf("ParseGrouping %q", s), list, ok)
		} else if text, fine := impl.GroupingText(list); text != s || !fine {
			t.Errorf("ParseGrouping %q: %v", s, list)
		}
	}
}

func oddGroupingText(r *rand.Rand) string {
	signs := "abcdlmz`A0- \n\x00\xff"
	out := make([]byte, r.Intn(15))
	for i := range out {
		out[i] = "aabcabdb"[r.Intn(8)]
		if r.Intn(20) == 0 {
			out[i] = signs[r.Intn(len(signs))]
		}
	}
	return string(out)
}

// roomyList returns a copy of a list with filled room behind it.
func roomyList(list []int) []int {
	return append(slices.Clone(list), 71, 72, 73, 74)[:len(list)]
}

func wholeListText(lists ...[]int) string {
	s := ""
	for _, list := range lists {
		s += fmt.Sprint(list[:cap(list)], len(list), ";")
	}
	return s
}

// Promise 11: lists stay as they are, with the room behind them, and results have memory of their own.
func TestCablesStayAsTheyAre(t *testing.T) {
	r := rand.New(rand.NewSource(23))
	for k, p := range groupingPairs() {
		wires := len(p[0])
		if wires >= 4 && k%6 != 0 {
			continue // to save time
		}
		lists := [][2][]int{p, {p[0], r.Perm(wires)}, {sizesIn(p[0]), sizesIn(p[1])}}
		for _, l := range lists {
			a, b := roomyList(l[0]), roomyList(l[1])
			whole := func() string { return wholeListText(a, b) }
			x := cableArguments{wires, a, b}
			for _, f := range cableFunctions() {
				checkStays(t, f.name, x, func() (any, bool) { return f.run(x) }, whole)
			}
		}
	}
}

// Promise 11: ParseGrouping gives a new grouping each time.
func TestParsedGroupingsAreNew(t *testing.T) {
	first, _ := impl.ParseGrouping("abb")
	spoil(t, "ParseGrouping", reflect.ValueOf(first), -9)
	again, ok := impl.ParseGrouping("abb")
	expect(t, "ParseGrouping", again, ok, groups("abb"))
}
