package tests

import (
	"fmt"
	"math"
	"math/rand"
	"slices"
	"strings"
	"testing"

	"loop.example/g01316/impl"
)

// groups reads a grouping such as "abb" without the package's help.
func groups(s string) []int {
	var out []int
	for _, sign := range s {
		out = append(out, int(sign-'a'))
	}
	return out
}

// anew tells the groups of any list by 0, 1, .. in the order in which they first come.
func anew(list []int) []int {
	names := map[int]int{}
	out := make([]int, len(list))
	for i, group := range list {
		if _, told := names[group]; !told {
			names[group] = len(names)
		}
		out[i] = names[group]
	}
	return out
}

// listsOf returns all lists of so many numbers in 0..top, in order.
func listsOf(length int, top int) [][]int {
	out := [][]int{{}}
	for range length {
		var longer [][]int
		for _, list := range out {
			for n := range top + 1 {
				longer = append(longer, append(slices.Clone(list), n))
			}
		}
		out = longer
	}
	return out
}

var keptGroupings = map[int][][]int{}

// allGroupings returns all groupings of so many wires in order: those of all lists that are told anew as they are.
func allGroupings(wires int) [][]int {
	if kept, ok := keptGroupings[wires]; ok {
		return kept
	}
	var out [][]int
	for _, list := range listsOf(wires, wires-1) {
		if slices.Equal(list, anew(list)) {
			out = append(out, list)
		}
	}
	keptGroupings[wires] = out
	return out
}

// joined returns how many wires are joined with each wire, this one with them.
func joined(list []int) []int {
	out := make([]int, len(list))
	for i := range list {
		for j := range list {
			if list[i] == list[j] {
				out[i]++
			}
		}
	}
	return out
}

// allDiffer reports whether no two wires have the same two numbers.
func allDiffer(x []int, y []int) bool {
	for i := range x {
		for j := range i {
			if x[i] == x[j] && y[i] == y[j] {
				return false
			}
		}
	}
	return true
}

// sizesIn returns the sizes of all groups of a list, the greatest ones first: each group is counted at its first wire.
func sizesIn(list []int) []int {
	var out []int
	for i, n := range joined(list) {
		if slices.Index(list, list[i]) == i {
			out = append(out, n)
		}
	}
	slices.Sort(out)
	slices.Reverse(out)
	return out
}

func randomGrouping(r *rand.Rand, wires int) []int {
	list := make([]int, wires)
	most := 1 + r.Intn(wires)
	for i := range list {
		list[i] = r.Intn(most)
	}
	return anew(list)
}

// groupingSample returns all groupings of at most 6 wires, and some of up to MaxWires.
func groupingSample() [][]int {
	var out [][]int
	for wires := 1; wires <= 6; wires++ {
		out = append(out, allGroupings(wires)...)
	}
	r := rand.New(rand.NewSource(19))
	for wires := 7; wires <= impl.MaxWires; wires++ {
		out = append(out, make([]int, wires), groups("abcdefghijkl")[:wires])
		for range 40 {
			out = append(out, randomGrouping(r, wires))
		}
	}
	return out
}

// groupingPairs returns all pairs of groupings of at most 4 wires, and some of up to MaxWires.
func groupingPairs() [][2][]int {
	var out [][2][]int
	for wires := 1; wires <= 4; wires++ {
		for _, a := range allGroupings(wires) {
			for _, b := range allGroupings(wires) {
				out = append(out, [2][]int{a, b})
			}
		}
	}
	r := rand.New(rand.NewSource(20))
	for wires := 5; wires <= impl.MaxWires; wires++ {
		for range 60 {
			out = append(out, [2][]int{randomGrouping(r, wires), randomGrouping(r, wires)})
		}
	}
	return out
}

// wrongGroupings are lists that are no groupings.
func wrongGroupings() [][]int {
	out := [][]int{nil, {}, make([]int, 13), make([]int, 100), groups("abcdefghijklm"), {1}, {1, 0}, {0, 2}, {0, 2, 1}, {0, 1, 3}, {0, 1, 1, 3, 2}, {-1}, {0, -1}, {0, 1, -1},
		groups("aaaaaaaaaaac"), groups("abcdefghijkm"), {0, 1, 2, 3, 4, 5, 6, 7, 8, 9, 10, -1}}
	for _, n := range []int{math.MinInt, -2, 2, 12, 13, 64, math.MaxInt} {
		out = append(out, []int{n}, []int{0, n}, []int{0, n, 0}, []int{n, 0, 1})
	}
	return out
}

var wrongWires = []int{math.MinInt, -1, 0, 13, 14, 64, math.MaxInt}

// Promise 5: groupings are those lists whose groups are told in the order in which they first come.
func TestIsGrouping(t *testing.T) {
	for wires := 1; wires <= 5; wires++ {
		for _, list := range listsOf(wires, wires+1) {
			for i := range list {
				list[i]-- // so that numbers below 0 are among them
			}
			if got := impl.IsGrouping(list); got != slices.Equal(list, anew(list)) {
				t.Errorf("IsGrouping %v: %v", list, got)
			}
		}
	}
	for _, list := range groupingSample() {
		if !impl.IsGrouping(list) {
			t.Errorf("IsGrouping %v: false", list)
		}
	}
	for _, s := range []string{"a", "aa", "ab", "abb", "abcdefghijkl", "aaaaaaaaaaaa", "abacabadabac"} {
		if !impl.IsGrouping(groups(s)) {
			t.Errorf("IsGrouping %s: false", s)
		}
	}
	for _, list := range wrongGroupings() {
		if impl.IsGrouping(list) {
			t.Errorf("IsGrouping %v: true", list)
		}
	}
}

// Promise 5: groups have the wires that are joined, in order, and the sizes are theirs.
func TestGroupsOf(t *testing.T) {
	for _, list := range groupingSample() {
		var want [][]int
		for group := range slices.Max(list) + 1 {
			var wires []int
			for wire := range list {
				if list[wire] == group {
					wires = append(wires, wire)
				}
			}
			want = append(want, wires)
		}
		got, ok := impl.GroupsOf(list)
		expect(t, fmt.Sprint("GroupsOf ", list), got, ok, want)
		sizes, ok := impl.SizesOf(list)
		expect(t, fmt.Sprint("SizesOf ", list), sizes, ok, sizesIn(list))
	}
	got, ok := impl.GroupsOf(groups("abacba"))
	expect(t, "GroupsOf abacba", got, ok, [][]int{{0, 2, 5}, {1, 4}, {3}})
	sizes, ok := impl.SizesOf(groups("abbcccc"))
	expect(t, "SizesOf abbcccc", sizes, ok, []int{4, 2, 1})
	sizes, ok = impl.SizesOf([]int{0})
	expect(t, "SizesOf a", sizes, ok, []int{1})
	for _, list := range wrongGroupings() {
		got, ok := impl.GroupsOf(list)
		expectFail(t, fmt.Sprint("GroupsOf ", list), got, ok)
		sizes, ok := impl.SizesOf(list)
		expectFail(t, fmt.Sprint("SizesOf ", list), sizes, ok)
	}
}

// Promise 5: there are as many groupings as lists that are groupings.
func TestCountGroupings(t *testing.T) {
	for wires := 1; wires <= 7; wires++ {
		n, ok := impl.CountGroupings(wires)
		expect(t, fmt.Sprint("CountGroupings ", wires), n, ok, len(allGroupings(wires)))
	}
	for i, want := range []int{1, 2, 5, 15, 52, 203, 877, 4140, 21147, 115975, 678570, 4213597} {
		n, ok := impl.CountGroupings(i + 1)
		expect(t, fmt.Sprint("CountGroupings ", i+1), n, ok, want)
	}
	for _, wires := range wrongWires {
		n, ok := impl.CountGroupings(wires)
		expectFail(t, fmt.Sprint("CountGroupings ", wires), n, ok)
	}
}

// sizeLists returns all lists of sizes of groups of so many wires, in the order of first groupings with them.
func sizeLists(wires int) [][]int {
	var out [][]int
	seen := map[string]bool{}
	for _, list := range allGroupings(wires) {
		sizes := sizesIn(list)
		if text := fmt.Sprint(sizes); !seen[text] {
			seen[text] = true
			out = append(out, sizes)
		}
	}
	return out
}

// Promise 5: the first grouping by sizes is the first one of all that have them.
func TestFirstBySizes(t *testing.T) {
	for wires := 1; wires <= 7; wires++ {
		seen := map[string]bool{}
		for _, list := range allGroupings(wires) {
			sizes := sizesIn(list)
			if text := fmt.Sprint(sizes); !seen[text] {
				seen[text] = true
				got, ok := impl.FirstBySizes(sizes)
				expect(t, "FirstBySizes "+text, got, ok, list)
			}
		}
	}
	for want, sizes := range map[string][]int{
		"aab":          {2, 1},
		"a":            {1},
		"aaabbc":       {3, 2, 1},
		"aaaaaaaaaaaa": {12},
		"abcdefghijkl": {1, 1, 1, 1, 1, 1, 1, 1, 1, 1, 1, 1},
		"aaaaabbbbccc": {5, 4, 3},
		"aaaaaaaaaaab": {11, 1},
	} {
		got, ok := impl.FirstBySizes(sizes)
		expect(t, fmt.Sprint("FirstBySizes ", sizes), got, ok, groups(want))
	}
}

// wrongSizes are lists that are no sizes of groups, however many wires there are.
func wrongSizes() [][]int {
	return [][]int{nil, {}, {0}, {-1}, {1, 0}, {0, 1}, {3, -1}, {1, 2}, {2, 1, 2}, {3, 1, 2, 1}, {13}, {12, 1}, {7, 6}, {4, 4, 4, 1}, make([]int, 100),
		{1, 1, 1, 1, 1, 1, 1, 1, 1, 1, 1, 1, 1}, {math.MaxInt}, {math.MinInt}, {math.MaxInt, math.MaxInt}, {math.MaxInt, 1}, {3, math.MinInt},
		{math.MaxInt, math.MaxInt, 3}, {1 << 62, 1 << 62, 1 << 62, 1 << 62}, {5, 0, 0}, {14, -2}}
}

// Promise 5: lists that are no sizes make FirstBySizes and SizesTell fail.
func TestWrongSizes(t *testing.T) {
	for _, sizes := range wrongSizes() {
		got, ok := impl.FirstBySizes(sizes)
		expectFail(t, fmt.Sprint("FirstBySizes ", sizes), got, ok)
		for wires := -1; wires <= 13; wires++ {
			told, ok := impl.SizesTell(wires, sizes, []int{wires})
			expectFail(t, fmt.Sprint("SizesTell ", wires, sizes), told, ok)
			told, ok = impl.SizesTell(wires, []int{wires}, sizes)
			expectFail(t, fmt.Sprint("SizesTell ", wires, ", ", sizes), told, ok)
		}
	}
}

// alike returns the wires with the same two numbers, as SilentGroups does: each list is found at its first wire.
func alike(x []int, y []int) [][]int {
	var out [][]int
	for i := range x {
		var list []int
		for j := range x {
			if x[i] == x[j] && y[i] == y[j] {
				list = append(list, j)
			}
		}
		if list[0] == i && len(list) > 1 {
			out = append(out, list)
		}
	}
	return out
}

// Promise 5: labels are the sizes of both groups, and wires with one label are not told apart.
func TestLabels(t *testing.T) {
	for _, p := range groupingPairs() {
		a, b := p[0], p[1]
		x, y := joined(a), joined(b)
		var want [][]int
		for wire := range a {
			want = append(want, []int{x[wire], y[wire]})
		}
		labels, ok := impl.LabelsOf(a, b)
		expect(t, fmt.Sprint("LabelsOf ", p), labels, ok, want)
		like, ok := impl.LikeWires(a, b)
		expect(t, fmt.Sprint("LikeWires ", p), like, ok, alike(x, y))
		told, ok := impl.TellsWires(a, b)
		expect(t, fmt.Sprint("TellsWires ", p), told, ok, allDiffer(x, y))
		if told != (len(like) == 0) {
			t.Errorf("%v: TellsWires %v, LikeWires %v", p, told, like)
		}
	}
}

// Promise 5: labels told by hand.
func TestKnownLabels(t *testing.T) {
	labels, ok := impl.LabelsOf(groups("abb"), groups("aba"))
	expect(t, "LabelsOf abb, aba", labels, ok, [][]int{{1, 2}, {2, 1}, {2, 2}})
	labels, ok = impl.LabelsOf(groups("abbb"), groups("aabb"))
	expect(t, "LabelsOf abbb, aabb", labels, ok, [][]int{{1, 2}, {3, 2}, {3, 2}, {3, 2}})
	labels, ok = impl.LabelsOf([]int{0}, []int{0})
	expect(t, "LabelsOf a, a", labels, ok, [][]int{{1, 1}})
	for s, want := range map[string][][]int{
		"abb aba":                   nil,
		"a a":                       nil,
		"aa aa":                     {{0, 1}},
		"aa ab":                     {{0, 1}},
		"ab aa":                     {{0, 1}},
		"ab ab":                     {{0, 1}},
		"aabb aabb":                 {{0, 1, 2, 3}},
		"abbb aabb":                 {{1, 2, 3}},
		"abbacd abcdaa":             {{1, 2, 3}, {4, 5}},
		"abcdbb aabbcc":             {{0, 2, 3}, {1, 4, 5}},
		"abbcddeff abcabcdee":       {{0, 3}, {1, 2, 4, 5, 7, 8}},
		"aaaaaaaaaaaa aaaaaaaaaaaa": {{0, 1, 2, 3, 4, 5, 6, 7, 8, 9, 10, 11}},
		"abcdefghijkl aabcdefghijk": {{0, 1}, {2, 3, 4, 5, 6, 7, 8, 9, 10, 11}},
		"abbccc abacba":             nil,
	} {
		a, b, _ := strings.Cut(s, " ")
		like, ok := impl.LikeWires(groups(a), groups(b))
		expect(t, "LikeWires "+s, like, ok, want)
		told, ok := impl.TellsWires(groups(a), groups(b))
		expect(t, "TellsWires "+s, told, ok, want == nil)
	}
}

// Promise 5: lists that are no groupings, and groupings of different numbers of wires, make the functions of two of them fail.
func TestWrongLabels(t *testing.T) {
	fails := func(a []int, b []int) {
		t.Helper()
		labels, ok := impl.LabelsOf(a, b)
		expectFail(t, fmt.Sprint("LabelsOf ", a, b), labels, ok)
		like, ok := impl.LikeWires(a, b)
		expectFail(t, fmt.Sprint("LikeWires ", a, b), like, ok)
		told, ok := impl.TellsWires(a, b)
		expectFail(t, fmt.Sprint("TellsWires ", a, b), told, ok)
	}
	for _, wrong := range wrongGroupings() {
		fails(wrong, wrong)
		if n := len(wrong); n >= 1 && n <= impl.MaxWires {
			fails(wrong, make([]int, n))
			fails(make([]int, n), wrong)
		} else {
			fails(wrong, []int{0})
			fails(make([]int, 12), wrong)
		}
	}
	for x := 1; x <= impl.MaxWires; x++ {
		for y := 1; y <= impl.MaxWires; y++ {
			if x != y {
				fails(make([]int, x), groups("abcdefghijkl")[:y])
			}
		}
	}
}

// Promise 5: the first groupings that tell all wires are those of a search of all of them.
func TestFirstTelling(t *testing.T) {
	for wires := 1; wires <= impl.MaxListedWires; wires++ {
		wantA, wantB, exists := firstTelling(wires)
		can, ok := impl.CanBeTold(wires)
		expect(t, fmt.Sprint("CanBeTold ", wires), can, ok, exists)
		a, b, ok := impl.FirstTelling(wires)
		if exists {
			expect(t, fmt.Sprint("FirstTelling ", wires), [][]int{a, b}, ok, [][]int{wantA, wantB})
		} else {
			expectFail(t, fmt.Sprint("FirstTelling ", wires), a, ok)
			expectFail(t, fmt.Sprint("FirstTelling ", wires), b, ok)
		}
	}
	for wires, s := range map[int]string{1: "a a", 3: "aab aba", 4: "aabc abac"} {
		x, y, _ := strings.Cut(s, " ")
		a, b, ok := impl.FirstTelling(wires)
		expect(t, fmt.Sprint("FirstTelling ", wires), [][]int{a, b}, ok, [][]int{groups(x), groups(y)})
	}
	for wires, want := range map[int]bool{1: true, 2: false, 3: true, 4: true, 5: false, 6: true, 7: true} {
		can, ok := impl.CanBeTold(wires)
		expect(t, fmt.Sprint("CanBeTold ", wires), can, ok, want)
	}
	for _, wires := range append([]int{8, 9, 10, 12}, wrongWires...) {
		can, ok := impl.CanBeTold(wires)
		expectFail(t, fmt.Sprint("CanBeTold ", wires), can, ok)
		a, b, ok := impl.FirstTelling(wires)
		expectFail(t, fmt.Sprint("FirstTelling ", wires), a, ok)
		expectFail(t, fmt.Sprint("FirstTelling ", wires), b, ok)
	}
}

func firstTelling(wires int) ([]int, []int, bool) {
	for _, a := range allGroupings(wires) {
		for _, b := range allGroupings(wires) {
			if allDiffer(joined(a), joined(b)) {
				return a, b, true
			}
		}
	}
	return nil, nil, false
}

// Promise 5: sizes tell just if two of all groupings with them do.
func TestSizesTell(t *testing.T) {
	for wires := 1; wires <= impl.MaxListedWires; wires++ {
		telling := map[string]bool{}
		list := allGroupings(wires)
		numbers := make([][]int, len(list))
		for i := range list {
			numbers[i] = joined(list[i])
		}
		for i := range list {
			for j := range list {
				if allDiffer(numbers[i], numbers[j]) {
					telling[fmt.Sprint(sizesIn(list[i]), sizesIn(list[j]))] = true
				}
			}
		}
		for _, a := range sizeLists(wires) {
			for _, b := range sizeLists(wires) {
				told, ok := impl.SizesTell(wires, a, b)
				expect(t, fmt.Sprint("SizesTell ", wires, a, b), told, ok, telling[fmt.Sprint(a, b)])
			}
		}
	}
	told, ok := impl.SizesTell(3, []int{2, 1}, []int{2, 1})
	expect(t, "SizesTell 3, 2 1, 2 1", told, ok, true)
	told, ok = impl.SizesTell(6, []int{3, 2, 1}, []int{3, 2, 1})
	expect(t, "SizesTell 6, 3 2 1, 3 2 1", told, ok, true)
	told, ok = impl.SizesTell(3, []int{3}, []int{2, 1})
	expect(t, "SizesTell 3, 3, 2 1", told, ok, false)
}

// Promise 5: SizesTell takes sizes of just so many wires, of at most MaxListedWires.
func TestSizesOfOtherWires(t *testing.T) {
	for wires := 1; wires <= impl.MaxListedWires; wires++ {
		for others := 1; others <= impl.MaxListedWires; others++ {
			for _, sizes := range sizeLists(others) {
				if others == wires {
					continue
				}
				told, ok := impl.SizesTell(wires, sizes, []int{wires})
				expectFail(t, fmt.Sprint("SizesTell ", wires, sizes), told, ok)
				told, ok = impl.SizesTell(wires, []int{wires}, sizes)
				expectFail(t, fmt.Sprint("SizesTell ", wires, ", ", sizes), told, ok)
				told, ok = impl.SizesTell(wires, sizes, sizes)
				expectFail(t, fmt.Sprint("SizesTell ", wires, sizes, sizes), told, ok)
			}
		}
	}
	for _, wires := range append([]int{8, 9, 10, 12}, wrongWires...) {
		for _, sizes := range [][]int{nil, {wires}, {wires - 1, 1}, {wires + 1, -1}} {
			told, ok := impl.SizesTell(wires, sizes, sizes)
			expectFail(t, fmt.Sprint("SizesTell ", wires, sizes), told, ok)
		}
	}
}

// Promise 5: partners are all groupings that tell all wires together with one, and the first one is the first of them.
func TestPartners(t *testing.T) {
	for wires := 1; wires <= impl.MaxListedWires; wires++ {
		for n, a := range allGroupings(wires) {
			if wires == 7 && n%5 != 0 {
				continue // to save time
			}
			var partners [][]int
			for _, b := range allGroupings(wires) {
				if allDiffer(joined(a), joined(b)) {
					partners = append(partners, b)
				}
			}
			count, ok := impl.CountPartners(a)
			expect(t, fmt.Sprint("CountPartners ", a), count, ok, len(partners))
			first, ok := impl.FirstPartner(a)
			if len(partners) == 0 {
				expectFail(t, fmt.Sprint("FirstPartner ", a), first, ok)
				continue
			}
			expect(t, fmt.Sprint("FirstPartner ", a), first, ok, partners[0])
			told, ok := impl.TellsWires(a, first)
			expect(t, fmt.Sprint("TellsWires ", a, first), told, ok, true)
		}
	}
}

// Promise 5: partners told by hand, groupings without any, and lists that are no groupings of few wires.
func TestKnownPartners(t *testing.T) {
	for s, want := range map[string]int{"a": 1, "aa": 0, "ab": 0, "abb": 2, "aba": 2, "aab": 2, "aaa": 0, "abc": 0, "aabb": 0, "aaaaaaa": 0, "abcdefg": 0} {
		n, ok := impl.CountPartners(groups(s))
		expect(t, "CountPartners "+s, n, ok, want)
	}
	for s, want := range map[string]string{"a": "a", "abb": "aab", "aba": "aab", "aab": "aba", "aabc": "abac", "abbccc": "aababc"} {
		got, ok := impl.FirstPartner(groups(s))
		expect(t, "FirstPartner "+s, got, ok, groups(want))
	}
	for _, s := range []string{"aa", "ab", "aaa", "abc", "aabb", "aabbc", "abcdefg"} {
		got, ok := impl.FirstPartner(groups(s))
		expectFail(t, "FirstPartner "+s, got, ok)
	}
	wrong := append(wrongGroupings(), groups("abbcccdd"), groups("aaabbcde"), make([]int, 8), groups("abbcccdddd"), make([]int, 12))
	for _, list := range wrong {
		n, ok := impl.CountPartners(list)
		expectFail(t, fmt.Sprint("CountPartners ", list), n, ok)
		got, ok := impl.FirstPartner(list)
		expectFail(t, fmt.Sprint("FirstPartner ", list), got, ok)
	}
}

// Promise 5: stairs are as told, and tell all wires.
func TestStairGrouping(t *testing.T) {
	for i, s := range []string{"a a", "abb aba", "abbccc abacba", "abbcccdddd abacbadcba"} {
		x, y, _ := strings.Cut(s, " ")
		a, b, ok := impl.StairGrouping(i + 1)
		expect(t, fmt.Sprint("StairGrouping ", i+1), [][]int{a, b}, ok, [][]int{groups(x), groups(y)})
		if !allDiffer(joined(a), joined(b)) {
			t.Errorf("StairGrouping %d: %v and %v do not tell all wires", i+1, a, b)
		}
		told, ok := impl.TellsWires(a, b)
		expect(t, "TellsWires "+s, told, ok, true)
	}
	for _, steps := range []int{math.MinInt, -4, -1, 0, 5, 6, 64, math.MaxInt} {
		a, b, ok := impl.StairGrouping(steps)
		expectFail(t, fmt.Sprint("StairGrouping ", steps), a, ok)
		expectFail(t, fmt.Sprint("StairGrouping ", steps), b, ok)
	}
}

// permutations returns all lists of the numbers 0..n-1, each once.
func permutations(n int) [][]int {
	var out [][]int
	for _, list := range listsOf(n, n-1) {
		if slices.Max(joined(list)) == 1 {
			out = append(out, list)
		}
	}
	return out
}

func checkRenamed(t *testing.T, list []int, names []int) {
	t.Helper()
	got, ok := impl.RenameWires(list, names)
	what := fmt.Sprint("RenameWires ", list, names)
	if !ok || len(got) != len(list) || !slices.Equal(got, anew(got)) {
		t.Errorf("%s: %v, %v", what, got, ok)
		return
	}
	for i := range list {
		for j := range list {
			if (got[names[i]] == got[names[j]]) != (list[i] == list[j]) {
				t.Errorf("%s: %v", what, got)
				return
			}
		}
	}
}

// Promise 5: wires are joined under their new names just if they were before.
func TestRenameWires(t *testing.T) {
	r := rand.New(rand.NewSource(21))
	for wires := 1; wires <= 4; wires++ {
		for _, list := range allGroupings(wires) {
			for _, names := range permutations(wires) {
				checkRenamed(t, list, names)
			}
		}
	}
	for _, list := range groupingSample() {
		checkRenamed(t, list, r.Perm(len(list)))
	}
	got, ok := impl.RenameWires(groups("aab"), []int{1, 2, 0})
	expect(t, "RenameWires aab, 1 2 0", got, ok, groups("abb"))
	got, ok = impl.RenameWires(groups("abbc"), []int{3, 0, 1, 2})
	expect(t, "RenameWires abbc, 3 0 1 2", got, ok, groups("aabc"))
	got, ok = impl.RenameWires(groups("abcdefghijkl"), r.Perm(12))
	expect(t, "RenameWires abcdefghijkl", got, ok, groups("abcdefghijkl"))
}

// Promise 5: lists that are no groupings, and names that are not all wires, each once, make RenameWires fail.
func TestWrongNamesOfWires(t *testing.T) {
	for _, list := range wrongGroupings() {
		names := make([]int, len(list))
		for i := range names {
			names[i] = i
		}
		got, ok := impl.RenameWires(list, names)
		expectFail(t, fmt.Sprint("RenameWires ", list, names), got, ok)
	}
	for _, names := range [][]int{nil, {}, {0}, {0, 1}, {0, 1, 2, 3}, {0, 1, 1}, {0, 0, 0}, {1, 2, 3}, {0, 1, 3}, {-1, 0, 1}, {0, 2, -1}, {0, 1, math.MaxInt}, {math.MinInt, 0, 1}, {0, 1, 64}} {
		got, ok := impl.RenameWires(groups("aba"), names)
		expectFail(t, fmt.Sprint("RenameWires aba, ", names), got, ok)
	}
	for _, last := range []int{-1, 0, 10, 12, 16, 64, math.MaxInt} {
		names := []int{0, 1, 2, 3, 4, 5, 6, 7, 8, 9, 10, last}
		got, ok := impl.RenameWires(make([]int, 12), names)
		expectFail(t, fmt.Sprint("RenameWires of 12, ", names), got, ok)
	}
}

// Promise 5: texts of groupings have a letter for each wire, and are read again.
func TestGroupingText(t *testing.T) {
	for _, list := range groupingSample() {
		want := ""
		for _, group := range list {
			want += "abcdefghijkl"[group : group+1]
		}
		s, ok := impl.GroupingText(list)
		expect(t, fmt.Sprint("GroupingText ", list), s, ok, want)
		got, ok := impl.ParseGrouping(want)
		expect(t, "ParseGrouping "+want, got, ok, list)
	}
	for _, list := range wrongGroupings() {
		s, ok := impl.GroupingText(list)
		expectFail(t, fmt.Sprint("GroupingText ", list), s, ok)
	}
	for _, s := range []string{"", "b", "ac", "ba", "abd", "A", "AB", "0", "01", "a b", " a", "a ", "a\n", "a\x00", "\x00", "`", "a`", "a\xff", "\xff", "ä", "aä", "a-b", "aB", "aaaaaaaaaaaaa", "abcdefghijklm", "abcdefghijkm", strings.Repeat("a", 100000)} {
		got, ok := impl.ParseGrouping(s)
		expectFail(t, fmt.Sprintf("ParseGrouping %q", s), got, ok)
	}
}
