package tests

import (
	"fmt"
	"math"
	"math/rand"
	"slices"
	"strings"
	"testing"

	"loop.example/g01316/impl"
)

// claimsIn reads claims such as "0#1,1=2" without the package's help.
func claimsIn(s string) []impl.Claim {
	var out []impl.Claim
	for _, part := range strings.FieldsFunc(s, func(r rune) bool { return r == ',' }) {
		var c impl.Claim
		var sign rune
		if n, err := fmt.Sscanf(part, "%d%c%d", &c.By, &sign, &c.About); n != 3 || err != nil || !strings.ContainsRune("=#", sign) {
			panic(s)
		}
		c.Honest = sign == '='
		out = append(out, c)
	}
	return out
}

func writtenClaims(list []impl.Claim) string {
	parts := []string{}
	for _, c := range list {
		parts = append(parts, fmt.Sprintf("%d%s%d", c.By, map[bool]string{true: "=", false: "#"}[c.Honest], c.About))
	}
	return strings.Join(parts, ",")
}

// wrongAsked are numbers of friends that there cannot be.
var wrongAsked = []int{math.MinInt, -8, -1, 0, 9, 10, 64, math.MaxInt}

var keptTexts = map[int][]string{}

// castTexts returns all texts of so many signs h and l, in order.
func castTexts(friends int) []string {
	if kept, ok := keptTexts[friends]; ok {
		return kept
	}
	var out []string
	for n := range 1 << friends {
		digits := fmt.Sprintf("%0*b", friends, n)
		out = append(out, strings.NewReplacer("0", "l", "1", "h").Replace(digits))
	}
	slices.Sort(out)
	keptTexts[friends] = out
	return out
}

func wrongCasts() []string {
	return []string{"", " ", "H", "L", "x", "?", "0", "1", "h ", " h", "h\n", "hl\x00", "h\xff", "hxl", "xhl", "hlx", "h?l", "h,l", "HL", "hL", "hhlé", "é", "lhk", "lhi", "gh", "ml", "hlhlhlhlh", "lllllllll", strings.Repeat("h", 16), strings.Repeat("hl", 10000)}
}

// wouldMake tells whether By, by what this one is in a cast, makes a claim.
func wouldMake(s string, c impl.Claim) bool {
	told := byte('l')
	if c.Honest {
		told = 'h'
	}
	switch s[c.By] {
	case 'h':
		return told == s[c.About]
	default:
		return told != s[c.About]
	}
}

func fitting(friends int, list []impl.Claim) []string {
	var out []string
	for _, s := range castTexts(friends) {
		if !slices.ContainsFunc(list, func(c impl.Claim) bool { return !wouldMake(s, c) }) {
			out = append(out, s)
		}
	}
	return out
}

func countLiars(s string) int {
	n := 0
	for i := range len(s) {
		if s[i] == 'l' {
			n++
		}
	}
	return n
}

func sureByCasts(friends int, casts []string) string {
	out := []byte(casts[0])
	for _, s := range casts {
		for i := range friends {
			if s[i] != casts[0][i] {
				out[i] = '?'
			}
		}
	}
	return string(out)
}

// groupsByModel gives all friends names of their own, and those of one claim the lesser one again and again.
func groupsByModel(friends int, list []impl.Claim) [][]int {
	names := make([]int, friends)
	for i := range names {
		names[i] = i
	}
	for range friends {
		for _, c := range list {
			least := min(names[c.By], names[c.About])
			names[c.By], names[c.About] = least, least
		}
	}
	var out [][]int
	for name := range friends {
		var group []int
		for i := range names {
			if names[i] == name {
				group = append(group, i)
			}
		}
		if group != nil {
			out = append(out, group)
		}
	}
	return out
}

// sayByCasts tells what by says about about in all casts, by the signs of both.
func sayByCasts(casts []string, by int, about int) int {
	found := map[string]bool{}
	for _, s := range casts {
		found[map[string]string{"hh": "=", "ll": "=", "hl": "#", "lh": "#"}[string([]byte{s[by], s[about]})]] = true
	}
	if len(found) == 2 {
		return 0
	}
	if found["="] {
		return 1
	}
	return -1
}

// checkClaims holds all functions that take claims against the casts that fit these.
func checkClaims(t *testing.T, friends int, list []impl.Claim) {
	t.Helper()
	what := fmt.Sprint(" ", friends, " ", writtenClaims(list))
	if !impl.AreClaims(friends, list) {
		t.Errorf("AreClaims%s: false", what)
	}
	casts := fitting(friends, list)
	for _, s := range castTexts(friends) {
		fits, ok := impl.FitsClaims(friends, list, s)
		expect(t, "FitsClaims"+what+" "+s, fits, ok, slices.Contains(casts, s))
	}
	n, ok := impl.CountCasts(friends, list)
	expect(t, "CountCasts"+what, n, ok, len(casts))
	got, ok := impl.CastsOf(friends, list)
	expect(t, "CastsOf"+what, got, ok, casts)
	groups, ok := impl.ClaimGroups(friends, list)
	expect(t, "ClaimGroups"+what, groups, ok, groupsByModel(friends, list))
	checkNeedless(t, friends, list, casts)
	if len(casts) > 0 {
		checkFollowing(t, friends, list, casts)
	} else {
		checkClash(t, friends, list)
	}
}

func checkNeedless(t *testing.T, friends int, list []impl.Claim, casts []string) {
	t.Helper()
	var want []int
	for k := range list {
		if slices.Equal(fitting(friends, slices.Delete(slices.Clone(list), k, k+1)), casts) {
			want = append(want, k)
		}
	}
	got, ok := impl.NeedlessClaims(friends, list)
	expect(t, fmt.Sprint("NeedlessClaims ", friends, " ", writtenClaims(list)), got, ok, want)
}

// checkFollowing checks what follows from claims that some casts fit.
func checkFollowing(t *testing.T, friends int, list []impl.Claim, casts []string) {
	t.Helper()
	what := fmt.Sprint(" ", friends, " ", writtenClaims(list))
	sure, ok := impl.SureCast(friends, list)
	expect(t, "SureCast"+what, sure, ok, sureByCasts(friends, casts))
	fewest, most := friends, 0
	for _, s := range casts {
		fewest, most = min(fewest, countLiars(s)), max(most, countLiars(s))
	}
	n, ok := impl.FewestLiars(friends, list)
	expect(t, "FewestLiars"+what, n, ok, fewest)
	n, ok = impl.MostLiars(friends, list)
	expect(t, "MostLiars"+what, n, ok, most)
	n, ok = impl.FirstClash(friends, list)
	expectFail(t, "FirstClash"+what, n, ok)
	for by := range friends {
		for about := range friends {
			say, ok := impl.WouldSay(friends, list, by, about)
			expect(t, fmt.Sprint("WouldSay", what, " ", by, " ", about), say, ok, sayByCasts(casts, by, about))
		}
	}
	for _, other := range []int{-1, friends, friends + 1, 8, 64, math.MinInt, math.MaxInt} {
		for _, friend := range []int{0, friends - 1, other} {
			say, ok := impl.WouldSay(friends, list, friend, other)
			expectFail(t, fmt.Sprint("WouldSay", what, " ", friend, " ", other), say, ok)
			say, ok = impl.WouldSay(friends, list, other, friend)
			expectFail(t, fmt.Sprint("WouldSay", what, " ", other, " ", friend), say, ok)
		}
	}
}

// checkClash checks what is told of claims that no cast fits.
func checkClash(t *testing.T, friends int, list []impl.Claim) {
	t.Helper()
	failToFollow(t, friends, list)
	want := 0
	for len(fitting(friends, list[:want+1])) > 0 {
		want++
	}
	clash, ok := impl.FirstClash(friends, list)
	expect(t, fmt.Sprint("FirstClash ", friends, " ", writtenClaims(list)), clash, ok, want)
}

// failToFollow checks that nothing follows from claims that no cast fits, or from what are none.
func failToFollow(t *testing.T, friends int, list []impl.Claim) {
	t.Helper()
	what := fmt.Sprint(" ", friends, " ", writtenClaims(list))
	sure, ok := impl.SureCast(friends, list)
	expectFail(t, "SureCast"+what, sure, ok)
	n, ok := impl.FewestLiars(friends, list)
	expectFail(t, "FewestLiars"+what, n, ok)
	n, ok = impl.MostLiars(friends, list)
	expectFail(t, "MostLiars"+what, n, ok)
	for by := range 3 {
		for about := range 3 {
			say, ok := impl.WouldSay(friends, list, by, about)
			expectFail(t, fmt.Sprint("WouldSay", what, " ", by, " ", about), say, ok)
		}
	}
}

// failForClaims checks that all functions that require claims fail.
func failForClaims(t *testing.T, friends int, list []impl.Claim) {
	t.Helper()
	what := fmt.Sprint(" ", friends, " ", writtenClaims(list))
	if impl.AreClaims(friends, list) {
		t.Errorf("AreClaims%.99s: true", what)
	}
	for _, s := range []string{strings.Repeat("h", max(1, min(friends, 8))), strings.Repeat("l", max(1, min(friends, 8))), "hl", ""} {
		fits, ok := impl.FitsClaims(friends, list, s)
		expectFail(t, "FitsClaims"+what+" "+s, fits, ok)
	}
	n, ok := impl.CountCasts(friends, list)
	expectFail(t, "CountCasts"+what, n, ok)
	casts, ok := impl.CastsOf(friends, list)
	expectFail(t, "CastsOf"+what, casts, ok)
	n, ok = impl.FirstClash(friends, list)
	expectFail(t, "FirstClash"+what, n, ok)
	needless, ok := impl.NeedlessClaims(friends, list)
	expectFail(t, "NeedlessClaims"+what, needless, ok)
	groups, ok := impl.ClaimGroups(friends, list)
	expectFail(t, "ClaimGroups"+what, groups, ok)
	failToFollow(t, friends, list)
}

// claimCase are claims of so many friends.
type claimCase struct {
	friends int
	claims  []impl.Claim
}

func (c claimCase) String() string { return fmt.Sprint(c.friends, " ", writtenClaims(c.claims)) }

// randomClaims returns n claims that a cast fits, those of them that are wrong turned.
func randomClaims(r *rand.Rand, s string, n int, wrong int) []impl.Claim {
	out := make([]impl.Claim, n)
	for k := range out {
		c := impl.Claim{By: r.Intn(len(s)), About: r.Intn(len(s)), Honest: true}
		c.Honest = wouldMake(s, c)
		out[k] = c
	}
	for _, k := range r.Perm(n)[:min(n, wrong)] {
		out[k].Honest = !out[k].Honest
	}
	return out
}

func randomCast(r *rand.Rand, friends int) string {
	return castTexts(friends)[r.Intn(1<<friends)]
}

// claimSample returns claims of all numbers of friends and all numbers of claims, some of which clash.
func claimSample() []claimCase {
	var out []claimCase
	r := rand.New(rand.NewSource(41))
	for friends := 1; friends <= impl.MaxAsked; friends++ {
		for n := range impl.MaxClaims + 1 {
			for _, wrong := range []int{0, 0, 1, 3} {
				out = append(out, claimCase{friends, randomClaims(r, randomCast(r, friends), n, wrong)})
			}
		}
	}
	return out
}

// allClaims returns all claims of so many friends.
func allClaims(friends int) []impl.Claim {
	var out []impl.Claim
	for by := range friends {
		for about := range friends {
			out = append(out, impl.Claim{By: by, About: about}, impl.Claim{By: by, About: about, Honest: true})
		}
	}
	return out
}

// Promise 8: the document's examples.
func TestLiarExamples(t *testing.T) {
	casts, ok := impl.CastsOf(2, claimsIn("0#1"))
	expect(t, "CastsOf 0#1", casts, ok, []string{"hl", "lh"})
	say, ok := impl.WouldSay(2, claimsIn("0#1"), 1, 0)
	expect(t, "WouldSay 0#1", say, ok, -1)
	for friends := 1; friends <= impl.MaxAsked; friends++ {
		clash, ok := impl.FirstClash(friends, claimsIn("0#0"))
		expect(t, fmt.Sprint("FirstClash 0#0 ", friends), clash, ok, 0)
	}
	heard, ok := impl.PassedOn("hl", []int{0, 1, 1}, true)
	expect(t, "PassedOn hl 0 1 1", heard, ok, true)
	paths, ok := impl.PathsHeard("hll", 0, 2)
	expect(t, "PathsHeard hll 0 2", paths, ok, []int{1, 1})
	claims, ok := impl.ClaimsOfCast("hll")
	expect(t, "ClaimsOfCast hll", claims, ok, []impl.Claim{{By: 0, About: 1, Honest: false}, {By: 1, About: 2, Honest: true}})
	text, ok := impl.ClaimsText(claims)
	expect(t, "ClaimsText", text, ok, "0#1,1=2")
}

// Promise 8: the limits are those of the document.
func TestLiarLimits(t *testing.T) {
	if impl.MaxClaims != 20 || impl.MaxAsked != 8 {
		t.Errorf("MaxClaims %d, MaxAsked %d", impl.MaxClaims, impl.MaxAsked)
	}
}

// Promise 8: claims are those by and about friends that there are, perhaps the same one, and any number of them up to MaxClaims.
func TestAreClaims(t *testing.T) {
	numbers := append(slices.Clone(extremes), 7, 8)
	for _, friends := range numbers {
		can := 1 <= friends && friends <= 8
		for _, by := range numbers {
			for _, about := range numbers {
				want := can && 0 <= by && by < friends && 0 <= about && about < friends
				for _, honest := range []bool{true, false} {
					c := impl.Claim{By: by, About: about, Honest: honest}
					for _, list := range [][]impl.Claim{{c}, {{}, c}, {c, {Honest: true}}, {c, c}} {
						if got := impl.AreClaims(friends, list); got != want {
							t.Errorf("AreClaims %d %v: %v", friends, list, got)
						}
					}
				}
			}
		}
		for _, n := range []int{0, 1, 2, 19, 20, 21, 22, 40, 1000} {
			if got := impl.AreClaims(friends, slices.Repeat([]impl.Claim{{Honest: true}}, n)); got != (can && n <= 20) {
				t.Errorf("AreClaims %d of %d claims: %v", friends, n, got)
			}
		}
		if got := impl.AreClaims(friends, nil); got != can {
			t.Errorf("AreClaims %d of none: %v", friends, got)
		}
	}
}

// Promise 8: all lists of at most four claims of one friend, of one claim less for each friend more: those of one about itself, the same claim twice, and claims that clash among them.
func TestSmallClaims(t *testing.T) {
	for friends, most := range []int{0, 4, 3, 2, 1} {
		lists := [][]impl.Claim{nil}
		for len(lists) > 0 && friends > 0 {
			list := lists[0]
			lists = lists[1:]
			checkClaims(t, friends, list)
			if len(list) < most {
				for _, c := range allClaims(friends) {
					lists = append(lists, append(slices.Clone(list), c))
				}
			}
		}
	}
}

// Promise 8: many claims of many friends, which some casts fit, or none.
func TestClaims(t *testing.T) {
	fits, clashes := 0, 0
	for _, c := range claimSample() {
		checkClaims(t, c.friends, c.claims)
		if len(fitting(c.friends, c.claims)) > 0 {
			fits++
		} else {
			clashes++
		}
	}
	if fits < 300 || clashes < 150 {
		t.Errorf("casts fit only %d, and only %d clash", fits, clashes)
	}
}

// Promise 8: what is known to follow from some claims.
func TestKnownClaims(t *testing.T) {
	for _, c := range []struct {
		friends  int
		claims   string
		casts    string
		sure     string
		fewest   int
		most     int
		needless []int
		groups   [][]int
	}{
		{1, "", "h l", "?", 0, 1, nil, [][]int{{0}}},
		{1, "0=0", "h l", "?", 0, 1, []int{0}, [][]int{{0}}},
		{2, "", "hh hl lh ll", "??", 0, 2, nil, [][]int{{0}, {1}}},
		{2, "0=1", "hh ll", "??", 0, 2, nil, [][]int{{0, 1}}},
		{2, "0#1", "hl lh", "??", 1, 1, nil, [][]int{{0, 1}}},
		{2, "0#1,1#0", "hl lh", "??", 1, 1, []int{0, 1}, [][]int{{0, 1}}},
		{2, "0#1,0#1,1=1", "hl lh", "??", 1, 1, []int{0, 1, 2}, [][]int{{0, 1}}},
		{3, "0#1,1=2", "hll lhh", "???", 1, 2, nil, [][]int{{0, 1, 2}}},
		{3, "2=0", "hhh hlh lhl lll", "???", 0, 3, nil, [][]int{{0, 2}, {1}}},
		{3, "0=2,2=1,1=0", "hhh lll", "???", 0, 3, []int{0, 1, 2}, [][]int{{0, 1, 2}}},
		{3, "0#1,1#2,2=0", "hlh lhl", "???", 1, 2, []int{0, 1, 2}, [][]int{{0, 1, 2}}},
		{4, "0#3,2=1", "hhhl hlll lhhh lllh", "????", 1, 3, nil, [][]int{{0, 3}, {1, 2}}},
		{5, "4#2,2#1,3=3", "hhlhh hhllh hlhhl hlhll lhlhh lhllh llhhl llhll", "?????", 1, 4, []int{2}, [][]int{{0}, {1, 2, 4}, {3}}},
	} {
		list := claimsIn(c.claims)
		what := fmt.Sprint(" ", c.friends, " ", c.claims)
		checkClaims(t, c.friends, list)
		casts, ok := impl.CastsOf(c.friends, list)
		expect(t, "CastsOf"+what, casts, ok, strings.Fields(c.casts))
		sure, ok := impl.SureCast(c.friends, list)
		expect(t, "SureCast"+what, sure, ok, c.sure)
		fewest, ok := impl.FewestLiars(c.friends, list)
		expect(t, "FewestLiars"+what, fewest, ok, c.fewest)
		most, ok := impl.MostLiars(c.friends, list)
		expect(t, "MostLiars"+what, most, ok, c.most)
		needless, ok := impl.NeedlessClaims(c.friends, list)
		expect(t, "NeedlessClaims"+what, needless, ok, c.needless)
		groups, ok := impl.ClaimGroups(c.friends, list)
		expect(t, "ClaimGroups"+what, groups, ok, c.groups)
	}
}

// Promise 8: claims that clash, from the known one on.
func TestKnownClashes(t *testing.T) {
	for _, c := range []struct {
		friends  int
		claims   string
		clash    int
		needless []int
	}{
		{1, "0#0", 0, nil},
		{1, "0=0,0#0", 1, []int{0}},
		{1, "0#0,0=0", 0, []int{1}},
		{1, "0#0,0#0", 0, []int{0, 1}},
		{2, "0=1,0#1", 1, nil},
		{2, "0=1,1#0", 1, nil},
		{2, "0#1,1=1,1=0", 2, []int{1}},
		{3, "0#1,1#2,2#0", 2, nil},
		{3, "0=1,1=2,2#0", 2, nil},
		{3, "0=1,0=1,1=2,2#0", 3, []int{0, 1}},
		{3, "0=1,1=2,2#0,0=2", 2, []int{0, 1, 3}},
		{3, "0=1,2=2,1=2,0=2,2#0", 4, []int{0, 1, 2, 3}},
		{3, "0=1,1=2,2#0,1#1", 2, []int{0, 1, 2, 3}},
		{8, "0=1,1=2,2=3,3=4,4=5,5=6,6=7,0#7", 7, nil},
		{8, "7#7,0=1", 0, []int{1}},
	} {
		list := claimsIn(c.claims)
		what := fmt.Sprint(" ", c.friends, " ", c.claims)
		checkClaims(t, c.friends, list)
		clash, ok := impl.FirstClash(c.friends, list)
		expect(t, "FirstClash"+what, clash, ok, c.clash)
		needless, ok := impl.NeedlessClaims(c.friends, list)
		expect(t, "NeedlessClaims"+what, needless, ok, c.needless)
		casts, ok := impl.CastsOf(c.friends, list)
		expect(t, "CastsOf"+what, casts, ok, []string{})
		failToFollow(t, c.friends, list)
	}
}

// turned returns the cast in which each friend is what this one is not in another.
func turned(s string) string { return strings.NewReplacer("h", "l", "l", "h").Replace(s) }

// Promise 8: casts fit just as those do in which all are turned, so that nobody is sure.
func TestTurnedCastsFit(t *testing.T) {
	for _, c := range claimSample() {
		casts, _ := impl.CastsOf(c.friends, c.claims)
		for _, s := range casts {
			fits, ok := impl.FitsClaims(c.friends, c.claims, turned(s))
			expect(t, fmt.Sprint("FitsClaims ", c, " ", turned(s)), fits, ok, true)
		}
		if len(casts) > 0 {
			sure, ok := impl.SureCast(c.friends, c.claims)
			expect(t, fmt.Sprint("SureCast ", c), sure, ok, strings.Repeat("?", c.friends))
		}
	}
}

// Promise 8: up to MaxClaims claims of up to MaxAsked friends, and no more; no claims, and one friend alone.
func TestMostClaims(t *testing.T) {
	for friends := 1; friends <= impl.MaxAsked; friends++ {
		checkClaims(t, friends, nil)
		checkClaims(t, friends, []impl.Claim{})
		var ring []impl.Claim
		for k := range 20 {
			ring = append(ring, impl.Claim{By: k % friends, About: (k + 1) % friends, Honest: true})
		}
		checkClaims(t, friends, ring)
		for _, more := range []int{1, 2, 20, 1000} {
			failForClaims(t, friends, append(slices.Clone(ring), slices.Repeat(ring[:1], more)...))
		}
		checkClaims(t, friends, slices.Repeat([]impl.Claim{{By: friends - 1, About: 0, Honest: true}}, 20))
		failForClaims(t, friends, slices.Repeat([]impl.Claim{{By: friends - 1, About: 0, Honest: true}}, 21))
	}
}

// Promise 8: numbers of friends that there cannot be, and claims by and about friends that there are not.
func TestWrongClaims(t *testing.T) {
	for _, friends := range wrongAsked {
		for _, s := range []string{"", "0=0", "0#0", "0#1", "0=1,1#2", "8=8", "-1=0"} {
			failForClaims(t, friends, claimsIn(s))
		}
	}
	for friends := 1; friends <= impl.MaxAsked; friends++ {
		for _, n := range []int{-1, friends, friends + 1, 8, 9, 64, -64, 1 << 32, math.MinInt, math.MaxInt} {
			for _, c := range []impl.Claim{{By: n, About: 0}, {By: 0, About: n}, {By: n, About: n}, {By: friends - 1, About: n, Honest: true}, {By: n, About: friends - 1, Honest: true}} {
				failForClaims(t, friends, []impl.Claim{c})
				failForClaims(t, friends, []impl.Claim{c, {Honest: true}})
				failForClaims(t, friends, []impl.Claim{{}, {Honest: true}, c})
			}
		}
	}
}

// Promise 8: casts with no sign, of another length than there are friends, with more than MaxAsked signs, or with others than h and l.
func TestWrongCasts(t *testing.T) {
	for friends := 1; friends <= impl.MaxAsked; friends++ {
		for _, list := range [][]impl.Claim{nil, {{Honest: true}}, {{}}} {
			wrong := wrongCasts()
			for length := range 10 {
				if length != friends {
					wrong = append(wrong, strings.Repeat("h", length), strings.Repeat("l", length))
				}
			}
			for i := range friends {
				for _, sign := range []string{"", "x", "H", "?", " ", "hl", "\x00", "\xff", "é"} {
					wrong = append(wrong, strings.Repeat("h", i)+sign+strings.Repeat("l", friends-1-i))
				}
			}
			for _, s := range wrong {
				fits, ok := impl.FitsClaims(friends, list, s)
				expectFail(t, fmt.Sprintf("FitsClaims %d %v %.30q", friends, list, s), fits, ok)
			}
		}
	}
	for _, s := range wrongCasts() {
		failForCast(t, s, []int{0}, 0, 1)
		failForCast(t, s, nil, 1, 0)
		failForCast(t, s, []int{0, 1, 1}, 0, 0)
	}
}

// failForCast checks that all functions that take a cast alone fail for it, or for what else they take.
func failForCast(t *testing.T, s string, path []int, from int, to int) {
	t.Helper()
	claims, ok := impl.ClaimsOfCast(s)
	expectFail(t, fmt.Sprintf("ClaimsOfCast %.30q", s), claims, ok)
	paths, ok := impl.PathsHeard(s, from, to)
	expectFail(t, fmt.Sprintf("PathsHeard %.30q %d %d", s, from, to), paths, ok)
	for _, yes := range []bool{true, false} {
		heard, ok := impl.PassedOn(s, path, yes)
		expectFail(t, fmt.Sprintf("PassedOn %.30q %v", s, path), heard, ok)
		says, ok := impl.AskAbout(s, from, to, yes)
		expectFail(t, fmt.Sprintf("AskAbout %.30q %d %d", s, from, to), says, ok)
	}
}

// Promise 8: what each says about the next one is what the cast makes this one say, and it and the turned cast fit alone.
func TestClaimsOfCast(t *testing.T) {
	for friends := 1; friends <= impl.MaxAsked; friends++ {
		for _, s := range castTexts(friends) {
			var want []impl.Claim
			for by := range friends - 1 {
				want = append(want, impl.Claim{By: by, About: by + 1, Honest: s[by] == s[by+1]})
			}
			claims, ok := impl.ClaimsOfCast(s)
			expect(t, "ClaimsOfCast "+s, claims, ok, want)
			both := []string{s, turned(s)}
			slices.Sort(both)
			casts, ok := impl.CastsOf(friends, claims)
			expect(t, "CastsOf ClaimsOfCast "+s, casts, ok, both)
		}
	}
	for s, want := range map[string]string{"h": "", "l": "", "hh": "0=1", "lh": "0#1", "ll": "0=1", "hlhl": "0#1,1#2,2#3", "lllh": "0=1,1=2,2#3", "hhhhllll": "0=1,1=2,2=3,3#4,4=5,5=6,6=7"} {
		claims, ok := impl.ClaimsOfCast(s)
		expect(t, "ClaimsOfCast "+s, claims, ok, claimsIn(want))
	}
}

// heardAtLast tells what comes of yes or no by a path: the other one for each liar.
func heardAtLast(s string, path []int, yes bool) bool {
	liars := 0
	for _, friend := range path {
		liars += countLiars(s[friend : friend+1])
	}
	return yes == (liars%2 == 0)
}

func checkPassedOn(t *testing.T, s string, path []int) {
	t.Helper()
	for _, yes := range []bool{true, false} {
		heard, ok := impl.PassedOn(s, path, yes)
		expect(t, fmt.Sprint("PassedOn ", s, " ", path, " ", yes), heard, ok, heardAtLast(s, path, yes))
	}
}

// Promise 8: news are turned by each liar, and by no honest one, as often as each comes on the path, perhaps by nobody.
func TestPassedOn(t *testing.T) {
	for friends := 1; friends <= 3; friends++ {
		for length := range 5 {
			for _, path := range listsOf(length, friends-1) {
				for _, s := range castTexts(friends) {
					checkPassedOn(t, s, path)
				}
			}
		}
	}
	r := rand.New(rand.NewSource(42))
	for friends := 1; friends <= impl.MaxAsked; friends++ {
		for length := range 31 {
			for range 5 {
				path := make([]int, length)
				for i := range path {
					path[i] = r.Intn(friends)
				}
				checkPassedOn(t, randomCast(r, friends), path)
			}
		}
	}
	for _, c := range []struct {
		cast  string
		path  []int
		yes   bool
		heard bool
	}{
		{"h", nil, true, true}, {"l", nil, true, true}, {"l", nil, false, false}, {"l", []int{}, true, true}, {"h", []int{0}, true, true}, {"h", []int{0}, false, false}, {"l", []int{0}, true, false}, {"l", []int{0}, false, true},
		{"l", []int{0, 0}, true, true}, {"hl", []int{1, 0, 1, 1}, true, false}, {"hl", []int{0, 1}, false, true}, {"lll", []int{0, 1, 2}, true, false}, {"lhl", []int{2, 1, 0}, false, false},
	} {
		heard, ok := impl.PassedOn(c.cast, c.path, c.yes)
		expect(t, fmt.Sprint("PassedOn ", c), heard, ok, c.heard)
	}
}

// Promise 8: paths of more than 30 friends, and with friends that there are not, are none.
func TestWrongPaths(t *testing.T) {
	fails := func(s string, path []int) {
		t.Helper()
		for _, yes := range []bool{true, false} {
			heard, ok := impl.PassedOn(s, path, yes)
			expectFail(t, fmt.Sprintf("PassedOn %s %.90s", s, fmt.Sprint(path)), heard, ok)
		}
	}
	for _, s := range []string{"h", "l", "hl", "lh", "ll", "hlhlhlhl"} {
		checkPassedOn(t, s, make([]int, 30))
		for _, length := range []int{31, 32, 60, 100000} {
			fails(s, make([]int, length))
		}
		for _, n := range []int{-1, len(s), len(s) + 1, 8, 9, 64, 1 << 32, math.MinInt, math.MaxInt} {
			for _, path := range [][]int{{n}, {0, n}, {n, 0}, {0, n, 0}, append(make([]int, 29), n), {n, n}} {
				fails(s, path)
			}
		}
	}
}

// pathsByList counts the lists of different friends that begin with from and end with to, by what is heard at last.
func pathsByList(s string, from int, to int) []int {
	out := []int{0, 0}
	for length := 2; length <= len(s); length++ {
		for _, path := range listsOf(length, len(s)-1) {
			if path[0] != from || path[length-1] != to || slices.Max(joined(path)) > 1 {
				continue
			}
			if heardAtLast(s, path, true) {
				out[0]++
			} else {
				out[1]++
			}
		}
	}
	return out
}

// pathsByChoice counts the same lists by who is on them: those between from and to may come in each order.
func pathsByChoice(s string, from int, to int) []int {
	out := []int{0, 0}
	for chosen := range 1 << len(s) {
		if chosen>>from&1 == 0 || chosen>>to&1 == 0 {
			continue
		}
		between, liars, orders := 0, 0, 1
		for friend := range s {
			if chosen>>friend&1 == 0 {
				continue
			}
			liars += countLiars(s[friend : friend+1])
			if friend != from && friend != to {
				between++
				orders *= between
			}
		}
		out[liars%2] += orders
	}
	return out
}

// Promise 8: all lists of different friends from one to another pass news on, as they were or the other way.
func TestPathsHeard(t *testing.T) {
	for friends := 2; friends <= impl.MaxAsked; friends++ {
		for k, s := range castTexts(friends) {
			for from := range friends {
				for to := range friends {
					what := fmt.Sprint("PathsHeard ", s, " ", from, " ", to)
					got, ok := impl.PathsHeard(s, from, to)
					if from == to {
						expectFail(t, what, got, ok)
						continue
					}
					expect(t, what, got, ok, pathsByChoice(s, from, to))
					if friends <= 4 || friends == 5 && k%4 == 0 {
						expect(t, what, got, ok, pathsByList(s, from, to))
					}
				}
			}
		}
	}
	for _, c := range []struct {
		cast  string
		from  int
		to    int
		paths []int
	}{
		{"hh", 0, 1, []int{1, 0}}, {"hl", 0, 1, []int{0, 1}}, {"hl", 1, 0, []int{0, 1}}, {"ll", 0, 1, []int{1, 0}}, {"hhh", 0, 2, []int{2, 0}}, {"hlh", 0, 2, []int{1, 1}}, {"lll", 2, 0, []int{1, 1}}, {"lhh", 0, 1, []int{0, 2}}, {"lhh", 1, 2, []int{1, 1}},
		{"hhhh", 0, 3, []int{5, 0}}, {"hllh", 0, 3, []int{3, 2}}, {"hhhhhhhh", 0, 7, []int{1957, 0}}, {"lhhhhhhh", 7, 0, []int{0, 1957}},
	} {
		got, ok := impl.PathsHeard(c.cast, c.from, c.to)
		expect(t, fmt.Sprint("PathsHeard ", c), got, ok, c.paths)
	}
}

// Promise 8: paths lead from and to different friends that there are, and such are asked, perhaps about themselves.
func TestWrongFriendsOfCasts(t *testing.T) {
	for _, s := range []string{"h", "l", "hl", "hlh", "hlhlhlhl"} {
		for friend := range len(s) {
			got, ok := impl.PathsHeard(s, friend, friend)
			expectFail(t, fmt.Sprint("PathsHeard ", s, " ", friend, " ", friend), got, ok)
			for _, n := range []int{-1, len(s), len(s) + 1, 8, 9, 64, 1 << 32, math.MinInt, math.MaxInt} {
				for _, pair := range [][2]int{{friend, n}, {n, friend}, {n, n}, {n, -1}} {
					got, ok := impl.PathsHeard(s, pair[0], pair[1])
					expectFail(t, fmt.Sprint("PathsHeard ", s, " ", pair), got, ok)
					for _, honest := range []bool{true, false} {
						says, ok := impl.AskAbout(s, pair[0], pair[1], honest)
						expectFail(t, fmt.Sprint("AskAbout ", s, " ", pair), says, ok)
					}
				}
			}
		}
	}
}

// Promise 8: honest ones answer what is so, liars what is not, also about themselves.
func TestAskAbout(t *testing.T) {
	for friends := 1; friends <= impl.MaxAsked; friends++ {
		for _, s := range castTexts(friends) {
			for _, c := range allClaims(friends) {
				says, ok := impl.AskAbout(s, c.By, c.About, c.Honest)
				expect(t, fmt.Sprint("AskAbout ", s, " ", c), says, ok, wouldMake(s, c))
				fits, ok := impl.FitsClaims(friends, []impl.Claim{c}, s)
				expect(t, fmt.Sprint("FitsClaims ", s, " ", c), fits, ok, says)
			}
		}
	}
	for _, c := range []struct {
		cast   string
		by     int
		about  int
		honest bool
		says   bool
	}{
		{"h", 0, 0, true, true}, {"h", 0, 0, false, false}, {"l", 0, 0, true, true}, {"l", 0, 0, false, false}, {"hl", 0, 1, true, false}, {"hl", 0, 1, false, true}, {"hl", 1, 0, true, false}, {"hl", 1, 0, false, true}, {"ll", 0, 1, true, true}, {"ll", 1, 0, false, false}, {"hhhhhhhl", 6, 7, false, true},
	} {
		says, ok := impl.AskAbout(c.cast, c.by, c.about, c.honest)
		expect(t, fmt.Sprint("AskAbout ", c), says, ok, c.says)
	}
}

// Promise 8: claims of any friends less than MaxAsked are written and read again.
func TestClaimsText(t *testing.T) {
	lists := [][]impl.Claim{nil, {}}
	for _, c := range claimSample() {
		lists = append(lists, c.claims)
	}
	for _, c := range allClaims(impl.MaxAsked) {
		lists = append(lists, []impl.Claim{c}, []impl.Claim{c, {}, c})
	}
	for _, list := range lists {
		want := writtenClaims(list)
		text, ok := impl.ClaimsText(list)
		expect(t, fmt.Sprint("ClaimsText ", list), text, ok, want)
		got, ok := impl.ParseClaims(want)
		expect(t, fmt.Sprintf("ParseClaims %q", want), got, ok, list)
	}
	for s, want := range map[string][]impl.Claim{"": nil, "0=0": {{Honest: true}}, "7#6": {{By: 7, About: 6}}, "0#1,1=2": {{By: 0, About: 1}, {By: 1, About: 2, Honest: true}}, "3#3,3#3": {{By: 3, About: 3}, {By: 3, About: 3}}, "0=1,0#1": {{By: 0, About: 1, Honest: true}, {By: 0, About: 1}}} {
		text, ok := impl.ClaimsText(want)
		expect(t, fmt.Sprint("ClaimsText ", want), text, ok, s)
		got, ok := impl.ParseClaims(s)
		expect(t, fmt.Sprintf("ParseClaims %q", s), got, ok, want)
	}
}

// Promise 8: claims of MaxAsked or greater friends, and too many, have no text.
func TestClaimsWithoutText(t *testing.T) {
	for _, n := range []int{math.MinInt, -10, -1, 8, 9, 10, 64, 1 << 32, math.MaxInt} {
		for _, c := range []impl.Claim{{By: n}, {About: n}, {By: n, About: n, Honest: true}} {
			for _, list := range [][]impl.Claim{{c}, {c, {}}, {{}, {}, c}} {
				text, ok := impl.ClaimsText(list)
				expectFail(t, fmt.Sprint("ClaimsText ", list), text, ok)
			}
		}
	}
	text, ok := impl.ClaimsText(make([]impl.Claim, 20))
	expect(t, "ClaimsText of 20", text, ok, strings.Repeat("0#0,", 20)[:79])
	for _, n := range []int{21, 22, 1000, 100000} {
		text, ok := impl.ClaimsText(make([]impl.Claim, n))
		expectFail(t, fmt.Sprint("ClaimsText of ", n), text, ok)
	}
}

// Promise 8: texts that are none of claims.
func TestWrongClaimsTexts(t *testing.T) {
	twenty := strings.Repeat("0=1,", 20)
	got, ok := impl.ParseClaims(twenty[:79])
	expect(t, "ParseClaims of 20", got, ok, slices.Repeat([]impl.Claim{{By: 0, About: 1, Honest: true}}, 20))
	wrong := []string{twenty, twenty + "0=1", twenty + "0#1", "," + twenty[:79], strings.Repeat("0=1,", 1000) + "0=1", strings.Repeat(",", 100000), strings.Repeat("0", 100000), strings.Repeat("=", 100000),
		",", "0=1,", ",0=1", "0=1,,1=0", " ", "\n", "0", "=", "#", "01", "0=", "=1", "0#", "#1", "0==1", "0=#1", "0##1", "0=1=", "=0=1", "0=1=2", "0-1", "0>1", "0:1", "0 1", "011", "0\x001", "0\xff1", "0=1;1=2", "0=1 1=2", "0=1, 1=2", "0=1 ,1=2", "0=1,1=2\n", "0=1\x00"}
	for _, n := range []string{"", "8", "9", "10", "77", "-1", "+1", "01", "00", " 1", "1 ", ":", "/", "a", "h", "\x00", "\xff", "é", "１", "99999999999999999999"} {
		for _, sign := range []string{"=", "#"} {
			wrong = append(wrong, n+sign+"1", "1"+sign+n, n+sign+n, "0=1,"+n+sign+"2,1=0", "0=1,2"+sign+n)
		}
	}
	for _, s := range wrong {
		got, ok := impl.ParseClaims(s)
		expectFail(t, fmt.Sprintf("ParseClaims %.60q", s), got, ok)
	}
}
