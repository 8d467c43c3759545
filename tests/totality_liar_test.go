package tests

import (
	"fmt"
	"math/rand"
	"reflect"
	"slices"
	"strings"
	"testing"

	"loop.example/g01316/impl"
)

// liarArguments are all the arguments that a function of liars may have but for texts of claims.
type liarArguments struct {
	friends int
	claims  []impl.Claim
	cast    string
	path    []int
	by      int
	about   int
	yes     bool
}

// liarFunction is a function of chapter 8.
type liarFunction struct {
	name string
	run  func(x liarArguments) (any, bool)
}

func liarFunctions() []liarFunction {
	return []liarFunction{
		{"AreClaims", func(x liarArguments) (any, bool) {
			ok := impl.AreClaims(x.friends, x.claims)
			return ok, ok
		}},
		{"FitsClaims", func(x liarArguments) (any, bool) { return erase(impl.FitsClaims(x.friends, x.claims, x.cast)) }},
		{"CountCasts", func(x liarArguments) (any, bool) { return erase(impl.CountCasts(x.friends, x.claims)) }},
		{"CastsOf", func(x liarArguments) (any, bool) { return erase(impl.CastsOf(x.friends, x.claims)) }},
		{"SureCast", func(x liarArguments) (any, bool) { return erase(impl.SureCast(x.friends, x.claims)) }},
		{"FewestLiars", func(x liarArguments) (any, bool) { return erase(impl.FewestLiars(x.friends, x.claims)) }},
		{"MostLiars", func(x liarArguments) (any, bool) { return erase(impl.MostLiars(x.friends, x.claims)) }},
		{"FirstClash", func(x liarArguments) (any, bool) { return erase(impl.FirstClash(x.friends, x.claims)) }},
		{"NeedlessClaims", func(x liarArguments) (any, bool) { return erase(impl.NeedlessClaims(x.friends, x.claims)) }},
		{"ClaimGroups", func(x liarArguments) (any, bool) { return erase(impl.ClaimGroups(x.friends, x.claims)) }},
		{"WouldSay", func(x liarArguments) (any, bool) { return erase(impl.WouldSay(x.friends, x.claims, x.by, x.about)) }},
		{"ClaimsOfCast", func(x liarArguments) (any, bool) { return erase(impl.ClaimsOfCast(x.cast)) }},
		{"PassedOn", func(x liarArguments) (any, bool) { return erase(impl.PassedOn(x.cast, x.path, x.yes)) }},
		{"PathsHeard", func(x liarArguments) (any, bool) { return erase(impl.PathsHeard(x.cast, x.by, x.about)) }},
		{"AskAbout", func(x liarArguments) (any, bool) { return erase(impl.AskAbout(x.cast, x.by, x.about, x.yes)) }},
		{"ClaimsText", func(x liarArguments) (any, bool) { return erase(impl.ClaimsText(x.claims)) }},
	}
}

// oddClaims are lists of claims, many of which are none.
func oddClaims(r *rand.Rand) []impl.Claim {
	if r.Intn(3) == 0 {
		return randomClaims(r, randomCast(r, 1+r.Intn(8)), r.Intn(23), r.Intn(3))
	}
	odd := func() int {
		if r.Intn(5) > 0 {
			return r.Intn(5)
		}
		return extremes[r.Intn(len(extremes))]
	}
	out := make([]impl.Claim, r.Intn(6))
	for k := range out {
		out[k] = impl.Claim{By: odd(), About: odd(), Honest: r.Intn(2) == 0}
	}
	return out
}

func oddCast(r *rand.Rand) string {
	if r.Intn(3) == 0 {
		return wrongCasts()[r.Intn(len(wrongCasts()))]
	}
	return randomCast(r, 1+r.Intn(9))
}

func oddPath(r *rand.Rand) []int {
	if r.Intn(3) == 0 {
		return oddNumbers(r)
	}
	out := make([]int, r.Intn(33))
	for i := range out {
		out[i] = r.Intn(1 + r.Intn(9))
	}
	return out
}

// Promise 11: no argument makes a function of chapter 8 panic, and where it fails all other results are zero.
func TestAllLiarsAreAccepted(t *testing.T) {
	r := rand.New(rand.NewSource(43))
	for range 5000 {
		x := liarArguments{extremes[r.Intn(len(extremes))], oddClaims(r), oddCast(r), oddPath(r), extremes[r.Intn(len(extremes))], extremes[r.Intn(len(extremes))], r.Intn(2) == 0}
		if r.Intn(3) > 0 {
			x.friends, x.by, x.about = r.Intn(10), r.Intn(10)-1, r.Intn(10)-1
		}
		for _, f := range liarFunctions() {
			got, ok := f.run(x)
			if !ok && !isZero(got) {
				t.Errorf("%s of %v fails with %v", f.name, x, got)
			}
		}
	}
	for range 5000 {
		s := oddClaimsText(r)
		list, ok := impl.ParseClaims(s)
		if !ok {
			expectFail(t, fmt.Sprintf("ParseClaims %q", s), list, ok)
		} else if text, fine := impl.ClaimsText(list); text != s || !fine {
			t.Errorf("ParseClaims %q: %v", s, list)
		}
	}
}

func oddClaimsText(r *rand.Rand) string {
	signs := "0123456789=#,-+ \n\x00\xff"
	out := []byte(strings.Repeat("0#1,1=2,7=7,", 8)[:r.Intn(90)])
	for i := range out {
		if r.Intn(2+len(out)) == 0 {
			out[i] = signs[r.Intn(len(signs))]
		}
	}
	return string(out)
}

// roomyClaims returns a copy of claims with filled room behind it.
func roomyClaims(list []impl.Claim) []impl.Claim {
	return append(slices.Clone(list), claimsIn("71=72,73#74,75=76")...)[:len(list)]
}

// Promise 11: claims and paths stay as they are, with the room behind them, and results have memory of their own.
func TestClaimsStayAsTheyAre(t *testing.T) {
	r := rand.New(rand.NewSource(44))
	for _, c := range claimSample() {
		list, path := roomyClaims(c.claims), roomyList(make([]int, r.Intn(31)))
		for i := range path {
			path[i] = r.Intn(c.friends)
		}
		whole := func() string { return fmt.Sprint(list[:cap(list)], len(list)) + wholeListText(path) }
		x := liarArguments{c.friends, list, randomCast(r, c.friends), path, r.Intn(c.friends), r.Intn(c.friends), r.Intn(2) == 0}
		for _, f := range liarFunctions() {
			checkStays(t, f.name, x, func() (any, bool) { return f.run(x) }, whole)
		}
	}
}

// Promise 11: ParseClaims gives new claims each time.
func TestParsedClaimsAreNew(t *testing.T) {
	for _, s := range []string{"0#1,1=2", "7=7"} {
		first, _ := impl.ParseClaims(s)
		spoil(t, "ParseClaims", reflect.ValueOf(first), -9)
		again, ok := impl.ParseClaims(s)
		expect(t, "ParseClaims "+s, again, ok, claimsIn(s))
	}
}
