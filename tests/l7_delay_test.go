package tests

import (
	"fmt"
	"math"
	"math/big"
	"math/rand"
	"slices"
	"strconv"
	"strings"
	"testing"

	"loop.example/g01316/impl"
)

// sendsIn reads sends such as "0>1@0;0>2@1" without the package's help.
func sendsIn(s string) []impl.Send {
	var out []impl.Send
	for _, part := range strings.FieldsFunc(s, func(r rune) bool { return r == ';' }) {
		var send impl.Send
		if n, err := fmt.Sscanf(part, "%d>%d@%d", &send.From, &send.To, &send.At); n != 3 || err != nil {
			panic(s)
		}
		out = append(out, send)
	}
	return out
}

func writtenSends(list []impl.Send) string {
	parts := []string{}
	for _, s := range list {
		parts = append(parts, fmt.Sprintf("%d>%d@%d", s.From, s.To, s.At))
	}
	return strings.Join(parts, ";")
}

var wrongDelays = []int{math.MinInt, -10, -1, 0, 11, 12, 60, 64, math.MaxInt}

var wrongPeople = []int{math.MinInt, -40, -1, 0, 41, 42, 60, 64, 1000000, math.MaxInt}

var wrongMinutes = []int{math.MinInt, -60, -2, -1, 61, 62, 64, 1 << 32, math.MaxInt}

var wrongInformed = []int{math.MinInt, -1000000, -1, 0, 1000001, 1000002, 1 << 40, math.MaxInt}

var keptInformed = map[[2]int]int{}

// informedByFormula counts the people who know the news at a minute by the chains of k sends that bring them: the
// minutes at which these are made leave as many choices as there are of k out of the minutes that are left.
func informedByFormula(delay int, minute int) int {
	kept := [2]int{delay, minute}
	if n, ok := keptInformed[kept]; ok {
		return n
	}
	sum := 0
	for k := 0; k*delay <= minute; k++ {
		sum += int(new(big.Int).Binomial(int64(minute-(delay-1)*k), int64(k)).Int64())
	}
	keptInformed[kept] = sum
	return sum
}

// minutesByFormula returns the least minute at which so many know the news.
func minutesByFormula(delay int, people int) int {
	minute := 0
	for informedByFormula(delay, minute) < people {
		minute++
	}
	return minute
}

// informedByPeople follows each of the people who come to know the news, up to a minute.
func informedByPeople(delay int, minute int) int {
	since := []int{0}
	for m := range minute {
		for _, arrival := range since {
			if arrival <= m && m+delay <= minute {
				since = append(since, m+delay)
			}
		}
	}
	return len(since)
}

// delivery is what comes of a list of sends, found minute by minute.
type delivery struct {
	fine    bool
	arrived []int
	steps   []int
	all     bool
	last    int
	idle    int
}

func deliver(delay int, people int, list []impl.Send) delivery {
	d := delivery{fine: len(list) <= 40, arrived: slices.Repeat([]int{-1}, people), steps: make([]int, people)}
	d.arrived[0] = 0
	var under []impl.Send // those that are made, but have not arrived
	made := 0
	for minute := 0; minute <= 70; minute++ {
		for _, s := range under {
			if s.At+delay == minute {
				d.fine = d.fine && d.arrived[s.To] == -1
				d.arrived[s.To], d.steps[s.To] = minute, d.steps[s.From]+1
			}
		}
		busy := map[int]bool{}
		for _, s := range list {
			if s.At != minute || minute > 60 {
				continue
			}
			if s.From < 0 || s.From >= people || s.To < 0 || s.To >= people || s.From == s.To || d.arrived[s.From] == -1 || busy[s.From] {
				return delivery{}
			}
			busy[s.From] = true
			under = append(under, s)
			made++
		}
	}
	d.fine = d.fine && made == len(list)
	d.all = !slices.Contains(d.arrived, -1)
	d.last = slices.Max(d.arrived)
	d.idle = idleByModel(d, list)
	return d
}

func idleByModel(d delivery, list []impl.Send) int {
	idle := 0
	for minute := range d.last {
		for person, arrival := range d.arrived {
			sends := slices.ContainsFunc(list, func(s impl.Send) bool { return s.From == person && s.At == minute })
			if arrival != -1 && arrival <= minute && !sends {
				idle++
			}
		}
	}
	return idle
}

func orderedByModel(list []impl.Send) []impl.Send {
	var out []impl.Send
	for minute := range 61 {
		for person := range 40 {
			for _, s := range list {
				if s.At == minute && s.From == person {
					out = append(out, s)
				}
			}
		}
	}
	return out
}

func sentByModel(list []impl.Send, person int) []int {
	var out []int
	for _, s := range orderedByModel(list) {
		if s.From == person {
			out = append(out, s.To)
		}
	}
	return out
}

// checkDelivery holds all functions that take sends against what comes of these. It returns whether they are sends.
func checkDelivery(t *testing.T, delay int, people int, list []impl.Send) bool {
	t.Helper()
	what := fmt.Sprint(" ", delay, " ", people, " ", writtenSends(list))
	d := deliver(delay, people, list)
	are, ok := impl.AreSends(delay, people, list)
	expect(t, "AreSends"+what, are, ok, d.fine)
	if !d.fine {
		failForSends(t, delay, people, list)
		return false
	}
	arrived, ok := impl.ArrivalsOf(delay, people, list)
	expect(t, "ArrivalsOf"+what, arrived, ok, d.arrived)
	ordered, ok := impl.InOrder(delay, people, list)
	expect(t, "InOrder"+what, ordered, ok, orderedByModel(list))
	checkPersons(t, delay, people, list, d)
	last, lastOk := impl.LastArrival(delay, people, list)
	late, lateOk := impl.LateBy(delay, people, list)
	idle, idleOk := impl.IdleMinutes(delay, people, list)
	if !d.all {
		expectFail(t, "LastArrival"+what, last, lastOk)
		expectFail(t, "LateBy"+what, late, lateOk)
		expectFail(t, "IdleMinutes"+what, idle, idleOk)
		return true
	}
	expect(t, "LastArrival"+what, last, lastOk, d.last)
	expect(t, "LateBy"+what, late, lateOk, d.last-minutesByFormula(delay, people))
	expect(t, "IdleMinutes"+what, idle, idleOk, d.idle)
	return true
}

// checkPersons checks what is told of one person, of persons that there are and of those that there are not.
func checkPersons(t *testing.T, delay int, people int, list []impl.Send, d delivery) {
	t.Helper()
	what := fmt.Sprint(" ", delay, " ", people, " ", writtenSends(list), " of ")
	for _, person := range []int{-1, people, people + 1, 40, 64, math.MinInt, math.MaxInt} {
		sentTo, ok := impl.SentBy(delay, people, list, person)
		expectFail(t, fmt.Sprint("SentBy", what, person), sentTo, ok)
		steps, ok := impl.StepsTo(delay, people, list, person)
		expectFail(t, fmt.Sprint("StepsTo", what, person), steps, ok)
	}
	for person := range people {
		sentTo, ok := impl.SentBy(delay, people, list, person)
		expect(t, fmt.Sprint("SentBy", what, person), sentTo, ok, sentByModel(list, person))
		steps, ok := impl.StepsTo(delay, people, list, person)
		if d.arrived[person] == -1 {
			expectFail(t, fmt.Sprint("StepsTo", what, person), steps, ok)
		} else {
			expect(t, fmt.Sprint("StepsTo", what, person), steps, ok, d.steps[person])
		}
	}
}

// failForSends checks that all functions that require sends fail.
func failForSends(t *testing.T, delay int, people int, list []impl.Send) {
	t.Helper()
	what := fmt.Sprint(" ", delay, " ", people, " ", writtenSends(list))
	arrived, ok := impl.ArrivalsOf(delay, people, list)
	expectFail(t, "ArrivalsOf"+what, arrived, ok)
	last, ok := impl.LastArrival(delay, people, list)
	expectFail(t, "LastArrival"+what, last, ok)
	late, ok := impl.LateBy(delay, people, list)
	expectFail(t, "LateBy"+what, late, ok)
	idle, ok := impl.IdleMinutes(delay, people, list)
	expectFail(t, "IdleMinutes"+what, idle, ok)
	ordered, ok := impl.InOrder(delay, people, list)
	expectFail(t, "InOrder"+what, ordered, ok)
	for _, person := range []int{0, 1} {
		sentTo, ok := impl.SentBy(delay, people, list, person)
		expectFail(t, "SentBy"+what, sentTo, ok)
		steps, ok := impl.StepsTo(delay, people, list, person)
		expectFail(t, "StepsTo"+what, steps, ok)
	}
}

// sendCase are sends of so many people with a delay.
type sendCase struct {
	delay  int
	people int
	sends  []impl.Send
}

func (c sendCase) String() string {
	return fmt.Sprint(c.delay, " ", c.people, " ", writtenSends(c.sends))
}

// randomSends returns sends by which at most so many people come to know the news, in any order, each made at most
// wait minutes behind the first one at which it could be.
func randomSends(r *rand.Rand, delay int, people int, most int, wait int) []impl.Send {
	var out []impl.Send
	known := map[int]int{0: 0}
	busy := map[[2]int]bool{}
	names := r.Perm(people - 1)
	for _, name := range names[:min(most, people)-1] {
		from, at := 0, 0
		for try := 0; try == 0 || busy[[2]int{from, at}]; try++ {
			from = 0
			if len(out) > 0 && r.Intn(4) > 0 {
				from = out[r.Intn(len(out))].To
			}
			at = known[from] + r.Intn(wait+1+try)
		}
		if at > 60 {
			continue
		}
		busy[[2]int{from, at}] = true
		known[name+1] = at + delay
		out = append(out, impl.Send{From: from, To: name + 1, At: at})
	}
	r.Shuffle(len(out), func(i, j int) { out[i], out[j] = out[j], out[i] })
	return out
}

// sendSample returns sends of all delays and of all numbers of people, some of which leave some people out.
func sendSample() []sendCase {
	var out []sendCase
	r := rand.New(rand.NewSource(33))
	for delay := 1; delay <= impl.MaxDelay; delay++ {
		for people := 1; people <= impl.MaxPeople; people++ {
			out = append(out, sendCase{delay, people, nil})
			for _, wait := range []int{0, 3} {
				out = append(out, sendCase{delay, people, randomSends(r, delay, people, people, wait)})
			}
			out = append(out, sendCase{delay, people, randomSends(r, delay, people, 1+r.Intn(people), 8)})
		}
	}
	return out
}

// Promise 7: the document's examples.
func TestDelayExamples(t *testing.T) {
	for minute, want := range []int{1, 1, 2, 3, 5, 8} {
		n, ok := impl.InformedAt(2, minute)
		expect(t, fmt.Sprint("InformedAt 2, ", minute), n, ok, want)
	}
	least, ok := impl.MinutesFor(2, 4)
	expect(t, "MinutesFor 2, 4", least, ok, 4)
	quick, ok := impl.QuickSends(2, 4)
	expect(t, "QuickSends 2, 4", quick, ok, []impl.Send{{From: 0, To: 1, At: 0}, {From: 0, To: 2, At: 1}, {From: 0, To: 3, At: 2}})
	text, ok := impl.SendsText(quick)
	expect(t, "SendsText", text, ok, "0>1@0;0>2@1;0>3@2")
	arrived, ok := impl.ArrivalsOf(2, 4, quick)
	expect(t, "ArrivalsOf", arrived, ok, []int{0, 2, 3, 4})
	line := sendsIn("0>1@0;1>2@2;2>3@4")
	late, ok := impl.LateBy(2, 4, line)
	expect(t, "LateBy", late, ok, 2)
	steps, ok := impl.StepsTo(2, 4, line, 3)
	expect(t, "StepsTo", steps, ok, 3)
	delay, ok := impl.GreatestDelay(4, 4)
	expect(t, "GreatestDelay 4, 4", delay, ok, 2)
}

// Promise 7: at each minute as many know the news as the chains of sends can have reached.
func TestInformedAt(t *testing.T) {
	for delay := 1; delay <= impl.MaxDelay; delay++ {
		before := 0
		for minute := range impl.MaxMinutes + 1 {
			want := informedByFormula(delay, minute)
			what := fmt.Sprint(" ", delay, ", ", minute)
			n, ok := impl.InformedAt(delay, minute)
			expect(t, "InformedAt"+what, n, ok, want)
			n, ok = impl.NewAt(delay, minute)
			expect(t, "NewAt"+what, n, ok, want-before)
			if want < 2000 && informedByPeople(delay, minute) != want {
				t.Errorf("InformedAt%s: %d people are followed", what, informedByPeople(delay, minute))
			}
			before = want
		}
	}
	for _, c := range []struct{ delay, minute, informed, new int }{{1, 0, 1, 1}, {1, 1, 2, 1}, {1, 60, 1 << 60, 1 << 59}, {10, 0, 1, 1}, {10, 9, 1, 0}, {10, 10, 2, 1}, {10, 19, 11, 1}, {10, 20, 13, 2}, {3, 2, 1, 0}, {3, 6, 6, 2}} {
		n, ok := impl.InformedAt(c.delay, c.minute)
		expect(t, fmt.Sprint("InformedAt ", c), n, ok, c.informed)
		n, ok = impl.NewAt(c.delay, c.minute)
		expect(t, fmt.Sprint("NewAt ", c), n, ok, c.new)
	}
}

// Promise 7: there are no delays but 1..MaxDelay, and no minutes but 0..MaxMinutes.
func TestWrongMinutes(t *testing.T) {
	fails := func(delay int, minute int) {
		t.Helper()
		n, ok := impl.InformedAt(delay, minute)
		expectFail(t, fmt.Sprint("InformedAt ", delay, ", ", minute), n, ok)
		n, ok = impl.NewAt(delay, minute)
		expectFail(t, fmt.Sprint("NewAt ", delay, ", ", minute), n, ok)
	}
	for _, delay := range wrongDelays {
		for _, minute := range []int{0, 1, 5, 60, -1, 61} {
			fails(delay, minute)
		}
		for _, people := range []int{1, 2, 40, 1000000} {
			n, ok := impl.MinutesFor(delay, people)
			expectFail(t, fmt.Sprint("MinutesFor ", delay, ", ", people), n, ok)
		}
	}
	for _, minute := range wrongMinutes {
		for _, delay := range []int{1, 2, 10} {
			fails(delay, minute)
		}
		for _, people := range []int{1, 2, 40, 1000000} {
			n, ok := impl.GreatestDelay(people, minute)
			expectFail(t, fmt.Sprint("GreatestDelay ", people, ", ", minute), n, ok)
		}
	}
	for _, people := range wrongInformed {
		for _, n := range []int{1, 2, 10} {
			least, ok := impl.MinutesFor(n, people)
			expectFail(t, fmt.Sprint("MinutesFor ", n, ", ", people), least, ok)
			greatest, ok := impl.GreatestDelay(people, n)
			expectFail(t, fmt.Sprint("GreatestDelay ", people, ", ", n), greatest, ok)
		}
		greatest, ok := impl.GreatestDelay(people, 60)
		expectFail(t, fmt.Sprint("GreatestDelay ", people, ", 60"), greatest, ok)
	}
}

// crowds returns numbers of people: the least ones, and those that are just reached at a minute, or just not.
func crowds() []int {
	out := []int{999999, 1000000}
	for people := 1; people <= 60; people++ {
		out = append(out, people)
	}
	for delay := 1; delay <= 10; delay++ {
		for minute := range 61 {
			if n := informedByFormula(delay, minute); n > 60 && n < 1000000 {
				out = append(out, n-1, n, n+1)
			}
		}
	}
	slices.Sort(out)
	return slices.Compact(out)
}

// Promise 7: the least minute at which so many know the news may be later than MaxMinutes.
func TestMinutesFor(t *testing.T) {
	for _, people := range crowds() {
		for delay := 1; delay <= impl.MaxDelay; delay++ {
			least, ok := impl.MinutesFor(delay, people)
			expect(t, fmt.Sprint("MinutesFor ", delay, ", ", people), least, ok, minutesByFormula(delay, people))
		}
	}
	for _, c := range []struct{ delay, people, want int }{{1, 1, 0}, {10, 1, 0}, {1, 2, 1}, {10, 2, 10}, {1, 1000000, 20}, {1, 524288, 19}, {1, 524289, 20}, {2, 8, 5}, {2, 9, 6}, {2, 5, 4}, {10, 11, 19}, {10, 12, 20}, {10, 13, 20}} {
		least, ok := impl.MinutesFor(c.delay, c.people)
		expect(t, fmt.Sprint("MinutesFor ", c), least, ok, c.want)
	}
	if least, _ := impl.MinutesFor(10, 1000000); least <= impl.MaxMinutes {
		t.Errorf("MinutesFor 10, 1000000: %d", least)
	}
}

// Promise 7: with the greatest delay so many know the news at the minute, and with no greater one.
func TestGreatestDelay(t *testing.T) {
	for _, people := range crowds() {
		for minute := range impl.MaxMinutes + 1 {
			want := 0
			for delay := 1; delay <= 10; delay++ {
				if informedByFormula(delay, minute) >= people {
					want = delay
				}
			}
			what := fmt.Sprint("GreatestDelay ", people, ", ", minute)
			got, ok := impl.GreatestDelay(people, minute)
			if want == 0 {
				expectFail(t, what, got, ok)
			} else {
				expect(t, what, got, ok, want)
			}
		}
	}
	for _, c := range []struct{ people, minute, want int }{{1, 0, 10}, {1, 60, 10}, {2, 1, 1}, {2, 9, 9}, {2, 10, 10}, {2, 60, 10}, {4, 4, 2}, {5, 4, 2}, {6, 4, 1}, {1000000, 20, 1}} {
		got, ok := impl.GreatestDelay(c.people, c.minute)
		expect(t, fmt.Sprint("GreatestDelay ", c), got, ok, c.want)
	}
	for _, c := range [][2]int{{2, 0}, {40, 0}, {3, 1}, {1000000, 19}, {524289, 19}, {17, 4}} {
		got, ok := impl.GreatestDelay(c[0], c[1])
		expectFail(t, fmt.Sprint("GreatestDelay ", c), got, ok)
	}
}

// Promise 7: all lists of at most two sends of few people, many of which are none.
func TestSmallSends(t *testing.T) {
	var all []impl.Send
	for from := -1; from <= 3; from++ {
		for to := -1; to <= 3; to++ {
			for at := -1; at <= 3; at++ {
				all = append(all, impl.Send{From: from, To: to, At: at})
			}
		}
	}
	for delay := 1; delay <= 3; delay++ {
		for people := 1; people <= 3; people++ {
			checkDelivery(t, delay, people, nil)
			for _, x := range all {
				checkDelivery(t, delay, people, []impl.Send{x})
				for _, y := range all {
					list := []impl.Send{x, y}
					are, ok := impl.AreSends(delay, people, list)
					if want := deliver(delay, people, list).fine; want {
						checkDelivery(t, delay, people, list)
					} else if are || !ok {
						t.Errorf("AreSends %d, %d, %v: %v, %v", delay, people, list, are, ok)
					}
				}
			}
		}
	}
}

// Promise 7: sends of many people, in any order, and the same with something changed, so that many are none.
func TestSends(t *testing.T) {
	r := rand.New(rand.NewSource(34))
	whole, none := 0, 0
	for _, c := range sendSample() {
		if !checkDelivery(t, c.delay, c.people, c.sends) {
			t.Fatalf("%v are no sends", c)
		}
		if deliver(c.delay, c.people, c.sends).all {
			whole++
		}
		for range 4 {
			changed := changedSends(r, c)
			if !checkDelivery(t, c.delay, c.people, changed) {
				none++
			}
		}
	}
	if whole < 400 || none < 2000 {
		t.Errorf("only %d send to all, and only %d are none", whole, none)
	}
}

// changedSends returns a copy with a number changed, a send more, one taken away or one told again.
func changedSends(r *rand.Rand, c sendCase) []impl.Send {
	list := slices.Clone(c.sends)
	extra := impl.Send{From: r.Intn(c.people), To: r.Intn(c.people), At: r.Intn(61)}
	if len(list) == 0 {
		return []impl.Send{extra}
	}
	k := r.Intn(len(list))
	other := list[r.Intn(len(list))]
	switch r.Intn(8) {
	case 0:
		list[k].At = extremes[r.Intn(len(extremes))]
	case 1:
		list[k].From = extremes[r.Intn(len(extremes))]
	case 2:
		list[k].To = extremes[r.Intn(len(extremes))]
	case 3:
		list[k].At--
	case 4:
		list[k].From, list[k].At = other.From, other.At
	case 5:
		list[k].To = other.To
	case 6:
		return slices.Insert(list, k, extra)
	default:
		return slices.Delete(list, k, k+1)
	}
	return list
}

// Promise 7: what makes a list no sends, one thing in each of them.
func TestWrongSends(t *testing.T) {
	for _, s := range []string{
		"1>2@0", "0>1@0;1>2@1", "1>2@1;0>1@0", "0>1@0;1>2@2;2>3@3", // before the news are known
		"1>2@60", "0>1@0;2>3@60", "2>3@5;3>2@10", "1>2@10;2>1@20", "0>1@0;2>3@2;3>2@4", // by one who never knows them
		"0>0@0", "0>1@0;1>1@2", "0>1@0;1>1@5", "1>1@2", // to oneself
		"0>1@0;1>0@2", "0>1@0;1>0@60", // to the person 0
		"4>1@0", "0>4@0", "-1>1@0", "0>-1@0", "0>1@0;0>4@1", "0>1@0;4>2@5", "40>1@0", "0>40@0", "64>1@0", "0>64@0", // people that there are not
		"0>1@-1", "0>1@61", "0>1@0;0>2@61", "0>1@0;1>2@-2", "0>1@60;1>2@62", // minutes that there are not
		"0>1@0;0>2@0", "0>1@5;0>2@5", "0>1@0;1>2@2;1>3@2", "0>1@0;0>2@1;1>3@2;0>3@2", // twice at one minute, or twice to one person
		"0>1@0;0>1@1", "0>1@0;0>1@0", "0>1@0;0>2@1;1>3@2;2>3@3", "0>2@0;0>1@1;2>1@2", "0>1@0;0>2@1;0>3@2;1>3@2",
	} {
		list := sendsIn(s)
		if checkDelivery(t, 2, 4, list) {
			t.Errorf("%s are sends", s)
		}
		slices.Reverse(list)
		checkDelivery(t, 2, 4, list)
	}
	for _, n := range []int{math.MinInt, math.MinInt + 1, math.MaxInt - 1, math.MaxInt, math.MaxInt - 9, 1 << 32, -1 << 32} {
		for _, s := range []impl.Send{{From: n, To: 1, At: 0}, {From: 0, To: n, At: 0}, {From: 0, To: 1, At: n}, {From: n, To: n, At: n}} {
			for _, delay := range []int{1, 10} {
				checkDelivery(t, delay, 4, []impl.Send{s})
				checkDelivery(t, delay, 40, []impl.Send{{From: 0, To: 2, At: 3}, s})
			}
		}
	}
}

// Promise 7: news may be sent on from the very minute on at which they arrive, and may arrive later than MaxMinutes.
func TestSendsJustInTime(t *testing.T) {
	for delay := 1; delay <= impl.MaxDelay; delay++ {
		first := impl.Send{From: 0, To: 1, At: 3}
		for at := range 20 {
			list := []impl.Send{{From: 1, To: 2, At: at}, first}
			if got := checkDelivery(t, delay, 3, list); got != (at >= 3+delay) {
				t.Errorf("%d, %s: %v", delay, writtenSends(list), got)
			}
		}
		late := []impl.Send{{From: 0, To: 1, At: 60}}
		last, ok := impl.LastArrival(delay, 2, late)
		expect(t, fmt.Sprint("LastArrival ", delay, " 0>1@60"), last, ok, 60+delay)
		arrived, ok := impl.ArrivalsOf(delay, 2, late)
		expect(t, fmt.Sprint("ArrivalsOf ", delay, " 0>1@60"), arrived, ok, []int{0, 60 + delay})
		idle, ok := impl.IdleMinutes(delay, 2, late)
		expect(t, fmt.Sprint("IdleMinutes ", delay, " 0>1@60"), idle, ok, 59+delay)
		by, ok := impl.LateBy(delay, 2, late)
		expect(t, fmt.Sprint("LateBy ", delay, " 0>1@60"), by, ok, 60)
	}
}

// Promise 7: nobody need send; one person alone knows the news at once, others never do then.
func TestNobodySends(t *testing.T) {
	for delay := 1; delay <= impl.MaxDelay; delay++ {
		for people := 1; people <= impl.MaxPeople; people++ {
			for _, list := range [][]impl.Send{nil, {}} {
				if !checkDelivery(t, delay, people, list) {
					t.Errorf("no sends are none, %d, %d", delay, people)
				}
			}
		}
		last, ok := impl.LastArrival(delay, 1, nil)
		expect(t, "LastArrival of one", last, ok, 0)
		late, ok := impl.LateBy(delay, 1, nil)
		expect(t, "LateBy of one", late, ok, 0)
		idle, ok := impl.IdleMinutes(delay, 1, nil)
		expect(t, "IdleMinutes of one", idle, ok, 0)
		steps, ok := impl.StepsTo(delay, 1, nil, 0)
		expect(t, "StepsTo of one", steps, ok, 0)
		arrived, ok := impl.ArrivalsOf(delay, 3, nil)
		expect(t, "ArrivalsOf none", arrived, ok, []int{0, -1, -1})
		last, ok = impl.LastArrival(delay, 2, nil)
		expectFail(t, "LastArrival of two", last, ok)
		for _, s := range []string{"0>0@0", "0>1@0", "1>0@0"} {
			if checkDelivery(t, delay, 1, sendsIn(s)) {
				t.Errorf("%s are sends of one", s)
			}
		}
	}
}

// Promise 7: too many sends are none, which AreSends tells, while delays and numbers of people that there are not make it fail.
func TestWrongSendNumbers(t *testing.T) {
	lists := [][]impl.Send{nil, {}, sendsIn("0>1@0"), sendsIn("0>1@0;0>2@1;0>3@2"), sendsIn("0>1@-1"), make([]impl.Send, 41)}
	fails := func(delay int, people int) {
		t.Helper()
		for _, list := range lists {
			are, ok := impl.AreSends(delay, people, list)
			expectFail(t, fmt.Sprint("AreSends ", delay, ", ", people), are, ok)
			failForSends(t, delay, people, list)
		}
		quick, ok := impl.QuickSends(delay, people)
		expectFail(t, fmt.Sprint("QuickSends ", delay, ", ", people), quick, ok)
	}
	for _, delay := range wrongDelays {
		for _, people := range []int{1, 2, 4, 40, 0, 41} {
			fails(delay, people)
		}
	}
	for _, people := range wrongPeople {
		for _, delay := range []int{1, 2, 10, 0, 11} {
			fails(delay, people)
		}
	}
	var star []impl.Send
	for to := 1; to < 40; to++ {
		star = append(star, impl.Send{From: 0, To: to, At: to})
	}
	if !checkDelivery(t, 3, 40, star) {
		t.Error("39 sends are none")
	}
	for _, more := range []int{1, 2, 100, 10000} {
		if checkDelivery(t, 3, 40, append(slices.Clone(star), slices.Repeat([]impl.Send{{From: 0, To: 1, At: 50}}, more)...)) {
			t.Errorf("%d sends are sends", 39+more)
		}
	}
}

// Promise 7: known arrivals, steps and idle minutes.
func TestKnownSends(t *testing.T) {
	for _, c := range []struct {
		delay   int
		people  int
		sends   string
		arrived []int
		steps   []int
		idle    int
		late    int
	}{
		{2, 4, "0>1@0;0>2@1;0>3@2", []int{0, 2, 3, 4}, []int{0, 1, 1, 1}, 4, 0},
		{2, 4, "0>1@0;1>2@2;2>3@4", []int{0, 2, 4, 6}, []int{0, 1, 2, 3}, 9, 2},
		{2, 4, "2>3@4;1>2@2;0>1@0", []int{0, 2, 4, 6}, []int{0, 1, 2, 3}, 9, 2},
		{1, 4, "0>2@0;2>1@1;0>3@1", []int{0, 2, 1, 2}, []int{0, 2, 1, 1}, 0, 0},
		{1, 2, "0>1@0", []int{0, 1}, []int{0, 1}, 0, 0},
		{10, 3, "0>2@5;2>1@60", []int{0, 70, 15}, []int{0, 2, 1}, 123, 59},
	} {
		list := sendsIn(c.sends)
		what := fmt.Sprint(" ", c)
		arrived, ok := impl.ArrivalsOf(c.delay, c.people, list)
		expect(t, "ArrivalsOf"+what, arrived, ok, c.arrived)
		for person, want := range c.steps {
			steps, ok := impl.StepsTo(c.delay, c.people, list, person)
			expect(t, fmt.Sprint("StepsTo", what, " ", person), steps, ok, want)
		}
		last, ok := impl.LastArrival(c.delay, c.people, list)
		expect(t, "LastArrival"+what, last, ok, slices.Max(c.arrived))
		idle, ok := impl.IdleMinutes(c.delay, c.people, list)
		expect(t, "IdleMinutes"+what, idle, ok, c.idle)
		late, ok := impl.LateBy(c.delay, c.people, list)
		expect(t, "LateBy"+what, late, ok, c.late)
	}
	list := sendsIn("0>4@7;4>2@9;0>1@9;4>3@10;0>5@8")
	ordered, ok := impl.InOrder(2, 6, list)
	expect(t, "InOrder", ordered, ok, sendsIn("0>4@7;0>5@8;0>1@9;4>2@9;4>3@10"))
	for person, want := range [][]int{{4, 5, 1}, nil, nil, nil, {2, 3}, nil} {
		sentTo, ok := impl.SentBy(2, 6, list, person)
		expect(t, fmt.Sprint("SentBy ", person), sentTo, ok, want)
	}
	arrived, ok := impl.ArrivalsOf(2, 7, list)
	expect(t, "ArrivalsOf all but one", arrived, ok, []int{0, 11, 11, 12, 9, 10, -1})
	last, ok := impl.LastArrival(2, 7, list)
	expectFail(t, "LastArrival at all but one", last, ok)
	steps, ok := impl.StepsTo(2, 7, list, 6)
	expectFail(t, "StepsTo who never gets them", steps, ok)
}

// quickByModel returns the sends of everybody who knows the news, minute by minute.
func quickByModel(delay int, people int) []impl.Send {
	var out []impl.Send
	for minute := 0; len(out) < people-1; minute++ {
		for person := range people {
			knows := person == 0
			sentTo := map[int]bool{0: true}
			for _, s := range out {
				knows = knows || s.To == person && s.At+delay <= minute
				sentTo[s.To] = true
			}
			least := 0
			for sentTo[least] {
				least++
			}
			if knows && least < people {
				out = append(out, impl.Send{From: person, To: least, At: minute})
			}
		}
	}
	return out
}

// Promise 7: quick sends reach all at MinutesFor.
func TestQuickSends(t *testing.T) {
	for delay := 1; delay <= impl.MaxDelay; delay++ {
		for people := 1; people <= impl.MaxPeople; people++ {
			what := fmt.Sprint(" of QuickSends ", delay, ", ", people)
			quick, ok := impl.QuickSends(delay, people)
			expect(t, what[4:], quick, ok, quickByModel(delay, people))
			if !checkDelivery(t, delay, people, quick) {
				t.Errorf("QuickSends %d, %d are no sends", delay, people)
			}
			last, ok := impl.LastArrival(delay, people, quick)
			expect(t, "LastArrival"+what, last, ok, minutesByFormula(delay, people))
			late, ok := impl.LateBy(delay, people, quick)
			expect(t, "LateBy"+what, late, ok, 0)
			arrived, _ := impl.ArrivalsOf(delay, people, quick)
			for minute := range last + 1 {
				n := 0
				for _, arrival := range arrived {
					if arrival <= minute {
						n++
					}
				}
				if want := min(people, informedByFormula(delay, minute)); n != want {
					t.Errorf("%d know%s at %d, want %d", n, what, minute, want)
				}
			}
		}
	}
	for s, c := range map[string][2]int{"": {1, 1}, "0>1@0": {10, 2}, "0>1@0;0>2@1;1>3@1": {1, 4}, "0>1@0;0>2@1;1>3@1;0>4@2": {1, 5}, "0>1@0;0>2@1;0>3@2;1>4@2;0>5@3": {2, 6}} {
		quick, ok := impl.QuickSends(c[0], c[1])
		expect(t, fmt.Sprint("QuickSends ", c), quick, ok, sendsIn(s))
	}
}

// earliest returns for each number of the people from 1 on the least minute at which so many can know the news, and
// checks all sends by which all of them do at a minute.
func earliest(t *testing.T, delay int, people int, end int) []int {
	least := slices.Repeat([]int{math.MaxInt}, people)
	var choose func(list []impl.Send)
	choose = func(list []impl.Send) {
		if to := len(list) + 1; to < people {
			for from := range people {
				for at := range end {
					choose(append(list, impl.Send{From: from, To: to, At: at}))
				}
			}
			return
		}
		d := deliver(delay, people, list)
		are, ok := impl.AreSends(delay, people, list)
		if are != d.fine || !ok {
			t.Errorf("AreSends %d, %d, %v: %v, %v", delay, people, list, are, ok)
		}
		if d.fine {
			slices.Sort(d.arrived)
			for i, minute := range d.arrived {
				least[i] = min(least[i], minute)
			}
			if late, ok := impl.LateBy(delay, people, list); late < 0 || !ok {
				t.Errorf("LateBy %d, %d, %v: %d, %v", delay, people, list, late, ok)
			}
		}
	}
	choose(nil)
	return least
}

// Promise 7: no sends are earlier than MinutesFor tells, of up to 4 people.
func TestMinutesForIsLeast(t *testing.T) {
	for delay := 1; delay <= 4; delay++ {
		for people := 1; people <= 4; people++ {
			for i, want := range earliest(t, delay, people, delay+3) {
				least, ok := impl.MinutesFor(delay, i+1)
				expect(t, fmt.Sprint("MinutesFor ", delay, ", ", i+1), least, ok, want)
			}
		}
	}
}

// Promise 7: texts of sends tell any numbers in 0..MaxMinutes, and are read again.
func TestSendsText(t *testing.T) {
	r := rand.New(rand.NewSource(35))
	var lists [][]impl.Send
	for _, c := range sendSample() {
		lists = append(lists, c.sends)
	}
	for n := range impl.MaxPeople + 1 {
		list := make([]impl.Send, n)
		for k := range list {
			list[k] = impl.Send{From: r.Intn(61), To: r.Intn(61), At: r.Intn(61)}
		}
		lists = append(lists, list)
	}
	for n := range impl.MaxMinutes + 1 {
		lists = append(lists, []impl.Send{{From: n, To: 0, At: 0}, {From: 0, To: n, At: 0}, {From: 0, To: 0, At: n}})
	}
	for _, list := range lists {
		want := writtenSends(list)
		s, ok := impl.SendsText(list)
		expect(t, "SendsText "+want, s, ok, want)
		got, ok := impl.ParseSends(want)
		expect(t, "ParseSends "+want, got, ok, list)
	}
	for s, want := range map[string][]impl.Send{"": nil, "0>0@0": {{}}, "60>59@58": {{From: 60, To: 59, At: 58}}, "3>0@7;3>0@7": {{From: 3, To: 0, At: 7}, {From: 3, To: 0, At: 7}}, "0>1@0;0>2@1;0>3@2": {{From: 0, To: 1, At: 0}, {From: 0, To: 2, At: 1}, {From: 0, To: 3, At: 2}}} {
		got, ok := impl.ParseSends(s)
		expect(t, fmt.Sprintf("ParseSends %q", s), got, ok, want)
		text, ok := impl.SendsText(want)
		expect(t, fmt.Sprint("SendsText ", want), text, ok, s)
	}
}

// Promise 7: lists that have no text, for their numbers or for how many they are.
func TestSendsWithoutText(t *testing.T) {
	for _, n := range wrongMinutes {
		for _, s := range []impl.Send{{From: n}, {To: n}, {At: n}} {
			for _, list := range [][]impl.Send{{s}, {s, {}}, {{}, s}, {{From: 0, To: 1, At: 0}, {From: 0, To: 2, At: 1}, s}} {
				text, ok := impl.SendsText(list)
				expectFail(t, fmt.Sprint("SendsText ", list), text, ok)
			}
		}
	}
	forty, ok := impl.SendsText(make([]impl.Send, 40))
	expect(t, "SendsText of 40", forty, ok, strings.Repeat("0>0@0;", 40)[:239])
	for _, n := range []int{41, 42, 1000, 100000} {
		text, ok := impl.SendsText(make([]impl.Send, n))
		expectFail(t, fmt.Sprint("SendsText of ", n), text, ok)
	}
}

// Promise 7: texts that are none of sends.
func TestWrongSendsTexts(t *testing.T) {
	forty := strings.Repeat("0>1@2;", 40)
	got, ok := impl.ParseSends(forty[:239])
	expect(t, "ParseSends of 40", got, ok, slices.Repeat([]impl.Send{{From: 0, To: 1, At: 2}}, 40))
	wrong := []string{forty, forty + "0>1@2", forty + ";", strings.Repeat("0>1@2;", 1000) + "0>1@2", strings.Repeat(";", 100000), strings.Repeat("0", 100000), strings.Repeat(">", 100000), strings.Repeat("@", 100000),
		";", "0>1@2;", ";0>1@2", "0>1@2;;0>1@2", " ", "\n", "0", "0>1", "0@1", "0>1@", "0>@1", ">0@1", ">@", "0>1@2@3", "0>1>2@3", "0>1@2>3", "0@1>2", "@0>1", "0>>1@2", "0>1@@2", "01@2", "0>12", "0-1@2", "0>1-2", "0>1:2",
		"0>1@2,0>2@3", "0>1@2-0>2@3", "0>1@2 ;0>2@3", "0>1@2; 0>2@3", "0>1@2\n;0>2@3", "0>1@2\x00", "0>1@2;0>2", "0>1@2;3", "0>1@2;a", "a>1@2", "0>b@2", "0>1@c"}
	for _, n := range []string{"", "+1", "-1", "-0", "+0", "00", "01", "007", "010", "060", " 1", "1 ", "1\n", "\t1", "61", "62", "99", "100", "600", "1_0", "1_", "0x1", "0b1", "0o1", "1.0", "1e0", "1,0", "1'0", "é", "１", "\xff", "\x00", "1\x00", "a", ":", "/", "9223372036854775807", "9223372036854775808", "18446744073709551617", "-9223372036854775808",
		"99999999999999999999999999", strconv.Itoa(1<<32 + 1)} {
		wrong = append(wrong, n+">1@2", "0>"+n+"@2", "0>1@"+n, "0>1@2;"+n+">2@3", "0>1@2;0>2@"+n+";0>3@4")
	}
	for _, s := range wrong {
		got, ok := impl.ParseSends(s)
		expectFail(t, fmt.Sprintf("ParseSends %.60q", s), got, ok)
	}
}
