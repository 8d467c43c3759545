package tests

import (
	"fmt"
	"math"
	"math/rand"
	"regexp"
	"slices"
	"strconv"
	"strings"
	"testing"

	"loop.example/g01316/impl"
)

func desk(friends int, list string) impl.Desk {
	return impl.Desk{Friends: friends, Calls: calls(list)}
}

func deskText(d impl.Desk) string { return fmt.Sprint(d.Friends, " friends, ", written(d.Calls)) }

func expectDesk(t *testing.T, what string, got impl.Desk, ok bool, want impl.Desk) {
	t.Helper()
	if !ok || got.Friends != want.Friends || !slices.Equal(got.Calls, want.Calls) {
		t.Errorf("%s: got %v, %v; want %v, true", what, got, ok, want)
	}
}

// Promise 10: the example of the document.
func TestConsoleExample(t *testing.T) {
	script := "known\nwho 0\nneed\ncall 3 2\ncount\nundo\nback\nfour\nneed\nrounds\ncalls 01-01\nidle\nextra\nfast 3\n" +
		"tell abb aba\npartner abb\npartner ab\ntime 2 4\nquick 2 4\nfriends 2\nshow\ncall 0 2\nfly\n"
	replies, ok := impl.RunScript(script)
	expect(t, "RunScript", replies, ok, []string{"0,1 0,1,2 0,1,2 3", "0,1,2", "no", "01-12-23", "13", "01-12", "12-01", "01-23-02-13",
		"4", "01-23/02-13", "01-01", "1", "0,1", "01/02/01", "yes", "aab", "no", "4", "0>1@0;0>2@1;0>3@2", "-", "-", "no", "what"})
	after, ok := impl.DeskAfter(script)
	expectDesk(t, "DeskAfter", after, ok, desk(2, ""))
	failed, ok := impl.FailedLines(script)
	expect(t, "FailedLines", failed, ok, []int{3, 17, 22, 23})
}

// Promise 10: the limits and the first desk are those of the document.
func TestConsoleLimits(t *testing.T) {
	if impl.MaxScript != 3000 || impl.MaxLines != 50 {
		t.Error("the limits are others:", impl.MaxScript, impl.MaxLines)
	}
	expectDesk(t, "FirstDesk", impl.FirstDesk(), true, desk(4, "01-12"))
}

// Promise 10: a desk has calls of its friends.
func TestIsDesk(t *testing.T) {
	for _, friends := range append(slices.Clone(extremes), 7, 8) {
		for _, list := range append(oddLists(), calls("01-12-23-34-45-56-67-78-89")) {
			d := impl.Desk{Friends: friends, Calls: list}
			if got := impl.IsDesk(d); got != isDeskByModel(d) {
				t.Errorf("IsDesk %v: got %v", d, got)
			}
		}
	}
}

func isDeskByModel(d impl.Desk) bool {
	if d.Friends < 1 || d.Friends > 10 || len(d.Calls) > 60 {
		return false
	}
	for _, c := range d.Calls {
		if c.A < 0 || c.A >= c.B || c.B >= d.Friends {
			return false
		}
	}
	return true
}

// lineCase is a line on a desk, with its reply and the calls behind it.
type lineCase struct {
	friends int
	calls   string
	line    string
	reply   string
	behind  string
}

func sixtyCalls(c string) string { return strings.Repeat(c+"-", 59) + c }

// effects are lines that change the calls, and nothing else.
func effects() []lineCase {
	full := sixtyCalls("01")
	return []lineCase{
		{4, "01-12", "calls 01", "01", "01"},
		{4, "01-12", "calls 23-02-13", "23-02-13", "23-02-13"},
		{4, "01-12", "calls ", "-", ""},
		{1, "", "calls ", "-", ""},
		{10, "", "calls 89-09", "89-09", "89-09"},
		{2, "01", "calls " + full, full, full},
		{4, "01-12", "call 0 3", "01-12-03", "01-12-03"},
		{4, "01-12", "call 3 0", "01-12-03", "01-12-03"},
		{2, "", "call 1 0", "01", "01"},
		{10, "", "call 9 8", "89", "89"},
		{2, full[3:], "call 0 1", full, full},
		{4, "01-12", "undo", "01", "01"},
		{4, "01", "undo", "-", ""},
		{4, full, "undo", full[3:], full[3:]},
		{4, "01-12-23", "back", "23-12-01", "23-12-01"},
		{4, "01", "back", "01", "01"},
		{4, "", "back", "-", ""},
		{2, full, "back", full, full},
		{4, "01-12", "four", "01-23-02-13", "01-23-02-13"},
		{5, "34", "four", "04-01-23-02-13-04", "04-01-23-02-13-04"},
		{10, "", "four", "04-05-06-07-08-09-01-23-02-13-04-05-06-07-08-09", "04-05-06-07-08-09-01-23-02-13-04-05-06-07-08-09"},
		{1, "", "table", "-", ""},
		{2, "", "table", "01", "01"},
		{3, "12", "table", "01-02-01", "01-02-01"},
		{4, "01-12", "table", "01-02-03-01-02", "01-02-03-01-02"},
	}
}

// questions are lines that change nothing.
func questions() []lineCase {
	full := sixtyCalls("01")
	manyRounds := full[:20*3-1]
	return []lineCase{
		{4, "01-12", "show", "01-12", ""},
		{4, "", "show", "-", ""},
		{2, full, "show", full, ""},
		{4, "01-12", "known", "0,1 0,1,2 0,1,2 3", ""},
		{1, "", "known", "0", ""},
		{3, "", "known", "0 1 2", ""},
		{4, "01-12", "who 0", "0,1,2", ""},
		{4, "01-12", "who 2", "1,2", ""},
		{4, "01-12", "who 3", "3", ""},
		{10, "89", "who 9", "8,9", ""},
		{4, "01-12", "count", "9", ""},
		{1, "", "count", "1", ""},
		{4, "01-23-02-13-01", "need", "4", ""},
		{2, "01-01", "need", "1", ""},
		{1, "", "need", "0", ""},
		{3, "01-01-12-12", "idle", "1,3", ""},
		{4, "01-12", "idle", "-", ""},
		{4, "", "idle", "-", ""},
		{3, "01-01-12", "extra", "0,1", ""},
		{4, "01-12", "extra", "-", ""},
		{4, "", "extra", "-", ""},
		{1, "", "few", "0", ""},
		{2, "", "few", "1", ""},
		{3, "", "few", "3", ""},
		{4, "01-12", "few", "4", ""},
		{10, "", "few", "16", ""},
		{4, "01-12", "rounds", "01/12", ""},
		{4, "23-01", "rounds", "01-23", ""},
		{4, "", "rounds", ".", ""},
		{2, manyRounds, "rounds", strings.ReplaceAll(manyRounds, "-", "/"), ""},
		{4, "01-12", "fast 1", ".", ""},
		{1, "", "fast 2", "01", ""},
		{1, "", "fast 3", "01/02/01", ""},
		{4, "", "fast 4", "01-23/02-13", ""},
		{4, "", "fast 5", "01/02-34/01-23/02-14", ""},
		{4, "", "tell abb aba", "yes", ""},
		{4, "", "tell aab aab", "nay", ""},
		{4, "", "tell a a", "yes", ""},
		{4, "", "tell ab aa", "nay", ""},
		{4, "", "tell abcdefghijkl aaaaaaaaaaaa", "nay", ""},
		{4, "", "tell abbcccdddd abacbadcba", "yes", ""},
		{4, "", "partner abb", "aab", ""},
		{4, "", "partner a", "a", ""},
		{4, "", "time 2 4", "4", ""},
		{4, "", "time 1 1", "0", ""},
		{4, "", "time 10 2", "10", ""},
		{4, "", "time 1 999999", "20", ""},
		{4, "", "quick 2 4", "0>1@0;0>2@1;0>3@2", ""},
		{4, "", "quick 1 1", "-", ""},
		{4, "", "quick 10 2", "0>1@0", ""},
	}
}

// Promise 10: lines do what the document tells.
func TestLines(t *testing.T) {
	for _, c := range effects() {
		checkLine(t, desk(c.friends, c.calls), c.line, c.reply, desk(c.friends, c.behind))
	}
	for _, c := range questions() {
		d := desk(c.friends, c.calls)
		checkLine(t, d, c.line, c.reply, d)
	}
	for friends := 1; friends <= impl.MaxFriends; friends++ {
		checkLine(t, desk(4, "01-12"), fmt.Sprint("friends ", friends), "-", desk(friends, ""))
		checkLine(t, desk(friends, ""), "friends 4", "-", desk(4, ""))
	}
}

func checkLine(t *testing.T, d impl.Desk, line string, reply string, behind impl.Desk) {
	t.Helper()
	got, said, ok := impl.DeskLine(d, line)
	what := fmt.Sprintf("%q on %s", line, deskText(d))
	expect(t, what, said, ok, reply)
	expectDesk(t, what, got, ok, behind)
}

// Promise 10: the reply to a line that cannot be done is no, and it changes nothing.
func TestLinesThatCannotBeDone(t *testing.T) {
	full := sixtyCalls("01")
	for _, c := range []lineCase{
		{friends: 4, calls: "01-12", line: "friends 0"},
		{friends: 4, calls: "01-12", line: "friends 11"},
		{friends: 4, calls: "01-12", line: "friends 999999"},
		{friends: 4, calls: "01-12", line: "calls 01-04"},
		{friends: 1, calls: "", line: "calls 01"},
		{friends: 9, calls: "", line: "calls 89"},
		{friends: 4, calls: "01-12", line: "call 0 0"},
		{friends: 4, calls: "01-12", line: "call 0 4"},
		{friends: 4, calls: "01-12", line: "call 4 0"},
		{friends: 4, calls: "01-12", line: "call 4 4"},
		{friends: 10, calls: "01-12", line: "call 10 9"},
		{friends: 10, calls: "01-12", line: "call 999999 0"},
		{friends: 2, calls: full, line: "call 0 1"},
		{friends: 4, calls: "", line: "undo"},
		{friends: 1, calls: "", line: "four"},
		{friends: 3, calls: "01", line: "four"},
		{friends: 4, calls: "01-12", line: "who 4"},
		{friends: 10, calls: "", line: "who 10"},
		{friends: 10, calls: "", line: "who 999999"},
		{friends: 4, calls: "01-12", line: "need"},
		{friends: 2, calls: "", line: "need"},
		{friends: 2, calls: full[:21*3-1], line: "rounds"},
		{friends: 2, calls: full, line: "rounds"},
		{friends: 4, calls: "", line: "fast 0"},
		{friends: 4, calls: "", line: "fast 6"},
		{friends: 4, calls: "", line: "fast 7"},
		{friends: 4, calls: "", line: "fast 999999"},
		{friends: 4, calls: "", line: "tell ab aba"},
		{friends: 4, calls: "", line: "tell aba ab"},
		{friends: 4, calls: "", line: "partner aa"},
		{friends: 4, calls: "", line: "partner abc"},
		{friends: 4, calls: "", line: "partner aabbccdd"},
		{friends: 4, calls: "", line: "partner abbcccdddd"},
		{friends: 4, calls: "", line: "time 0 4"},
		{friends: 4, calls: "", line: "time 11 4"},
		{friends: 4, calls: "", line: "time 1 0"},
		{friends: 4, calls: "", line: "time 999999 999999"},
		{friends: 4, calls: "", line: "quick 0 4"},
		{friends: 4, calls: "", line: "quick 11 4"},
		{friends: 4, calls: "", line: "quick 1 0"},
		{friends: 4, calls: "", line: "quick 1 41"},
		{friends: 4, calls: "", line: "quick 1 999999"},
	} {
		d := desk(c.friends, c.calls)
		checkLine(t, d, c.line, "no", d)
	}
}

// kindsByName tells for each first word the kinds of the words behind it: numbers, calls and groupings.
func kindsByName() map[string]string {
	return map[string]string{"friends": "N", "calls": "C", "call": "NN", "undo": "", "back": "", "four": "", "table": "", "show": "",
		"known": "", "who": "N", "count": "", "need": "", "idle": "", "extra": "", "few": "", "rounds": "", "fast": "N",
		"tell": "GG", "partner": "G", "time": "NN", "quick": "NN"}
}

// goodWords has for each kind a word with which all lines can be done on a desk of ten friends.
var goodWords = map[rune]string{'N': "1", 'C': "01", 'G': "a"}

// wrongWords are words that are none of a kind.
func wrongWords() map[rune][]string {
	words := []string{"x", "N", "-", ".", "1.0", "0x1", "1e1", "1_0", "\t", "1\t", "\r", "1\r", "a\r", "\x00", "\xff", "１", "é", "0-1", "1000000", "9999999",
		"00", "000000", "007", "0000001", "-0", "-1", "+0", "+1", "18446744073709551617", strings.Repeat("9", 2900)}
	return map[rune][]string{
		'N': append([]string{"", "a", "ab", "01-12"}, words...),
		'C': append([]string{"0", "1", "a", "10", "11", "012", "01-", "-01", "01--12", "01-21", "01-1", "01/12", "01,12", "ab", "0:",
			"/0", "01-12-", sixtyCalls("01") + "-01", sixtyCalls("01") + "-", strings.Repeat("01-", 900)}, words...),
		'G': append([]string{"", "b", "ba", "ac", "abd", "A", "aB", "1", "0", "a1", "a-", "a`", "abcdefghijklm", "aaaaaaaaaaaaa",
			strings.Repeat("a", 2900)}, words...),
	}
}

// Promise 10: the reply to a line with wrong words, too few or too many of them is what, and it changes nothing.
func TestLinesThatAreNone(t *testing.T) {
	d := desk(10, "01-12-89")
	lines := []string{"", " ", "  ", "fly", "Show", "SHOW", "shows", "sho", "show\r", "show\x00", "\tshow", "known,", "who,0", "no", "what", "-",
		"0", "01", "callN", "friends5", "friends\t5", "undo;back", "\xff", "four\xff", strings.Repeat("show ", 600), strings.Repeat(" ", 3000)}
	for name, kinds := range kindsByName() {
		words := []string{name}
		for _, kind := range kinds {
			words = append(words, goodWords[kind])
		}
		for i := range words {
			cut := strings.Join(words[:i], " ")
			lines = append(lines, strings.Join(slices.Insert(slices.Clone(words), i, ""), " "), cut)
			if i > 0 && cut != "calls" {
				lines = append(lines, cut+" ")
			}
		}
		whole := strings.Join(words, " ")
		lines = append(lines, whole+" ", whole+" 1", whole+" a", whole+" 01", whole+" "+name, strings.ToUpper(whole), strings.ReplaceAll(whole+" ", " ", "  "))
		for i, kind := range kinds {
			for _, wrong := range wrongWords()[kind] {
				changed := slices.Clone(words)
				changed[i+1] = wrong
				lines = append(lines, strings.Join(changed, " "))
			}
		}
	}
	for _, line := range lines {
		// Without its word, a line of calls is one with the empty text.
		if line == "calls " {
			continue
		}
		checkLine(t, d, line, "what", d)
	}
	// Wrong words are told from what cannot be done.
	for _, line := range []string{"call 99 x", "call x 99", "calls 10-89", "tell ab abx", "fast 6 6", "friends 1000000", "fast 06", "time 0 00", "undo 1"} {
		checkLine(t, desk(4, ""), line, "what", desk(4, ""))
	}
}

var numberForm = regexp.MustCompile(`^(0|[1-9][0-9]{0,5})$`)

var callsForm = regexp.MustCompile(`^[0-9]{2}(-[0-9]{2}){0,59}$`)

var groupingForm = regexp.MustCompile(`^[a-l]{1,12}$`)

// isWord tells whether a word is one of a kind.
func isWord(kind byte, word string) bool {
	switch kind {
	case 'N':
		return numberForm.MatchString(word)
	case 'G':
		return groupingForm.MatchString(word) && slices.Equal(anew(groups(word)), groups(word))
	}
	return word == "" || callsForm.MatchString(word) && isDeskByModel(desk(10, word))
}

// lineByModel executes a line. What the calls tell is what the package's own functions tell.
func lineByModel(d impl.Desk, line string) (impl.Desk, string) {
	words := strings.Split(line, " ")
	name, words := words[0], words[1:]
	kinds, there := kindsByName()[name]
	if !there || len(kinds) != len(words) {
		return d, "what"
	}
	numbers := make([]int, 2)
	for i, word := range words {
		if !isWord(kinds[i], word) {
			return d, "what"
		}
		if kinds[i] == 'N' {
			numbers[i], _ = strconv.Atoi(word)
		}
	}
	if behind, ok := changedByModel(d, name, words, numbers); ok {
		if !isDeskByModel(behind) {
			return d, "no"
		}
		return behind, orDash(written(behind.Calls))
	}
	reply, ok := repliedByModel(d, name, words, numbers)
	if !ok {
		return d, "no"
	}
	return d, orDash(reply)
}

// noDesk stands for what cannot be done.
var noDesk = impl.Desk{}

// changedByModel returns the desk that a line makes, which may be none. It fails if the line makes none at all.
func changedByModel(d impl.Desk, name string, words []string, numbers []int) (impl.Desk, bool) {
	list, ok := slices.Clone(d.Calls), true
	switch name {
	case "friends":
		return impl.Desk{Friends: numbers[0]}, true
	case "calls":
		list = calls(words[0])
	case "call":
		slices.Sort(numbers)
		list = append(list, impl.Call{A: numbers[0], B: numbers[1]})
	case "undo":
		if len(list) == 0 {
			return noDesk, true
		}
		list = list[:len(list)-1]
	case "back":
		slices.Reverse(list)
	case "four":
		list, ok = impl.FourPlan(d.Friends)
	case "table":
		list, ok = impl.TablePlan(d.Friends)
	default:
		return noDesk, false
	}
	if !ok {
		return noDesk, true
	}
	return impl.Desk{Friends: d.Friends, Calls: list}, true
}

// repliedByModel returns the reply to a line that asks. It fails if its function does.
func repliedByModel(d impl.Desk, name string, words []string, numbers []int) (string, bool) {
	switch name {
	case "show":
		return written(d.Calls), true
	case "known":
		return replyOf(impl.KnownAfter(d.Friends, d.Calls))
	case "who":
		return replyOf(impl.WhoKnows(d.Friends, d.Calls, numbers[0]))
	case "count":
		return replyOf(impl.CountKnown(d.Friends, d.Calls))
	case "need":
		return replyOf(impl.CallsNeeded(d.Friends, d.Calls))
	case "idle":
		return replyOf(impl.IdleCalls(d.Friends, d.Calls))
	case "extra":
		return replyOf(impl.NeedlessCalls(d.Friends, d.Calls))
	case "few":
		return replyOf(impl.FewestCalls(d.Friends))
	case "rounds":
		return replyOf(impl.IntoRounds(d.Friends, d.Calls))
	case "fast":
		if numbers[0] > 5 {
			return "", false
		}
		return replyOf(impl.FirstRounds(numbers[0]))
	case "tell":
		return replyOf(impl.TellsWires(groups(words[0]), groups(words[1])))
	case "partner":
		partner, ok := impl.FirstPartner(groups(words[0]))
		text, _ := impl.GroupingText(partner)
		return text, ok
	case "time":
		return replyOf(impl.MinutesFor(numbers[0], numbers[1]))
	}
	return replyOf(impl.QuickSends(numbers[0], numbers[1]))
}

// replyOf tells a result in a reply.
func replyOf(result any, ok bool) (string, bool) {
	switch x := result.(type) {
	case bool:
		return map[bool]string{true: "yes", false: "nay"}[x], ok
	case []impl.Send:
		return writtenSends(x), ok
	case [][]impl.Call:
		if len(x) == 0 {
			return ".", ok
		}
		return strings.Join(writtenRounds(x), "/"), ok
	}
	// Numbers are written alike in lists and alone, and brackets are left out.
	text := fmt.Sprint(result)
	text = strings.ReplaceAll(text, "] [", ";")
	text = strings.Trim(text, "[]")
	text = strings.ReplaceAll(text, " ", ",")
	return strings.ReplaceAll(text, ";", " "), ok
}

func orDash(s string) string {
	if s == "" {
		return "-"
	}
	return s
}

// randomDesk returns a desk of any number of friends, most often with few calls, at times with as many as can be.
func randomDesk(r *rand.Rand) impl.Desk {
	friends := 1 + r.Intn(10)
	d := impl.Desk{Friends: friends, Calls: randomCalls(r, friends, []int{2, 5, 20, 60}[r.Intn(4)])}
	if friends > 1 && r.Intn(8) == 0 {
		d.Calls = repeated(impl.Call{A: r.Intn(friends - 1), B: friends - 1}, 58+r.Intn(3))
	}
	return d
}

// randomWord returns a word of a kind, and now and then one that is none.
func randomWord(r *rand.Rand, kind rune) string {
	if r.Intn(10) == 0 {
		wrong := wrongWords()[kind]
		return wrong[r.Intn(len(wrong)-1)]
	}
	switch kind {
	case 'N':
		return fmt.Sprint([]int{r.Intn(3), r.Intn(5), r.Intn(10), 10 + r.Intn(3), 38 + r.Intn(5), r.Intn(1000000), 999999}[r.Intn(7)])
	case 'G':
		return string(groupLetters(randomGrouping(r, []int{3, 3, 6, 1 + r.Intn(12)}[r.Intn(4)])))
	}
	return written(randomCalls(r, 2+r.Intn(5), []int{3, 6, 60}[r.Intn(3)]))
}

func groupLetters(list []int) []byte {
	out := make([]byte, len(list))
	for i, group := range list {
		out[i] = byte('a' + group)
	}
	return out
}

// randomLine returns a line that is most often one that can be read.
func randomLine(r *rand.Rand) string {
	names := []string{}
	for name := range kindsByName() {
		names = append(names, name)
	}
	slices.Sort(names)
	words := []string{names[r.Intn(len(names))]}
	for _, kind := range kindsByName()[words[0]] {
		words = append(words, randomWord(r, kind))
	}
	switch r.Intn(30) {
	case 0:
		words = words[:len(words)-1]
	case 1:
		words = append(words, randomWord(r, 'N'))
	case 2:
		words = slices.Insert(words, r.Intn(len(words)+1), "")
	case 3:
		words[0] = names[r.Intn(len(names))]
	}
	return strings.Join(words, " ")
}

// Promise 10: random lines on random desks do what a model does.
func TestLinesDoWhatTheModelDoes(t *testing.T) {
	r := rand.New(rand.NewSource(101))
	for range 40000 {
		d, line := randomDesk(r), randomLine(r)
		behind, reply := lineByModel(d, line)
		checkLine(t, d, line, reply, behind)
	}
}

// checkScript runs a script, line by line in the model.
func checkScript(t *testing.T, lines []string) {
	t.Helper()
	d, replies, failed := desk(4, "01-12"), []string{}, []int{}
	for k, line := range lines {
		var reply string
		d, reply = lineByModel(d, line)
		replies = append(replies, reply)
		if reply == "no" || reply == "what" {
			failed = append(failed, k+1)
		}
	}
	script := ""
	for _, line := range lines {
		script += line + "\n"
	}
	what := fmt.Sprintf("script %q", script)
	got, ok := impl.RunScript(script)
	expect(t, what, got, ok, replies)
	after, ok := impl.DeskAfter(script)
	expectDesk(t, what, after, ok, d)
	numbers, ok := impl.FailedLines(script)
	expect(t, what, numbers, ok, failed)
}

// Promise 10: random scripts do what a model does.
func TestScriptsDoWhatTheModelDoes(t *testing.T) {
	r := rand.New(rand.NewSource(102))
	for range 1500 {
		lines, size := []string{}, 0
		for range r.Intn(51) {
			line := randomLine(r)
			if size += len(line) + 1; size > 3000 {
				break
			}
			lines = append(lines, line)
		}
		checkScript(t, lines)
	}
}

// Promise 10: scripts may be empty, have empty lines, and meet their limits.
func TestScriptsAtTheirLimits(t *testing.T) {
	checkScript(t, nil)
	checkScript(t, []string{""})
	checkScript(t, []string{"", "", "show", ""})
	checkScript(t, []string{"show\r"})
	checkScript(t, make([]string, 50))
	checkScript(t, slices.Repeat([]string{"call 2 3"}, 50))
	checkScript(t, slices.Repeat([]string{"undo"}, 50))
	checkScript(t, slices.Repeat([]string{"calls 01-12", "call 0 3", "undo", "undo", "four"}, 10))
	checkScript(t, []string{strings.Repeat("x", 2999)})
	checkScript(t, slices.Repeat([]string{strings.Repeat("x", 59)}, 50))
	list := slices.Repeat([]string{"calls " + sixtyCalls("01")}, 16)
	checkScript(t, append(list, strings.Repeat(" ", 3000-16*186-1)))
	for _, script := range []string{"", "fly\n", "undo\n"} {
		after, ok := impl.DeskAfter(script)
		expectDesk(t, fmt.Sprintf("DeskAfter %q", script), after, ok, map[bool]impl.Desk{true: desk(4, "01"), false: desk(4, "01-12")}[script == "undo\n"])
	}
}

// Promise 10: a text that is no script makes all functions of scripts fail.
func TestTextsThatAreNoScripts(t *testing.T) {
	for _, s := range []string{"show", "x", " ", "\r", "show\nshow", "show\n ", "\n\n ", "\nx", strings.Repeat("\n", 51), strings.Repeat("show\n", 51),
		strings.Repeat("show\n", 50) + "show", strings.Repeat("\n", 50) + " ", strings.Repeat("x", 3000), strings.Repeat("x", 3000) + "\n",
		strings.Repeat(strings.Repeat("x", 59)+"\n", 50) + "\n", strings.Repeat(strings.Repeat("x", 99)+"\n", 30) + "\n",
		strings.Repeat("\n", 3001), strings.Repeat("\n", 1000000)} {
		what := fmt.Sprintf("text %.70q of %d bytes", s, len(s))
		replies, ok := impl.RunScript(s)
		expectFail(t, "RunScript of "+what, replies, ok)
		after, ok := impl.DeskAfter(s)
		expectFail(t, "DeskAfter of "+what, after, ok)
		failed, ok := impl.FailedLines(s)
		expectFail(t, "FailedLines of "+what, failed, ok)
	}
}

func expectNoLine(t *testing.T, d impl.Desk, line string) {
	t.Helper()
	behind, reply, ok := impl.DeskLine(d, line)
	if ok || reply != "" || !isZero(behind) {
		t.Errorf("DeskLine %.70q of %d bytes on %v: got %v, %q, %v", line, len(line), d, behind, reply, ok)
	}
}

// Promise 10: a line is executed on a desk alone, has at most so many bytes, and no newline.
func TestWrongDesksAndLines(t *testing.T) {
	wrong := []impl.Desk{{}, {Friends: -1}, {Friends: 0}, {Friends: 11}, {Friends: math.MaxInt}, {Friends: math.MinInt}, desk(0, "01"), desk(1, "01"),
		desk(4, "01-04"), desk(4, "10"), desk(4, "11"), desk(11, "01"), desk(9, "89-09"), {Friends: 4, Calls: []impl.Call{{A: -1, B: 1}}},
		{Friends: 10, Calls: []impl.Call{{A: 0, B: 10}}}, {Friends: 4, Calls: repeated(impl.Call{A: 0, B: 1}, 61)}}
	lines := []string{"", "show", "friends 4", "calls 01", "calls ", "call 0 1", "undo", "fast 3", "tell a a", "fly", "few"}
	for _, d := range wrong {
		for _, line := range lines {
			expectNoLine(t, d, line)
		}
	}
	for _, line := range lines {
		for _, s := range []string{line + "\n", "\n" + line, line + "\n" + line, line + strings.Repeat(" ", 3001-len(line)), line + strings.Repeat("x", 5000)} {
			expectNoLine(t, desk(4, "01-12"), s)
		}
	}
	d := desk(4, "01-12")
	checkLine(t, d, strings.Repeat("x", 3000), "what", d)
	checkLine(t, d, "show"+strings.Repeat(" ", 2996), "what", d)
	expectNoLine(t, d, strings.Repeat("x", 3001))
	expectNoLine(t, d, strings.Repeat("x", 2999)+"\n")
}
