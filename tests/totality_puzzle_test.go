package tests

import (
	"fmt"
	"math/rand"
	"reflect"
	"slices"
	"testing"

	"loop.example/g01316/impl"
)

// puzzleArguments are all the arguments that a function of puzzles may have but for texts of puzzles.
type puzzleArguments struct {
	puzzle  impl.Puzzle
	clue    impl.Clue
	friends int
	list    []impl.Call
	n       int
	k       int
}

// puzzleFunction is a function of chapter 9.
type puzzleFunction struct {
	name string
	run  func(x puzzleArguments) (any, bool)
}

func puzzleFunctions() []puzzleFunction {
	return []puzzleFunction{
		{"IsClue", func(x puzzleArguments) (any, bool) {
			ok := impl.IsClue(x.friends, x.n, x.clue)
			return ok, ok
		}},
		{"IsPuzzle", func(x puzzleArguments) (any, bool) {
			ok := impl.IsPuzzle(x.puzzle)
			return ok, ok
		}},
		{"HiddenLists", func(x puzzleArguments) (any, bool) { return erase(impl.HiddenLists(x.friends, x.n)) }},
		{"DoesFit", func(x puzzleArguments) (any, bool) { return erase(impl.DoesFit(x.friends, x.clue, x.list)) }},
		{"Solutions", func(x puzzleArguments) (any, bool) { return erase(impl.Solutions(x.puzzle)) }},
		{"CountSolutions", func(x puzzleArguments) (any, bool) { return erase(impl.CountSolutions(x.puzzle)) }},
		{"FirstSolution", func(x puzzleArguments) (any, bool) { return erase(impl.FirstSolution(x.puzzle)) }},
		{"SureCalls", func(x puzzleArguments) (any, bool) { return erase(impl.SureCalls(x.puzzle)) }},
		{"IsSolved", func(x puzzleArguments) (any, bool) { return erase(impl.IsSolved(x.puzzle)) }},
		{"NeedlessClues", func(x puzzleArguments) (any, bool) { return erase(impl.NeedlessClues(x.puzzle)) }},
		{"DropClue", func(x puzzleArguments) (any, bool) { return erase(impl.DropClue(x.puzzle, x.k)) }},
		{"AddClue", func(x puzzleArguments) (any, bool) { return erase(impl.AddClue(x.puzzle, x.clue)) }},
		{"LeftByClues", func(x puzzleArguments) (any, bool) { return erase(impl.LeftByClues(x.puzzle)) }},
		{"BestClue", func(x puzzleArguments) (any, bool) { return erase(impl.BestClue(x.puzzle)) }},
		{"HarderPuzzle", func(x puzzleArguments) (any, bool) { return erase(impl.HarderPuzzle(x.puzzle)) }},
		{"MakePuzzle", func(x puzzleArguments) (any, bool) { return erase(impl.MakePuzzle(x.friends, x.list, x.n, x.k)) }},
		{"PuzzleText", func(x puzzleArguments) (any, bool) { return erase(impl.PuzzleText(x.puzzle)) }},
	}
}

func oddNumber(r *rand.Rand) int {
	if r.Intn(5) > 0 {
		return r.Intn(6)
	}
	return extremes[r.Intn(len(extremes))]
}

func oddClue(r *rand.Rand) impl.Clue {
	return impl.Clue{Kind: oddNumber(r), A: oddNumber(r), B: oddNumber(r), C: oddNumber(r)}
}

// oddPuzzle returns a puzzle, what is nearly one, or something else.
func oddPuzzle(r *rand.Rand) impl.Puzzle {
	if r.Intn(3) == 0 {
		p := impl.Puzzle{Friends: oddNumber(r), Calls: oddNumber(r)}
		for range r.Intn(9) {
			p.Clues = append(p.Clues, oddClue(r))
		}
		return p
	}
	all := settings()
	p := randomPuzzle(r, all[r.Intn(len(all))], r.Intn(8), 0)
	if len(p.Clues) > 0 && r.Intn(3) == 0 {
		p.Clues[r.Intn(len(p.Clues))] = oddClue(r)
	}
	return p
}

func oddHidden(r *rand.Rand, friends int) []impl.Call {
	if r.Intn(3) > 0 && 0 <= friends && friends <= 10 {
		return randomCalls(r, friends, 4)
	}
	out := make([]impl.Call, r.Intn(5))
	for k := range out {
		out[k] = impl.Call{A: oddNumber(r), B: oddNumber(r)}
	}
	return out
}

// Promise 11: no argument makes a function of chapter 9 panic, and where it fails all other results are zero.
func TestAllPuzzlesAreAccepted(t *testing.T) {
	r := rand.New(rand.NewSource(93))
	for range 5000 {
		friends := oddNumber(r)
		x := puzzleArguments{oddPuzzle(r), oddClue(r), friends, oddHidden(r, friends), oddNumber(r), oddNumber(r)}
		for _, f := range puzzleFunctions() {
			got, ok := f.run(x)
			if !ok && !isZero(got) {
				t.Errorf("%s of %v fails with %v", f.name, x, got)
			}
		}
	}
	for range 20000 {
		s := oddPuzzleText(r)
		p, ok := impl.ParsePuzzle(s)
		if !ok {
			expectFail(t, fmt.Sprintf("ParsePuzzle %q", s), p, ok)
		} else if text, fine := impl.PuzzleText(p); text != s || !fine {
			t.Errorf("ParsePuzzle %q: %v", s, p)
		}
	}
}

// oddPuzzleText returns a PuzzleText, most often with some signs changed, cut out or put in.
func oddPuzzleText(r *rand.Rand) string {
	signs := "0123456789c:.,-+ \n\x00\xff"
	all := settings()
	out := []byte(writtenPuzzle(randomPuzzle(r, all[r.Intn(len(all))], r.Intn(8), 0)))
	for range r.Intn(3) {
		i := r.Intn(len(out))
		sign := signs[r.Intn(len(signs))]
		switch r.Intn(3) {
		case 0:
			out[i] = sign
		case 1:
			out = slices.Insert(out, i, sign)
		case 2:
			out = slices.Delete(out, i, min(len(out)-1, i+1))
		}
	}
	return string(out)
}

// roomyPuzzle returns a puzzle with filled room behind its clues.
func roomyPuzzle(p impl.Puzzle) impl.Puzzle {
	p.Clues = append(slices.Clone(p.Clues), clue("71.72.73.74"), clue("75.76.77.78"))[:len(p.Clues)]
	return p
}

// Promise 11: puzzles and lists stay as they are, with the room behind them, and results have memory of their own.
func TestPuzzlesStayAsTheyAre(t *testing.T) {
	r := rand.New(rand.NewSource(94))
	for _, sampled := range puzzleSample() {
		s := settingOf(sampled)
		p, lists, clues := roomyPuzzle(sampled), hiddenOf(s), cluesOf(s)
		list := append(slices.Clone(lists[r.Intn(len(lists))]), calls("78-79")...)[:s.calls]
		whole := func() string {
			return fmt.Sprint(p.Clues[:cap(p.Clues)], len(p.Clues), list[:cap(list)], len(list))
		}
		for _, k := range []int{r.Intn(6), max(0, len(p.Clues)-1)} {
			x := puzzleArguments{p, clues[r.Intn(len(clues))], s.friends, list, r.Intn(7), k}
			for _, f := range puzzleFunctions() {
				checkStays(t, f.name, x, func() (any, bool) { return f.run(x) }, whole)
			}
		}
	}
}

// Promise 11: ParsePuzzle gives a new puzzle each time.
func TestParsedPuzzlesAreNew(t *testing.T) {
	for _, s := range []string{"3c2:1.0.0.3,0.2.0.1", "2c0:5.0.0.2"} {
		first, _ := impl.ParsePuzzle(s)
		spoil(t, "ParsePuzzle", reflect.ValueOf(first), -9)
		again, ok := impl.ParsePuzzle(s)
		expectPuzzle(t, "ParsePuzzle "+s, again, ok, puzzle(s))
	}
}
