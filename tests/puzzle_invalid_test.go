package tests

import (
	"fmt"
	"math"
	"slices"
	"strings"
	"testing"

	"loop.example/g01271/impl"
)

// Promise 11 for chapter 9: all arguments are taken without a panic, invalid ones give zero values, and none is changed.

// badCells returns numbers of cells that no puzzle has.
func badCells() []int {
	return []int{math.MinInt, math.MinInt + 1, math.MinInt32, -1 << 32, -5, -1, 0, 6, 7, 12, 256, 1<<32 + 3, math.MaxInt32, math.MaxInt - 1, math.MaxInt}
}

func isZeroPuzzle(p impl.Puzzle) bool {
	return p.Cells == 0 && len(p.Clues) == 0
}

// checkNoChange checks that no clue can be dropped or added.
func checkNoChange(t *testing.T, p impl.Puzzle) {
	t.Helper()
	for _, k := range []int{0, 1, len(p.Clues) - 1, -1, len(p.Clues), math.MinInt, math.MaxInt} {
		if q, ok := impl.DropClue(p, k); !isZeroPuzzle(q) || ok {
			t.Errorf("DropClue %.40q %d: %q %v", nameOf(p), k, nameOf(q), ok)
		}
	}
	for _, c := range []impl.Clue{{}, {Kind: 1, A: 1}, {Kind: 5, A: 3}, {Kind: -1}, {Kind: 6}} {
		if q, ok := impl.AddClue(p, c); !isZeroPuzzle(q) || ok {
			t.Errorf("AddClue %.40q %v: %q %v", nameOf(p), c, nameOf(q), ok)
		}
	}
}

// checkNoPuzzle checks that nothing is told of what is no puzzle.
func checkNoPuzzle(t *testing.T, p impl.Puzzle) {
	t.Helper()
	if impl.IsPuzzle(p) {
		t.Errorf("IsPuzzle %.40q", nameOf(p))
	}
	if lines, ok := impl.Solutions(p); len(lines) != 0 || ok {
		t.Errorf("Solutions %.40q: %q %v", nameOf(p), lines, ok)
	}
	if solved, ok := impl.IsSolved(p); solved || ok {
		t.Errorf("IsSolved %.40q: %v %v", nameOf(p), solved, ok)
	}
	if q, ok := impl.HarderPuzzle(p); !isZeroPuzzle(q) || ok {
		t.Errorf("HarderPuzzle %.40q: %q %v", nameOf(p), nameOf(q), ok)
	}
	for name, f := range map[string]func(impl.Puzzle) (int, bool){"CountSolutions": impl.CountSolutions, "BestClue": impl.BestClue} {
		if n, ok := f(p); n != 0 || ok {
			t.Errorf("%s %.40q: %d %v", name, nameOf(p), n, ok)
		}
	}
	for name, f := range map[string]func(impl.Puzzle) (string, bool){"FirstSolution": impl.FirstSolution, "SureCells": impl.SureCells, "PuzzleText": impl.PuzzleText} {
		if s, ok := f(p); s != "" || ok {
			t.Errorf("%s %.40q: %q %v", name, nameOf(p), s, ok)
		}
	}
	for name, f := range map[string]func(impl.Puzzle) ([]int, bool){"NeedlessClues": impl.NeedlessClues, "LeftByClues": impl.LeftByClues} {
		if list, ok := f(p); len(list) != 0 || ok {
			t.Errorf("%s %.40q: %v %v", name, nameOf(p), list, ok)
		}
	}
	checkNoChange(t, p)
}

func TestPuzzlesOfBadCells(t *testing.T) {
	for _, cells := range badCells() {
		checkNoPuzzle(t, impl.Puzzle{Cells: cells})
		checkNoPuzzle(t, impl.Puzzle{Cells: cells, Clues: []impl.Clue{{}}})
		checkNoPuzzle(t, impl.Puzzle{Cells: cells, Clues: puzzleNamed("1:1.0.0,2.0.0,3.0.0,4.0.0,5.0.0,0.0.0").Clues})
		for _, c := range append(cluesFor(5), badCluesFor(5)...) {
			checkIsClue(t, cells, c, false)
		}
	}
}

// TestPuzzlesWithBadClues takes each clue that is none alone, and as the first, a middle and the last one of others.
func TestPuzzlesWithBadClues(t *testing.T) {
	for cells := 1; cells <= 5; cells++ {
		for _, c := range badCluesFor(cells) {
			checkIsClue(t, cells, c, false)
			checkNoPuzzle(t, impl.Puzzle{Cells: cells, Clues: []impl.Clue{c}})
			for _, many := range []int{2, 6} {
				for _, k := range []int{0, many / 2, many - 1} {
					clues := slices.Repeat([]impl.Clue{{Kind: 1, A: 1}}, many)
					clues[k] = c
					if p := (impl.Puzzle{Cells: cells, Clues: clues}); impl.IsPuzzle(p) {
						t.Errorf("IsPuzzle %q", nameOf(p))
					} else if many == 6 {
						checkNoPuzzle(t, p)
					}
				}
			}
		}
	}
}

// TestCluesOfOtherPuzzles takes clues of more cells than the puzzle has.
func TestCluesOfOtherPuzzles(t *testing.T) {
	for cells := 1; cells <= 5; cells++ {
		for more := cells + 1; more <= 5; more++ {
			for _, c := range cluesFor(more) {
				p := impl.Puzzle{Cells: cells, Clues: []impl.Clue{c}}
				if is := slices.Contains(cluesFor(cells), c); is != impl.IsPuzzle(p) {
					t.Errorf("IsPuzzle %q: %v", nameOf(p), !is)
				} else if !is {
					checkNoPuzzle(t, p)
				}
			}
		}
	}
}

func TestTooManyClues(t *testing.T) {
	for cells := 1; cells <= 5; cells++ {
		for _, many := range []int{7, 8, 12, 256, 257} {
			for _, c := range []impl.Clue{{}, {Kind: 5, A: 1}, {Kind: 9}} {
				checkNoPuzzle(t, impl.Puzzle{Cells: cells, Clues: slices.Repeat([]impl.Clue{c}, many)})
			}
		}
	}
	many := impl.Puzzle{Cells: 3, Clues: make([]impl.Clue, 1000000)}
	if lines, ok := impl.Solutions(many); impl.IsPuzzle(many) || len(lines) != 0 || ok {
		t.Errorf("a puzzle has %d clues: %q %v", len(many.Clues), lines, ok)
	}
}

func checkNotFit(t *testing.T, c impl.Clue, w string) {
	t.Helper()
	if fits, ok := impl.DoesFit(c, w); fits || ok {
		t.Errorf("DoesFit %v %.40q: %v %v", c, w, fits, ok)
	}
}

// TestFitsOfNoLines takes texts that are no lines, and lines of more than MaxHidden cells.
func TestFitsOfNoLines(t *testing.T) {
	lines := append(noReachLines(), "T.FFTT", "......", "T.FTT.F", "TTFFTTFF", "TT.FF/", "TT FF", ".,.")
	for _, sign := range []string{"T", ".", "F"} {
		for cells := 6; cells <= 12; cells++ {
			lines = append(lines, strings.Repeat(sign, cells))
		}
	}
	for _, w := range lines {
		for _, c := range append(cluesFor(5), impl.Clue{Kind: 0, A: 5}, impl.Clue{Kind: 1, A: 6}, impl.Clue{Kind: 3, A: 12}, impl.Clue{Kind: -1}) {
			checkNotFit(t, c, w)
		}
		for _, c := range []impl.Clue{{Kind: 0, A: len(w) - 1}, {Kind: 1, A: len(w)}, {Kind: 2, A: len(w)}, {Kind: 3, A: 2 * len(w)}} {
			checkNotFit(t, c, w)
		}
	}
}

// TestFitsOfBadClues takes clues that are none of as many cells as the line has, though they may be of more.
func TestFitsOfBadClues(t *testing.T) {
	for _, w := range linesUpTo(5) {
		if len(w) < 4 || strings.HasPrefix(w, "T") {
			for _, c := range append(badCluesFor(len(w)), impl.Clue{Kind: 0, A: len(w)}, impl.Clue{Kind: 1, A: len(w) + 1}, impl.Clue{Kind: 2, A: len(w) + 1}, impl.Clue{Kind: 3, A: 2*len(w) + 1}) {
				checkNotFit(t, c, w)
			}
		}
	}
}

// TestBadCluesAreNotAdded takes clues that are none of the puzzle, and puzzles that are full.
func TestBadCluesAreNotAdded(t *testing.T) {
	for cells := 1; cells <= 5; cells++ {
		for _, many := range []int{0, 1, 5} {
			p := impl.Puzzle{Cells: cells, Clues: slices.Repeat([]impl.Clue{{Kind: 1, A: 1}}, many)}
			for _, c := range badCluesFor(cells) {
				if q, ok := impl.AddClue(p, c); !isZeroPuzzle(q) || ok {
					t.Errorf("AddClue %q %v: %q %v", nameOf(p), c, nameOf(q), ok)
				}
			}
		}
		full := impl.Puzzle{Cells: cells, Clues: slices.Repeat([]impl.Clue{{Kind: 1, A: 1}}, 6)}
		for _, c := range append(cluesFor(cells), badCluesFor(cells)...) {
			if q, ok := impl.AddClue(full, c); !isZeroPuzzle(q) || ok {
				t.Errorf("AddClue %q %v: %q %v", nameOf(full), c, nameOf(q), ok)
			}
		}
	}
}

// TestIndicesOfNoClue takes them below 0 and from the number of clues on, also where there is room with clues.
func TestIndicesOfNoClue(t *testing.T) {
	for many := 0; many <= 6; many++ {
		clues := slices.Repeat([]impl.Clue{{Kind: 1, A: 1}}, many)
		for _, p := range []impl.Puzzle{{Cells: 3, Clues: clues}, {Cells: 3, Clues: spareClues(clues)}} {
			for _, k := range append(edgeNumbers(), -1<<32, 1<<32) {
				q, ok := impl.DropClue(p, k)
				if valid := k >= 0 && k < many; ok != valid || isZeroPuzzle(q) == valid {
					t.Errorf("DropClue %q %d: %q %v", nameOf(p), k, nameOf(q), ok)
				}
			}
		}
	}
}

func checkNotMadeOf(t *testing.T, w string, clues, seed int) {
	t.Helper()
	if p, ok := impl.MakePuzzle(w, clues, seed); !isZeroPuzzle(p) || ok {
		t.Errorf("MakePuzzle %.40q %d %d: %q %v", w, clues, seed, nameOf(p), ok)
	}
}

func TestPuzzlesThatAreNotMade(t *testing.T) {
	far := []int{math.MinInt, math.MinInt + 1, math.MinInt32, -1 << 32, -10007, -2, -1, math.MaxInt32, 1 << 32, math.MaxInt/167 + 1, math.MaxInt - 1, math.MaxInt}
	for _, w := range append(noReachLines(), "T.FFTT", "......", "TTTFFF", "T.FTT.F", "TTFFTTFF", "TTTT.FFFF", "TT FF") {
		for clues := 0; clues <= 6; clues++ {
			checkNotMadeOf(t, w, clues, 0)
			checkNotMadeOf(t, w, clues, 9999)
		}
		checkNotMadeOf(t, w, -1, -1)
	}
	for _, w := range []string{".", "F", "T", "T.F", "TT.FF"} {
		for _, seed := range []int{0, 1, 9999} {
			for _, clues := range append(far, 7, 8, 100, 10000, 1000000) {
				checkNotMadeOf(t, w, clues, seed)
			}
		}
		for clues := 0; clues <= 6; clues++ {
			for _, seed := range append(far, 10000, 10001, 10006, 10007, 10008, 20014) {
				checkNotMadeOf(t, w, clues, seed)
			}
		}
	}
}

func checkNoPuzzleText(t *testing.T, s string) {
	t.Helper()
	if p, ok := impl.ParsePuzzle(s); !isZeroPuzzle(p) || ok {
		t.Errorf("ParsePuzzle %.60q: %q %v", s, nameOf(p), ok)
	}
}

func TestTextsThatAreNoPuzzles(t *testing.T) {
	huge := "99999999999999999999"
	for _, s := range []string{
		// The empty text, and a missing or a superfluous ":".
		"", ":", "3", "31.1.0", "1.1.0", "3,1.1.0", "3.1.1.0", "::", "3::", ":3", "3::1.1.0", "3:1.1.0:", "3:1.1.0:2.1.0", "3:3:1.1.0", "1.1.0:3", ":1.1.0", "3;1.1.0", "3 1.1.0",
		// Missing, superfluous and doubled points.
		"3:1", "3:1.1", "3:1.", "3:.", "3:..", "3:1..0", "3:.1.0", "3:1.1.", "3:1..1.0", "3:1.1..0", "3:..1.0", "3:1.1.0.", "3:.1.1.0", "3:1.1.0.0", "3:1.1.0.2.1.0", "3.:1.1.0", "3:110", "3:11.0", "3:1.10",
		// Missing, superfluous and doubled commas.
		"3:,", "3:,,", "3:1.1.0,", "3:,1.1.0", "3:1.1.0,,2.1.0", "3:1.1.02.1.0", "3,:1.1.0", "3:1,1,0", "3:1.1,0", "3:1,1.0", "3:1.1.0;2.1.0", "3:1.1.0,,", "3:,1.1.0,", "3:1.1.0,2.1", "3:1.1,2.1.0",
		// Signs and zeros before a number.
		"+3:", "-3:", "03:", "3:+1.1.0", "3:1.+1.0", "3:1.1.+0", "3:-0.0.0", "3:0.-0.0", "3:0.0.-0", "3:01.1.0", "3:1.01.0", "3:1.1.00", "3:00.0.0", "3:0.00.0", "3:-1.1.0", "3:1.-1.0", "3:1.1.-1", "003:1.1.0", "5:4.010.0", "-0:",
		// Spaces.
		" 3:", "3 :", "3: ", " ", "3: 1.1.0", "3:1 .1.0", "3:1. 1.0", "3:1.1.0 ", "3:1.1.0, 2.1.0", "3:1.1.0 ,2.1.0", "3:1.1.0\n", "\n3:1.1.0", "3:1.1.0\t", "3:\n", "3:\x00", "3\x00:", "3:1.1.0\x00",
		// Letters and other signs.
		"x", "x:", "three:", "3:x", "3:a.b.c", "3:1.x.0", "3:1.1.x", "3:1.1.0x", "x3:1.1.0", "3x:", "0x3:", "3:0x1.1.0", "3:1e0.1.0", "3:1_0.1.0", "5:4.1_0.0", "3:T.F", "T.F", "\xff:", "3:\xff", "3:1.1.\xff", "\u0663:", "3:\u0661.1.0", "3\uff1a1.1.0", "3:1\u20241.0", "3:1.1.0\u066b", "3:1.1.0\u060c2.1.0", "[3:]", "3:(1.1.0)", "3:\"\"", "infinity:", "NaN:",
		// Numbers that are too great for an int, or for a puzzle.
		huge + ":", "-" + huge + ":", huge + ":1.1.0", "3:" + huge + ".1.0", "3:1." + huge + ".0", "3:1.1." + huge, "3:1.-" + huge + ".0", "9223372036854775807:", "9223372036854775808:", "-9223372036854775808:", "3:1.9223372036854775808.0", "3:1.18446744073709551617.0", "18446744073709551619:", "4294967299:", "3:1.4294967297.0",
		"0:", "6:", "10:", "3:6.0.0", "3:10.0.0", "3:0.3.0", "3:0.0.3", "3:1.4.0", "3:1.1.1", "3:2.4.0", "3:3.7.0", "3:4.11.0", "3:5.4.0", "0:1.0.0", "6:1.0.0", "1:0.1.0", "4:3.9.0", "5:3.11.0",
		// More than MaxClues clues.
		"1:" + strings.Repeat("0.0.0,", 6) + "0.0.0", "5:" + strings.Repeat("1.1.0,", 7) + "1.1.0", "3:1.1.0,1.1.0,1.1.0,1.1.0,1.1.0,1.1.0,", "3:1.1.0,1.1.0,1.1.0,1.1.0,1.1.0,1.1.0,x",
		// Very long texts.
		strings.Repeat("3", 1000), strings.Repeat("3:", 1000), "3:" + strings.Repeat(",", 100000), "3:" + strings.Repeat(".", 100000), "3:" + strings.Repeat("1.1.0,", 100000) + "1.1.0", strings.Repeat("0", 1000) + "3:", "3:1." + strings.Repeat("0", 1000) + "1.0",
	} {
		checkNoPuzzleText(t, s)
	}
}

// TestTextsLikePuzzles changes texts of puzzles at each place, and all short texts of their signs: they are read exactly if they are texts of puzzles still.
func TestTextsLikePuzzles(t *testing.T) {
	var texts []string
	for n := 0; n <= 7; n++ {
		texts = append(texts, textsOf(":.,1", n)...)
	}
	for _, s := range []string{"3:", "1:0.0.2", "5:3.10.0,4.10.0", "3:1.1.0,2.1.0,4.1.0", "5:0.0.2,1.2.0,2.2.0,3.2.0,4.4.0,5.0.0"} {
		for place := range len(s) + 1 {
			for _, sign := range []string{"", ".", ",", ":", "0", "1", "2", "5", "6", "9", "10", "+", "-", " ", "x", "\n", "\x00", "\xff", ".0", ",1.1.0", "_"} {
				texts = append(texts, s[:place]+sign+s[place:])
				if place < len(s) {
					texts = append(texts, s[:place]+sign+s[place+1:])
				}
			}
		}
	}
	for _, s := range texts {
		if !isNamed(s) {
			checkNoPuzzleText(t, s)
		} else {
			checkText(t, puzzleNamed(s), s)
		}
	}
}

// spareClues returns a list with the same clues, and with others behind its length that a call must leave alone: one that could be one more, and ones that are none.
func spareClues(clues []impl.Clue) []impl.Clue {
	all := append(slices.Clone(clues), impl.Clue{Kind: 4, A: 1})
	for k := range 7 {
		all = append(all, impl.Clue{Kind: -100 - k, A: 100 + k, B: 7})
	}
	return all[:len(clues)]
}

// puzzleAnswers returns what all calls with a puzzle tell.
func puzzleAnswers(p impl.Puzzle) []string {
	answers := []string{
		fmt.Sprint(impl.IsPuzzle(p)), fmt.Sprint(impl.Solutions(p)), fmt.Sprint(impl.CountSolutions(p)), fmt.Sprint(impl.FirstSolution(p)), fmt.Sprint(impl.SureCells(p)), fmt.Sprint(impl.IsSolved(p)),
		fmt.Sprint(impl.NeedlessClues(p)), fmt.Sprint(impl.LeftByClues(p)), fmt.Sprint(impl.BestClue(p)), fmt.Sprint(impl.HarderPuzzle(p)), fmt.Sprint(impl.PuzzleText(p)),
		fmt.Sprint(impl.AddClue(p, impl.Clue{Kind: 2, A: 1})), fmt.Sprint(impl.AddClue(p, impl.Clue{Kind: 2, A: -1})),
	}
	for k := -1; k <= len(p.Clues); k++ {
		answers = append(answers, fmt.Sprint(impl.DropClue(p, k)))
	}
	return answers
}

// puzzlesToKeep returns puzzles, and what is none.
func puzzlesToKeep() []impl.Puzzle {
	var puzzles []impl.Puzzle
	for _, told := range namedPuzzles() {
		puzzles = append(puzzles, told.puzzle)
	}
	for _, name := range []string{"0:1.0.0", "6:1.1.0", "3:9.0.0", "3:1.1.0,2.9.0,3.2.0", "3:1.1.0,1.1.0,1.1.0,1.1.0,1.1.0,1.1.0,1.1.0"} {
		puzzles = append(puzzles, puzzleNamed(name))
	}
	return puzzles
}

// TestPuzzlesAreNotChanged gives lists with clues behind their length, which must neither be read nor changed.
func TestPuzzlesAreNotChanged(t *testing.T) {
	for _, p := range puzzlesToKeep() {
		list := spareClues(p.Clues)
		answers := puzzleAnswers(impl.Puzzle{Cells: p.Cells, Clues: list})
		if want := spareClues(p.Clues); !slices.Equal(list[:len(list)+8], want[:len(want)+8]) {
			t.Errorf("a call with %q changed its clues to %v", nameOf(p), list[:len(list)+8])
		}
		tight := slices.Clip(slices.Clone(p.Clues))
		if want := puzzleAnswers(impl.Puzzle{Cells: p.Cells, Clues: tight}); !slices.Equal(answers, want) {
			t.Errorf("%q is told as %q with room, as %q without", nameOf(p), answers, want)
		}
		if !slices.Equal(tight, p.Clues) {
			t.Errorf("a call with %q changed its clues to %v", nameOf(p), tight)
		}
	}
}

// changedPuzzles returns all puzzles that calls return for a puzzle.
func changedPuzzles(p impl.Puzzle) []impl.Puzzle {
	var puzzles []impl.Puzzle
	keep := func(q impl.Puzzle, ok bool) {
		puzzles = append(puzzles, q)
	}
	for k := range p.Clues {
		keep(impl.DropClue(p, k))
	}
	keep(impl.AddClue(p, impl.Clue{Kind: 1, A: 1}))
	keep(impl.AddClue(p, impl.Clue{Kind: 2, A: 1}))
	keep(impl.HarderPuzzle(p))
	return puzzles
}

// TestPuzzlesShareNoMemory spoils one result after the other, with the room behind it: neither the argument nor another result is changed.
func TestPuzzlesShareNoMemory(t *testing.T) {
	for _, p := range puzzlesToKeep() {
		list := spareClues(p.Clues)
		given := impl.Puzzle{Cells: p.Cells, Clues: list}
		results := changedPuzzles(given)
		var names []string
		for _, q := range results {
			names = append(names, nameOf(q))
		}
		for k, q := range results {
			if nameOf(q) != names[k] {
				t.Errorf("result %d of %q was %q and is %q", k, nameOf(p), names[k], nameOf(q))
			}
			clues := q.Clues[:cap(q.Clues)]
			for at := range clues {
				clues[at] = impl.Clue{Kind: -7, A: -7, B: -7}
			}
		}
		if want := spareClues(p.Clues); !slices.Equal(list[:len(list)+8], want[:len(want)+8]) {
			t.Errorf("a result shares memory with the clues of %q: %v", nameOf(p), list[:len(list)+8])
		}
		// The other way round: what is given is spoilt.
		results = changedPuzzles(given)
		for at := range list[:len(list)+8] {
			list[:len(list)+8][at] = impl.Clue{Kind: -7, A: -7, B: -7}
		}
		for k, q := range results {
			if nameOf(q) != names[k] {
				t.Errorf("result %d of %q was %q and is %q", k, nameOf(p), names[k], nameOf(q))
			}
		}
	}
}

// spoilNumbers overwrites a list and the room behind it.
func spoilNumbers(list []int) {
	list = list[:cap(list)]
	for k := range list {
		list[k] = -7
	}
}

// TestResultsOfPuzzlesAreNew spoils results with the room behind them, and asks again.
func TestResultsOfPuzzlesAreNew(t *testing.T) {
	for _, want := range namedPuzzles() {
		needless, _ := impl.NeedlessClues(want.puzzle)
		left, _ := impl.LeftByClues(want.puzzle)
		solutions, _ := impl.Solutions(want.puzzle)
		spoilNumbers(needless)
		spoilNumbers(left)
		solutions = solutions[:cap(solutions)]
		for k := range solutions {
			solutions[k] = "spoilt"
		}
		checkSolutions(t, want)
		checkClues(t, want)
	}
	for range 2 {
		p, ok := impl.ParsePuzzle("3:1.1.0,2.1.0,4.1.0")
		checkPuzzle(t, "ParsePuzzle", p, ok, puzzleNamed("3:1.1.0,2.1.0,4.1.0"))
		q, ok := impl.MakePuzzle("T.F", 3, 0)
		checkPuzzle(t, "MakePuzzle", q, ok, puzzleNamed("3:1.1.0,2.1.0,0.1.0"))
		for _, clues := range [][]impl.Clue{p.Clues[:cap(p.Clues)], q.Clues[:cap(q.Clues)]} {
			for k := range clues {
				clues[k] = impl.Clue{Kind: -7}
			}
		}
	}
}

// TestTextsOfPuzzlesAreNotChanged gives lines and texts that are parts of longer ones, of which nothing may be changed.
func TestTextsOfPuzzlesAreNotChanged(t *testing.T) {
	lines, texts := strings.Repeat("TT.FF", 3), strings.Repeat("3:1.1.0,2.1.0", 2)
	keptLines, keptTexts := strings.Clone(lines), strings.Clone(texts)
	for from := range texts {
		for to := from; to <= len(texts); to++ {
			impl.ParsePuzzle(texts[from:to])
			if to <= len(lines) {
				impl.DoesFit(impl.Clue{Kind: 1, A: 1}, lines[from:to])
				impl.MakePuzzle(lines[from:to], 6, 77)
			}
			if lines != keptLines || texts != keptTexts {
				t.Fatalf("a call changed its texts to %q and %q", lines, texts)
			}
		}
	}
}
