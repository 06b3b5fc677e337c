package tests

import (
	"slices"
	"strings"
	"testing"

	"loop.example/g01271/impl"
)

// Promise 9: solutions fit all clues, and harder puzzles are solved by the same line.

// checkIsClue holds the clue against what the document tells.
func checkIsClue(t *testing.T, cells int, c impl.Clue, want bool) {
	t.Helper()
	if is := impl.IsClue(cells, c); is != want {
		t.Errorf("IsClue %d %v: %v", cells, c, is)
	}
}

func TestAllClues(t *testing.T) {
	for cells := 1; cells <= 5; cells++ {
		clues := cluesFor(cells)
		if want := []int{25, 32, 39, 46, 53}[cells-1]; len(clues) != want {
			t.Fatalf("there are %d clues of %d cells, not %d", len(clues), cells, want)
		}
		for kind := -2; kind <= 7; kind++ {
			for a := -2; a <= 13; a++ {
				for b := -2; b <= 4; b++ {
					c := impl.Clue{Kind: kind, A: a, B: b}
					checkIsClue(t, cells, c, slices.Contains(clues, c))
				}
			}
		}
	}
}

// TestFirstAndLastClues takes the first and the last value of each number, with the ones behind.
func TestFirstAndLastClues(t *testing.T) {
	for _, c := range []struct {
		cells             int
		first, last, none string
	}{
		{1, "0.0.0", "0.0.2", "0.1.0 0.0.3"},
		{5, "0.0.0", "0.4.2", "0.5.0 0.4.3"},
		{1, "1.0.0", "1.1.0", "1.2.0 1.0.1"},
		{5, "1.0.0", "1.5.0", "1.6.0 1.5.1"},
		{1, "2.0.0", "2.1.0", "2.2.0 2.0.1"},
		{5, "2.0.0", "2.5.0", "2.6.0 2.5.1"},
		{1, "3.0.0", "3.2.0", "3.3.0 3.0.1"},
		{4, "3.0.0", "3.8.0", "3.9.0 3.8.1"},
		{5, "3.0.0", "3.10.0", "3.11.0 3.10.1"},
		{1, "4.0.0", "4.10.0", "4.11.0 4.0.1"},
		{5, "4.0.0", "4.10.0", "4.11.0 4.10.1"},
		{1, "5.0.0", "5.3.0", "5.4.0 5.0.1"},
		{5, "5.0.0", "5.3.0", "5.4.0 5.3.1"},
	} {
		for _, clue := range []string{c.first, c.last} {
			checkIsClue(t, c.cells, puzzleNamed("5:" + clue).Clues[0], true)
		}
		for _, clue := range strings.Fields(c.none) {
			checkIsClue(t, c.cells, puzzleNamed("5:" + clue).Clues[0], false)
		}
	}
}

func checkFits(t *testing.T, c impl.Clue, w string, want bool) {
	t.Helper()
	if fits, ok := impl.DoesFit(c, w); fits != want || !ok {
		t.Errorf("DoesFit %v %q: %v %v", c, w, fits, ok)
	}
}

func TestNamedFits(t *testing.T) {
	for _, c := range []struct {
		clue          string
		fitting, none string
	}{
		{"0.0.0", ". .T ..... .TTFF", "T F T. TT.FF"},
		{"0.0.1", "F FT F.... FTTFF", "T . TF .FFFF"},
		{"0.0.2", "T TF T.... TTTFF", "F . FT .TTTT"},
		{"0.4.0", "..... TTFF.", "....T ....F TT.FF"},
		{"0.4.1", "TT.FF ....F", "..... FFFFT"},
		{"0.4.2", "FF.TT ....T", "..... TTTTF"},
		{"1.0.0", ". F .F FFFFF", "T T. FFFFT"},
		{"1.1.0", "T TF FFTFF", ". F TT TTFFF"},
		{"1.5.0", "TTTTT", "TTTT. FTTTT ....."},
		{"2.0.0", ". T .T TTTTT", "F F. TTFTT"},
		{"2.5.0", "FFFFF", "FFFF. TFFFF ....."},
		{"3.0.0", ". T F .T F. FF.TT TTFFF", "T. .F TF. T.F TT.FF"},
		{"3.1.0", "T. .F TF. .TF FF.FT TFT.", "T .. T.F F.T FT.FF"},
		{"3.2.0", "T.F TT.FF T..F T.T. TF.F.", "T. .F T.FT. ....."},
		{"3.3.0", "T.FT. .FT.F", "T.F TT.FF ....."},
		{"3.10.0", "", "T.FT. ..... TT.FF"},
		{"4.0.0", ". T F FT FF.TT .T.", "TF T.F TT.FF"},
		{"4.1.0", "TF T.F T...F FTFT", "FT TT.FF TFF"},
		{"4.4.0", "TT.FF TTFF", "TTFFF T.F FTFTF"},
		{"4.6.0", "TTFFF TTTFF", "TTTTF TT.FF TFTFF"},
		{"4.10.0", "", "TTFFF ....."},
		{"5.0.0", "T.F TT.F TT.FF", "T..F . T. .F"},
		{"5.1.0", ". T F T..F TF FF.TT TTFFF .....", "T.F T. .F"},
		{"5.2.0", ".F ..F ....F", "T. . T.F"},
		{"5.3.0", "T. T.. T....", ".F . T.F"},
	} {
		clue := puzzleNamed("5:" + c.clue).Clues[0]
		for _, w := range strings.Fields(c.fitting) {
			checkFits(t, clue, w, true)
		}
		for _, w := range strings.Fields(c.none) {
			// A clue of five cells may be none of fewer ones.
			if impl.IsClue(len(w), clue) {
				checkFits(t, clue, w, false)
			}
		}
	}
}

// TestAllFits takes all clues with all lines of as many cells.
func TestAllFits(t *testing.T) {
	b := newClueBook()
	for cells := 1; cells <= 5; cells++ {
		for _, c := range cluesFor(cells) {
			for _, w := range b.lines[cells] {
				checkFits(t, c, w, b.fits(c, w))
			}
		}
	}
}

// checkSolutions holds the solutions, and what is told of them alone, against those that are wanted.
func checkSolutions(t *testing.T, want toldPuzzle) {
	t.Helper()
	p, name := want.puzzle, nameOf(want.puzzle)
	many := len(want.solutions)
	first := ""
	if many > 0 {
		first = want.solutions[0]
	}
	if lines, ok := impl.Solutions(p); !slices.Equal(lines, want.solutions) || !ok {
		t.Errorf("Solutions %q: %q %v, want %q", name, lines, ok, want.solutions)
	}
	if n, ok := impl.CountSolutions(p); n != many || !ok {
		t.Errorf("CountSolutions %q: %d %v, want %d", name, n, ok, many)
	}
	if w, ok := impl.FirstSolution(p); w != first || ok != (many > 0) {
		t.Errorf("FirstSolution %q: %q %v, want %q", name, w, ok, first)
	}
	if sure, ok := impl.SureCells(p); sure != want.sure || ok != (many > 0) {
		t.Errorf("SureCells %q: %q %v, want %q", name, sure, ok, want.sure)
	}
	if solved, ok := impl.IsSolved(p); solved != (many == 1) || !ok {
		t.Errorf("IsSolved %q: %v %v with %d solutions", name, solved, ok, many)
	}
}

// checkClues holds what is told of the clues of a puzzle against what is wanted.
func checkClues(t *testing.T, want toldPuzzle) {
	t.Helper()
	p, name := want.puzzle, nameOf(want.puzzle)
	if !impl.IsPuzzle(p) {
		t.Errorf("IsPuzzle %q is false", name)
	}
	if needless, ok := impl.NeedlessClues(p); !slices.Equal(needless, want.needless) || !ok {
		t.Errorf("NeedlessClues %q: %v %v, want %v", name, needless, ok, want.needless)
	}
	if left, ok := impl.LeftByClues(p); !slices.Equal(left, want.left) || !ok {
		t.Errorf("LeftByClues %q: %v %v, want %v", name, left, ok, want.left)
	}
	if best, ok := impl.BestClue(p); best != max(want.best, 0) || ok != (want.best >= 0) {
		t.Errorf("BestClue %q: %d %v, want %d", name, best, ok, want.best)
	}
	var harder impl.Puzzle
	if want.harder != "" {
		harder = puzzleNamed(want.harder)
	}
	if q, ok := impl.HarderPuzzle(p); !samePuzzle(q, harder) || ok != (want.harder != "") {
		t.Errorf("HarderPuzzle %q: %v %v, want %q", name, q, ok, want.harder)
	}
}

func TestNamedPuzzles(t *testing.T) {
	for _, told := range namedPuzzles() {
		checkSolutions(t, told)
		checkClues(t, told)
	}
}

// TestNamedPuzzlesAsTold holds the helpers themselves against the named puzzles.
func TestNamedPuzzlesAsTold(t *testing.T) {
	b := newClueBook()
	for _, want := range namedPuzzles() {
		told := b.tell(want.puzzle)
		if !slices.Equal(told.solutions, want.solutions) || !slices.Equal(told.needless, want.needless) || !slices.Equal(told.left, want.left) ||
			told.sure != want.sure || told.best != want.best || told.harder != want.harder {
			t.Errorf("%q is told as %v", nameOf(want.puzzle), told)
		}
	}
}

func TestSmallAndMixedPuzzles(t *testing.T) {
	b := newClueBook()
	for _, p := range append(smallPuzzles(), b.mixedPuzzles()...) {
		told := b.tell(p)
		checkSolutions(t, told)
		checkClues(t, told)
	}
}

// checkPuzzle holds a puzzle that a call returned against the one that is wanted.
func checkPuzzle(t *testing.T, call string, p impl.Puzzle, ok bool, want impl.Puzzle) {
	t.Helper()
	if !samePuzzle(p, want) || !ok {
		t.Errorf("%s: %q %v, want %q", call, nameOf(p), ok, nameOf(want))
	}
}

// checkChanged drops each clue of a puzzle, and adds some.
func checkChanged(t *testing.T, p impl.Puzzle) {
	t.Helper()
	name := nameOf(p)
	for k := range p.Clues {
		want := impl.Puzzle{Cells: p.Cells, Clues: slices.Delete(slices.Clone(p.Clues), k, k+1)}
		q, ok := impl.DropClue(p, k)
		checkPuzzle(t, "DropClue "+name, q, ok, want)
	}
	all := cluesFor(p.Cells)
	for k := 0; k < len(all); k += 5 {
		want := impl.Puzzle{Cells: p.Cells, Clues: slices.Concat(p.Clues, all[k:k+1])}
		q, ok := impl.AddClue(p, all[k])
		if len(p.Clues) < 6 {
			checkPuzzle(t, "AddClue "+name, q, ok, want)
		} else if !samePuzzle(q, impl.Puzzle{}) || ok {
			t.Errorf("AddClue %s: %q %v", name, nameOf(q), ok)
		}
	}
}

func TestChangedPuzzles(t *testing.T) {
	for _, told := range namedPuzzles() {
		checkChanged(t, told.puzzle)
	}
	for _, p := range append(smallPuzzles(), newClueBook().mixedPuzzles()...) {
		checkChanged(t, p)
	}
}

func TestNamedChangedPuzzles(t *testing.T) {
	six := "5:0.0.2,1.2.0,2.2.0,3.2.0,4.4.0,5.0.0"
	for k, want := range []string{"5:1.2.0,2.2.0,3.2.0,4.4.0,5.0.0", "5:0.0.2,2.2.0,3.2.0,4.4.0,5.0.0", "5:0.0.2,1.2.0,3.2.0,4.4.0,5.0.0", "5:0.0.2,1.2.0,2.2.0,4.4.0,5.0.0", "5:0.0.2,1.2.0,2.2.0,3.2.0,5.0.0", "5:0.0.2,1.2.0,2.2.0,3.2.0,4.4.0"} {
		p, ok := impl.DropClue(puzzleNamed(six), k)
		checkPuzzle(t, "DropClue "+six, p, ok, puzzleNamed(want))
	}
	p, ok := impl.DropClue(puzzleNamed("3:4.1.0"), 0)
	checkPuzzle(t, "DropClue of the only one", p, ok, puzzleNamed("3:"))
	// Up from no clue to MaxClues, and no farther.
	built := impl.Puzzle{Cells: 5}
	for k, c := range puzzleNamed(six).Clues {
		built, ok = impl.AddClue(built, c)
		checkPuzzle(t, "AddClue", built, ok, impl.Puzzle{Cells: 5, Clues: puzzleNamed(six).Clues[:k+1]})
	}
	if q, ok := impl.AddClue(built, impl.Clue{Kind: 1}); !samePuzzle(q, impl.Puzzle{}) || ok {
		t.Errorf("AddClue of a seventh one: %q %v", nameOf(q), ok)
	}
	// The same clue is added as often as there is room.
	built = impl.Puzzle{Cells: 1}
	for k := range 6 {
		built, ok = impl.AddClue(built, impl.Clue{Kind: 0, A: 0, B: 2})
		checkPuzzle(t, "AddClue", built, ok, impl.Puzzle{Cells: 1, Clues: slices.Repeat([]impl.Clue{{Kind: 0, A: 0, B: 2}}, k+1)})
	}
}

// TestSolutionsAreAllLinesThatFit checks the words of promise 9 on what the calls tell alone: solutions fit all clues, come in order, and are all that fit.
func TestSolutionsAreAllLinesThatFit(t *testing.T) {
	b := newClueBook()
	for _, p := range b.mixedPuzzles() {
		solutions, ok := impl.Solutions(p)
		if !ok {
			t.Errorf("Solutions %q fails", nameOf(p))
		}
		checkOrder(t, "Solutions", nameOf(p), solutions)
		for _, w := range b.lines[p.Cells] {
			fits := true
			for _, c := range p.Clues {
				one, ok := impl.DoesFit(c, w)
				fits = fits && one && ok
			}
			if fits != slices.Contains(solutions, w) {
				t.Errorf("%q: the line %q fits: %v, the solutions are %q", nameOf(p), w, fits, solutions)
			}
		}
	}
}

// TestSureCellsAreThoseOfAllSolutions checks it on what the calls tell alone.
func TestSureCellsAreThoseOfAllSolutions(t *testing.T) {
	for _, p := range newClueBook().mixedPuzzles() {
		sure, ok := impl.SureCells(p)
		solutions, _ := impl.Solutions(p)
		if ok != (len(solutions) > 0) || ok && len(sure) != p.Cells {
			t.Errorf("SureCells %q: %q %v", nameOf(p), sure, ok)
		}
		for cell := range sure {
			signs := map[byte]bool{}
			for _, w := range solutions {
				signs[w[cell]] = true
			}
			if (sure[cell] == '?') != (len(signs) > 1) || sure[cell] != '?' && !signs[sure[cell]] {
				t.Errorf("SureCells %q: %q, the solutions are %q", nameOf(p), sure, solutions)
			}
		}
	}
}

// TestNeedlessCluesChangeNothing checks on what the calls tell alone that the solutions are the same without them, and others without other clues.
func TestNeedlessCluesChangeNothing(t *testing.T) {
	for _, p := range newClueBook().mixedPuzzles() {
		needless, _ := impl.NeedlessClues(p)
		if !slices.IsSorted(needless) {
			t.Errorf("NeedlessClues %q: %v", nameOf(p), needless)
		}
		solutions, _ := impl.Solutions(p)
		for k := range p.Clues {
			q, _ := impl.DropClue(p, k)
			others, ok := impl.Solutions(q)
			if slices.Equal(others, solutions) != slices.Contains(needless, k) || !ok {
				t.Errorf("%q: needless are %v, but without %d there are %q instead of %q", nameOf(p), needless, k, others, solutions)
			}
		}
	}
}

// TestLeftByCluesLeadsToTheSolutions checks on what the calls tell alone that it begins with all lines, ends with the number of solutions, and never grows.
func TestLeftByCluesLeadsToTheSolutions(t *testing.T) {
	for _, p := range newClueBook().mixedPuzzles() {
		left, ok := impl.LeftByClues(p)
		solutions, _ := impl.CountSolutions(p)
		if !ok || len(left) != len(p.Clues)+1 || left[0] != []int{3, 9, 27, 81, 243}[p.Cells-1] || left[len(left)-1] != solutions {
			t.Fatalf("LeftByClues %q: %v %v with %d solutions", nameOf(p), left, ok, solutions)
		}
		for k := range p.Clues {
			if left[k] < left[k+1] {
				t.Errorf("LeftByClues %q: %v", nameOf(p), left)
			}
			first, _ := impl.CountSolutions(impl.Puzzle{Cells: p.Cells, Clues: p.Clues[:k]})
			if first != left[k] {
				t.Errorf("LeftByClues %q: %v, but %d fit the first %d", nameOf(p), left, first, k)
			}
		}
	}
}

// TestHarderPuzzlesAreSolvedByTheSameLine checks the words of promise 9 on what the calls tell alone: no clue could be taken out of a harder puzzle, and it has no others than the puzzle, in the same order.
func TestHarderPuzzlesAreSolvedByTheSameLine(t *testing.T) {
	solved := 0
	for _, p := range newClueBook().mixedPuzzles() {
		harder, ok := impl.HarderPuzzle(p)
		if is, _ := impl.IsSolved(p); is != ok {
			t.Errorf("HarderPuzzle %q: %v, but it is solved: %v", nameOf(p), ok, is)
		}
		if !ok {
			continue
		}
		solved++
		line, _ := impl.FirstSolution(p)
		if lines, ok := impl.Solutions(harder); !slices.Equal(lines, []string{line}) || !ok {
			t.Errorf("HarderPuzzle %q is %q with %q, not %q", nameOf(p), nameOf(harder), lines, line)
		}
		if needless, ok := impl.NeedlessClues(harder); len(needless) != 0 || !ok {
			t.Errorf("HarderPuzzle %q is %q, of which %v could be taken out", nameOf(p), nameOf(harder), needless)
		}
		again, ok := impl.HarderPuzzle(harder)
		checkPuzzle(t, "HarderPuzzle again", again, ok, harder)
		rest := p.Clues
		for _, c := range harder.Clues {
			at := slices.Index(rest, c)
			if at < 0 {
				t.Fatalf("HarderPuzzle %q: %q", nameOf(p), nameOf(harder))
			}
			rest = rest[at+1:]
		}
	}
	if solved < 50 {
		t.Errorf("only %d puzzles are solved", solved)
	}
}

func checkMade(t *testing.T, w string, clues, seed int, want impl.Puzzle) {
	t.Helper()
	if p, ok := impl.MakePuzzle(w, clues, seed); !samePuzzle(p, want) || !ok {
		t.Errorf("MakePuzzle %q %d %d: %q %v, want %q", w, clues, seed, nameOf(p), ok, nameOf(want))
	}
}

// TestNamedMadePuzzles takes the first and the last seed. Behind 0 come 2281, 2942, 3252, 4987, ..: the kinds 1, 2 and 0, and the cell 4987 modulo as many as there are.
func TestNamedMadePuzzles(t *testing.T) {
	for _, c := range []struct {
		line        string
		clues, seed int
		puzzle      string
	}{
		{"T.F", 0, 0, "3:"},
		{"TTFFF", 0, 9999, "5:"},
		{"T", 1, 0, "1:1.1.0"},
		{"T.F", 1, 0, "3:1.1.0"},
		{"T.F", 3, 0, "3:1.1.0,2.1.0,0.1.0"},
		{"T.F", 6, 0, "3:1.1.0,2.1.0,0.1.0,5.0.0,5.0.0,5.0.0"},
		{"TT.FF", 6, 0, "5:1.2.0,2.2.0,0.2.0,5.0.0,5.0.0,5.0.0"},
		{".", 6, 0, "1:1.0.0,2.0.0,0.0.0,5.1.0,5.1.0,5.1.0"},
		{"T.F", 6, 9999, "3:3.2.0,1.1.0,4.1.0,1.1.0,3.2.0,1.1.0"},
		{"TT.FF", 6, 9999, "5:3.2.0,1.2.0,4.4.0,1.2.0,3.2.0,1.2.0"},
		{"F", 6, 1, "1:0.0.1,2.1.0,3.0.0,4.0.0,3.0.0,5.1.0"},
		{"TF.", 3, 77, "3:3.1.0,5.1.0,0.1.1"},
		{"..T.F", 5, 5000, "5:4.1.0,1.1.0,0.3.0,1.1.0,2.1.0"},
		{"FT", 4, 1234, "2:5.1.0,1.1.0,5.1.0,4.0.0"},
		{"T.F..", 6, 4711, "5:0.3.0,3.2.0,4.1.0,0.4.0,4.1.0,1.1.0"},
	} {
		checkMade(t, c.line, c.clues, c.seed, puzzleNamed(c.puzzle))
	}
}

// TestMadePuzzles takes all lines with some seeds, and some lines with all seeds.
func TestMadePuzzles(t *testing.T) {
	b := newClueBook()
	for k, w := range slices.Concat(b.lines[:]...) {
		for clues := 0; clues <= 6; clues++ {
			for _, seed := range []int{0, 9999, 27 * k, 5 + 25*k + clues} {
				checkMade(t, w, clues, seed, b.madeTold(w, clues, seed))
			}
		}
	}
	for _, w := range []string{"T", "FT", "T.F", "TTF.", "TT.FF"} {
		for seed := range 10000 {
			checkMade(t, w, 6, seed, b.madeTold(w, 6, seed))
		}
	}
}

// TestMadePuzzlesAreFitByTheirLine checks on what the calls tell alone that a made puzzle has so many clues, all of which its line fits.
func TestMadePuzzlesAreFitByTheirLine(t *testing.T) {
	for k, w := range linesUpTo(5) {
		for clues := 0; clues <= 6; clues++ {
			p, ok := impl.MakePuzzle(w, clues, 27*k+clues)
			if !ok || !impl.IsPuzzle(p) || p.Cells != len(w) || len(p.Clues) != clues {
				t.Errorf("MakePuzzle %q %d: %q %v", w, clues, nameOf(p), ok)
			}
			for _, c := range p.Clues {
				checkFits(t, c, w, true)
			}
			if solutions, ok := impl.Solutions(p); !slices.Contains(solutions, w) || !ok {
				t.Errorf("MakePuzzle %q %d: %q has the solutions %q", w, clues, nameOf(p), solutions)
			}
		}
	}
}

// checkText holds a puzzle against its text, both ways.
func checkText(t *testing.T, p impl.Puzzle, text string) {
	t.Helper()
	if s, ok := impl.PuzzleText(p); s != text || !ok {
		t.Errorf("PuzzleText %v: %q %v, want %q", p, s, ok, text)
	}
	q, ok := impl.ParsePuzzle(text)
	checkPuzzle(t, "ParsePuzzle "+text, q, ok, p)
}

func TestNamedTextsOfPuzzles(t *testing.T) {
	checkText(t, impl.Puzzle{Cells: 1}, "1:")
	checkText(t, impl.Puzzle{Cells: 5, Clues: []impl.Clue{}}, "5:")
	checkText(t, impl.Puzzle{Cells: 2, Clues: []impl.Clue{{Kind: 0, A: 1, B: 2}}}, "2:0.1.2")
	checkText(t, impl.Puzzle{Cells: 3, Clues: []impl.Clue{{Kind: 1, A: 1}, {Kind: 2, A: 1}, {Kind: 4, A: 1}}}, "3:1.1.0,2.1.0,4.1.0")
	checkText(t, impl.Puzzle{Cells: 5, Clues: []impl.Clue{{Kind: 3, A: 10}, {Kind: 4, A: 10}}}, "5:3.10.0,4.10.0")
	checkText(t, impl.Puzzle{Cells: 4, Clues: []impl.Clue{{Kind: 5, A: 3}, {Kind: 0, A: 3, B: 1}, {Kind: 1, A: 4}, {Kind: 2}, {Kind: 3, A: 8}, {Kind: 4}}}, "4:5.3.0,0.3.1,1.4.0,2.0.0,3.8.0,4.0.0")
	checkText(t, impl.Puzzle{Cells: 1, Clues: slices.Repeat([]impl.Clue{{}}, 6)}, "1:0.0.0,0.0.0,0.0.0,0.0.0,0.0.0,0.0.0")
}

func TestTextsOfPuzzlesAreReadBack(t *testing.T) {
	for _, p := range append(smallPuzzles(), newClueBook().mixedPuzzles()...) {
		checkText(t, p, nameOf(p))
	}
}

func TestExampleOfPuzzles(t *testing.T) {
	p, ok := impl.ParsePuzzle("3:1.1.0,2.1.0,4.1.0")
	checkPuzzle(t, "ParsePuzzle", p, ok, impl.Puzzle{Cells: 3, Clues: []impl.Clue{{Kind: 1, A: 1}, {Kind: 2, A: 1}, {Kind: 4, A: 1}}})
	if lines, ok := impl.Solutions(p); !slices.Equal(lines, []string{".TF", "T.F", "TF."}) || !ok {
		t.Errorf("Solutions: %q %v", lines, ok)
	}
	if sure, ok := impl.SureCells(p); sure != "???" || !ok {
		t.Errorf("SureCells: %q %v", sure, ok)
	}
	if left, ok := impl.LeftByClues(p); !slices.Equal(left, []int{27, 12, 6, 3}) || !ok {
		t.Errorf("LeftByClues: %v %v", left, ok)
	}
	q, ok := impl.AddClue(p, impl.Clue{Kind: 3, A: 2})
	checkPuzzle(t, "AddClue", q, ok, puzzleNamed("3:1.1.0,2.1.0,4.1.0,3.2.0"))
	if lines, ok := impl.Solutions(q); !slices.Equal(lines, []string{"T.F"}) || !ok {
		t.Errorf("Solutions with a clue more: %q %v", lines, ok)
	}
}
