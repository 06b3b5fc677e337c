package tests

import (
	"fmt"
	"math"
	"regexp"
	"slices"
	"strings"

	"loop.example/g01271/impl"
)

// The helpers tell puzzles again by going through all texts, out of what the helpers of lines and games tell, so that they share no idea with the program.

// mostOfKind tells the greatest A of a clue of a kind, and the greatest B, for a line of so many cells.
func mostOfKind(kind, cells int) (int, int) {
	return []int{cells - 1, cells, cells, 2 * cells, 10, 3}[kind], []int{2, 0, 0, 0, 0, 0}[kind]
}

// cluesFor returns all clues of a line of so many cells.
func cluesFor(cells int) []impl.Clue {
	var clues []impl.Clue
	for kind := range 6 {
		mostA, mostB := mostOfKind(kind, cells)
		for a := range mostA + 1 {
			for b := range mostB + 1 {
				clues = append(clues, impl.Clue{Kind: kind, A: a, B: b})
			}
		}
	}
	return clues
}

// badCluesFor returns clues that are none of a line of so many cells: each number in turn is outside what is asked, with the first and last values of the others.
func badCluesFor(cells int) []impl.Clue {
	var bad []impl.Clue
	for _, kind := range []int{math.MinInt, math.MinInt32, -6, -1, 6, 7, 12, math.MaxInt32, math.MaxInt} {
		for _, a := range []int{0, 1, 3, math.MinInt, math.MaxInt} {
			bad = append(bad, impl.Clue{Kind: kind, A: a}, impl.Clue{Kind: kind, A: a, B: 1})
		}
	}
	for kind := range 6 {
		mostA, mostB := mostOfKind(kind, cells)
		for _, b := range []int{0, mostB} {
			for _, a := range []int{math.MinInt, math.MinInt + 1, -1 << 32, -1, mostA + 1, mostA + 2, 1 << 32, math.MaxInt - 1, math.MaxInt} {
				bad = append(bad, impl.Clue{Kind: kind, A: a, B: b})
			}
		}
		for _, a := range []int{0, mostA} {
			for _, b := range []int{math.MinInt, math.MinInt + 1, -1 << 32, -1, mostB + 1, mostB + 2, 3, 1 << 32, math.MaxInt - 1, math.MaxInt} {
				bad = append(bad, impl.Clue{Kind: kind, A: a, B: b})
			}
		}
	}
	return bad
}

// puzzleNamed returns the puzzle of a text like "3:1.1.0,2.1.0".
func puzzleNamed(text string) impl.Puzzle {
	cells, clues, _ := strings.Cut(text, ":")
	p := impl.Puzzle{Cells: numberNamed(cells)}
	for _, clue := range strings.FieldsFunc(clues, func(sign rune) bool { return sign == ',' }) {
		numbers := strings.Split(clue, ".")
		p.Clues = append(p.Clues, impl.Clue{Kind: numberNamed(numbers[0]), A: numberNamed(numbers[1]), B: numberNamed(numbers[2])})
	}
	return p
}

// nameOf returns the text of a puzzle, or of one that is none.
func nameOf(p impl.Puzzle) string {
	text := fmt.Sprintf("%d:", p.Cells)
	for k, c := range p.Clues {
		if k > 0 {
			text += ","
		}
		text += fmt.Sprintf("%d.%d.%d", c.Kind, c.A, c.B)
	}
	return text
}

// puzzleOfWords has the texts whose numbers and signs are those of a puzzle, but for what they tell of.
var puzzleOfWords = regexp.MustCompile(`^[1-5]:(([0-5]\.([0-9]|10)\.[0-2])(,[0-5]\.([0-9]|10)\.[0-2]){0,5})?$`)

// isNamed reports whether a text is that of a puzzle.
func isNamed(s string) bool {
	if !puzzleOfWords.MatchString(s) {
		return false
	}
	p := puzzleNamed(s)
	for _, c := range p.Clues {
		if !slices.Contains(cluesFor(p.Cells), c) {
			return false
		}
	}
	return true
}

func samePuzzle(p, q impl.Puzzle) bool {
	return p.Cells == q.Cells && slices.Equal(p.Clues, q.Clues)
}

// A clueBook keeps all lines, and what has been told of each of them: how many toads, frogs, moves and pairs it has, and the index of its outcome, each in the place of its kind.
type clueBook struct {
	games  gameBook
	lines  [6][]string
	values map[string][6]int
}

func newClueBook() clueBook {
	b := clueBook{games: newGameBook(), values: map[string][6]int{}}
	for cells := 1; cells <= 5; cells++ {
		b.lines[cells] = textsOf(".FT", cells)
		for _, w := range b.lines[cells] {
			outcome := map[string]int{"1": 0, "2": 1, "F": 2, "T": 3}[b.games.outcomeOf(w)]
			b.values[w] = [6]int{-1, strings.Count(w, "T"), strings.Count(w, "F"), len(changesOf(w)), pairsOf(w), outcome}
		}
	}
	return b
}

func (b clueBook) fits(c impl.Clue, w string) bool {
	if c.Kind == 0 {
		return w[c.A:c.A+1] == []string{".", "F", "T"}[c.B]
	}
	return b.values[w][c.Kind] == c.A
}

// clueOf returns the clue of a kind that a line fits, which is the one of a cell if it is of the kind 0, found among all clues.
func (b clueBook) clueOf(w string, kind, cell int) impl.Clue {
	for _, c := range cluesFor(len(w)) {
		if c.Kind == kind && (kind != 0 || c.A == cell) && b.fits(c, w) {
			return c
		}
	}
	return impl.Clue{Kind: -1}
}

// linesFor returns the lines that fit all those of some clues that are kept.
func (b clueBook) linesFor(p impl.Puzzle, kept []bool) []string {
	var lines []string
	for _, w := range b.lines[p.Cells] {
		fits := true
		for k, c := range p.Clues {
			fits = fits && (!kept[k] || b.fits(c, w))
		}
		if fits {
			lines = append(lines, w)
		}
	}
	return lines
}

// keeping tells of each of so many clues whether it is kept, as the function tells.
func keeping(clues int, keeps func(k int) bool) []bool {
	kept := make([]bool, clues)
	for k := range kept {
		kept[k] = keeps(k)
	}
	return kept
}

// A toldPuzzle is a puzzle with all that is told of it: best is -1 if there are no clues, and harder has a text if it is solved.
type toldPuzzle struct {
	puzzle    impl.Puzzle
	solutions []string
	sure      string
	needless  []int
	left      []int
	best      int
	harder    string
}

// sureOf looks at what all lines have in each cell.
func sureOf(lines []string) string {
	sure := ""
	for cell := 0; len(lines) > 0 && cell < len(lines[0]); cell++ {
		signs := ""
		for _, w := range lines {
			signs += w[cell : cell+1]
		}
		if strings.Trim(signs, signs[:1]) == "" {
			sure += signs[:1]
		} else {
			sure += "?"
		}
	}
	return sure
}

// harderOf takes out clues, from the first one on.
func (b clueBook) harderOf(p impl.Puzzle) string {
	kept := keeping(len(p.Clues), func(int) bool { return true })
	harder := impl.Puzzle{Cells: p.Cells}
	for k, c := range p.Clues {
		kept[k] = false
		if len(b.linesFor(p, kept)) != 1 {
			kept[k] = true
			harder.Clues = append(harder.Clues, c)
		}
	}
	return nameOf(harder)
}

// tell tells of a puzzle out of the lines for some of its clues.
func (b clueBook) tell(p impl.Puzzle) toldPuzzle {
	many := len(p.Clues)
	told := toldPuzzle{puzzle: p, best: -1}
	told.solutions = b.linesFor(p, keeping(many, func(int) bool { return true }))
	told.sure = sureOf(told.solutions)
	fewest := math.MaxInt
	for k := range p.Clues {
		others := b.linesFor(p, keeping(many, func(other int) bool { return other != k }))
		if len(others) == len(told.solutions) {
			told.needless = append(told.needless, k)
		}
		if alone := b.linesFor(p, keeping(many, func(other int) bool { return other == k })); len(alone) < fewest {
			told.best, fewest = k, len(alone)
		}
	}
	for k := range many + 1 {
		told.left = append(told.left, len(b.linesFor(p, keeping(many, func(other int) bool { return other < k }))))
	}
	if len(told.solutions) == 1 {
		told.harder = b.harderOf(p)
	}
	return told
}

// madeTold makes a puzzle as the document tells.
func (b clueBook) madeTold(w string, clues, seed int) impl.Puzzle {
	p := impl.Puzzle{Cells: len(w)}
	z := seed
	next := func(modulo int) int {
		z = (167*z + 2281) % 10007
		return z % modulo
	}
	for len(p.Clues) < clues {
		kind, cell := next(6), -1
		if kind == 0 {
			cell = next(len(w))
		}
		p.Clues = append(p.Clues, b.clueOf(w, kind, cell))
	}
	return p
}

// smallPuzzles returns all puzzles of up to three clues of 1 cell, of two of 2 cells, and of one of 3 up to 5 cells.
func smallPuzzles() []impl.Puzzle {
	var puzzles []impl.Puzzle
	for cells := 1; cells <= 5; cells++ {
		level := []impl.Puzzle{{Cells: cells}}
		for range max(1, 4-cells) {
			puzzles = append(puzzles, level...)
			var longer []impl.Puzzle
			for _, p := range level {
				for _, c := range cluesFor(cells) {
					longer = append(longer, impl.Puzzle{Cells: cells, Clues: slices.Concat(p.Clues, []impl.Clue{c})})
				}
			}
			level = longer
		}
		puzzles = append(puzzles, level...)
	}
	return puzzles
}

// mixedPuzzles returns puzzles of all numbers of cells and of clues: of any clues, of clues that a line fits, and of such ones some of which are there twice. All are chosen by numbers that follow a rule.
func (b clueBook) mixedPuzzles() []impl.Puzzle {
	z := 1
	choose := func(many int) int {
		z = (z*1103 + 12345) % 99991
		return z % many
	}
	var puzzles []impl.Puzzle
	for cells := 1; cells <= 5; cells++ {
		for clues := 0; clues <= 6; clues++ {
			for round := range 12 {
				w := b.lines[cells][choose(len(b.lines[cells]))]
				p := impl.Puzzle{Cells: cells}
				for len(p.Clues) < clues {
					switch all := cluesFor(cells); {
					case round%4 == 0:
						p.Clues = append(p.Clues, all[choose(len(all))])
					case round%4 == 3 && len(p.Clues) > 0 && choose(2) == 0:
						p.Clues = append(p.Clues, p.Clues[choose(len(p.Clues))])
					default:
						p.Clues = append(p.Clues, b.clueOf(w, choose(6), choose(cells)))
					}
				}
				puzzles = append(puzzles, p)
			}
		}
	}
	return puzzles
}

// namedPuzzles returns puzzles with what is told of them.
func namedPuzzles() []toldPuzzle {
	told := func(puzzle, solutions, sure string, needless, left []int, best int, harder string) toldPuzzle {
		return toldPuzzle{puzzleNamed(puzzle), strings.Fields(solutions), sure, needless, left, best, harder}
	}
	return []toldPuzzle{
		// Without a clue.
		told("1:", ". F T", "?", nil, []int{3}, -1, ""),
		told("2:", ".. .F .T F. FF FT T. TF TT", "??", nil, []int{9}, -1, ""),
		// One cell: no, one and several solutions.
		told("1:0.0.0", ".", ".", nil, []int{3, 1}, 0, "1:0.0.0"),
		told("1:0.0.1", "F", "F", nil, []int{3, 1}, 0, "1:0.0.1"),
		told("1:0.0.2", "T", "T", nil, []int{3, 1}, 0, "1:0.0.2"),
		told("1:0.0.2,0.0.1", "", "", nil, []int{3, 1, 0}, 0, ""),
		told("1:1.0.0", ". F", "?", nil, []int{3, 2}, 0, ""),
		told("1:3.0.0", ". F T", "?", []int{0}, []int{3, 3}, 0, ""),
		told("1:3.1.0", "", "", nil, []int{3, 0}, 0, ""),
		told("1:1.0.0,2.0.0,3.0.0,4.0.0,5.1.0,0.0.0", ".", ".", []int{0, 1, 2, 3, 4, 5}, []int{3, 2, 1, 1, 1, 1, 1}, 5, "1:0.0.0"),
		// The same clue twice, and as often as can be.
		told("1:1.1.0,1.1.0", "T", "T", []int{0, 1}, []int{3, 1, 1}, 0, "1:1.1.0"),
		told("2:4.1.0,4.1.0", "TF", "TF", []int{0, 1}, []int{9, 1, 1}, 0, "2:4.1.0"),
		told("5:4.6.0,4.6.0", "TTFFF TTTFF", "TT?FF", []int{0, 1}, []int{243, 2, 2}, 0, ""),
		told("3:2.3.0,2.3.0,2.3.0,2.3.0,2.3.0,2.3.0", "FFF", "FFF", []int{0, 1, 2, 3, 4, 5}, []int{27, 1, 1, 1, 1, 1, 1}, 0, "3:2.3.0"),
		// The same clues in other orders.
		told("2:0.0.2,0.1.1,4.1.0", "TF", "TF", []int{0, 1, 2}, []int{9, 3, 1, 1}, 2, "2:4.1.0"),
		told("2:4.1.0,0.0.2,0.1.1", "TF", "TF", []int{0, 1, 2}, []int{9, 1, 1, 1}, 0, "2:0.0.2,0.1.1"),
		told("3:4.1.0,1.1.0,2.1.0,0.1.0", "T.F", "T.F", []int{1, 2}, []int{27, 5, 4, 3, 1}, 0, "3:4.1.0,0.1.0"),
		told("3:0.1.0,1.1.0,2.1.0,4.1.0", "T.F", "T.F", []int{1, 2}, []int{27, 9, 4, 2, 1}, 3, "3:0.1.0,4.1.0"),
		// No clue is needless, and all best ones are as good.
		told("3:4.0.0,1.1.0,2.1.0,0.1.0", "F.T", "F.T", nil, []int{27, 20, 7, 3, 1}, 3, "3:4.0.0,1.1.0,2.1.0,0.1.0"),
		told("2:2.1.0,1.1.0,4.0.0", "FT", "FT", nil, []int{9, 4, 2, 1}, 0, "2:2.1.0,1.1.0,4.0.0"),
		told("4:0.0.0,0.1.0,0.2.0,0.3.0", "....", "....", nil, []int{81, 27, 9, 3, 1}, 0, "4:0.0.0,0.1.0,0.2.0,0.3.0"),
		told("5:0.4.1,0.3.1,0.2.0,0.1.2,0.0.2", "TT.FF", "TT.FF", nil, []int{243, 81, 27, 9, 3, 1}, 0, "5:0.4.1,0.3.1,0.2.0,0.1.2,0.0.2"),
		// A clue that no line fits is best, and makes the others needless.
		told("3:1.1.0,4.7.0,2.1.0", "", "", []int{0, 2}, []int{27, 12, 0, 0}, 1, ""),
		told("5:4.7.0", "", "", nil, []int{243, 0}, 0, ""),
		told("4:3.8.0,1.0.0", "", "", []int{1}, []int{81, 0, 0}, 0, ""),
		// One clue is enough.
		told("3:5.0.0", "T.F", "T.F", nil, []int{27, 1}, 0, "3:5.0.0"),
		told("3:1.3.0", "TTT", "TTT", nil, []int{27, 1}, 0, "3:1.3.0"),
		told("5:1.5.0", "TTTTT", "TTTTT", nil, []int{243, 1}, 0, "5:1.5.0"),
		// The outcomes of lines of three cells.
		told("3:5.1.0", "... ..T .TF .TT F.. F.T FF. FFF FFT FTF FTT TF. TFF TFT TTF TTT", "???", nil, []int{27, 16}, 0, ""),
		told("3:5.2.0", "..F .F. .FF .FT F.F", "???", nil, []int{27, 5}, 0, ""),
		told("3:5.3.0", ".T. FT. T.. T.T TT.", "???", nil, []int{27, 5}, 0, ""),
		// More cells and clues.
		told("5:4.6.0,0.0.2,0.1.2,0.2.1,0.3.1,0.4.1", "TTFFF", "TTFFF", []int{0, 1, 2, 4, 5}, []int{243, 2, 2, 2, 1, 1, 1}, 0, "5:0.0.2,0.1.2,0.2.1,0.3.1,0.4.1"),
		told("5:0.0.2,0.1.2,0.2.0,0.3.1,0.4.1,5.0.0", "TT.FF", "TT.FF", []int{1, 2, 3, 5}, []int{243, 81, 27, 9, 3, 1, 1}, 5, "5:0.0.2,0.2.0,0.3.1,0.4.1,5.0.0"),
		told("5:5.0.0,3.2.0,1.2.0,2.2.0,4.4.0", "TT.FF", "TT.FF", []int{1, 2, 3}, []int{243, 16, 16, 7, 6, 1}, 4, "5:5.0.0,4.4.0"),
		// The example.
		told("3:1.1.0,2.1.0,4.1.0", ".TF T.F TF.", "???", nil, []int{27, 12, 6, 3}, 2, ""),
		told("3:1.1.0,2.1.0,4.1.0,3.2.0", "T.F", "T.F", []int{0, 1, 2}, []int{27, 12, 6, 3, 1}, 3, "3:3.2.0"),
	}
}
