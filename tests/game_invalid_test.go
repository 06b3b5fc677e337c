package tests

import (
	"math"
	"slices"
	"strings"
	"testing"

	"loop.example/g01271/impl"
)

// Promise 11 for chapter 4: all arguments are taken without a panic, invalid ones give zero values, and none is changed.

// noPlayedLines returns texts that are no lines, lines of more than MaxPlayed cells, and sums told as one text.
func noPlayedLines() []string {
	return append(noReachLines(), "/", "T./", "/.F", "T./.F", "T.F/.", "T.|.F", "T. .F", "T.,.F", "T.+.F")
}

// checkNotPlayed checks that nothing is told of a line.
func checkNotPlayed(t *testing.T, w string) {
	t.Helper()
	if outcome, ok := impl.OutcomeOf(w); outcome != "" || ok {
		t.Errorf("OutcomeOf %q: %q %v", w, outcome, ok)
	}
	if is, ok := impl.IsNothing(w); is || ok {
		t.Errorf("IsNothing %q: %v %v", w, is, ok)
	}
	if n, ok := impl.WholeValue(w); n != 0 || ok {
		t.Errorf("WholeValue %q: %d %v", w, n, ok)
	}
	if toads, frogs, ok := impl.FreeMoves(w); toads != 0 || frogs != 0 || ok {
		t.Errorf("FreeMoves %q: %d %d %v", w, toads, frogs, ok)
	}
	for _, toads := range []bool{true, false} {
		checkNoGames(t, w, toads)
	}
}

func checkNoGames(t *testing.T, w string, toads bool) {
	t.Helper()
	if wins, ok := impl.WinsMoving(w, toads); wins || ok {
		t.Errorf("WinsMoving %q %v: %v %v", w, toads, wins, ok)
	}
	if m, ok := impl.GameMove(w, toads); m != (impl.Move{}) || ok {
		t.Errorf("GameMove %q %v: %v %v", w, toads, m, ok)
	}
	for name, f := range map[string]func(string, bool) ([]impl.Move, bool){"BestMoves": impl.BestMoves, "GamePlay": impl.GamePlay} {
		if moves, ok := f(w, toads); len(moves) != 0 || ok {
			t.Errorf("%s %q %v: %v %v", name, w, toads, moves, ok)
		}
	}
	for name, f := range map[string]func(string, bool) (int, bool){"LongestGame": impl.LongestGame, "ShortestGame": impl.ShortestGame, "CountGames": impl.CountGames} {
		if n, ok := f(w, toads); n != 0 || ok {
			t.Errorf("%s %q %v: %d %v", name, w, toads, n, ok)
		}
	}
}

func TestNoPlayedLines(t *testing.T) {
	for _, w := range noPlayedLines() {
		checkNotPlayed(t, w)
	}
}

// TestNoMove takes lines in which the player who moves first has no move: GameMove alone fails.
func TestNoMove(t *testing.T) {
	for _, w := range []string{"T", "F", ".", "TF", "TTFF", ".TTF", "F.T", "..........", "TTTTTTTTTT", "FFFFFFFFFF", ".TTFF.TTFF"} {
		for _, toads := range []bool{true, false} {
			if m, ok := impl.GameMove(w, toads); m != (impl.Move{}) || ok {
				t.Errorf("GameMove %q %v: %v %v", w, toads, m, ok)
			}
			if moves, ok := impl.BestMoves(w, toads); len(moves) != 0 || !ok {
				t.Errorf("BestMoves %q %v: %v %v", w, toads, moves, ok)
			}
			if moves, ok := impl.GamePlay(w, toads); len(moves) != 0 || !ok {
				t.Errorf("GamePlay %q %v: %v %v", w, toads, moves, ok)
			}
			checkGames(t, w, toads, ending{0, 0, 1})
		}
	}
}

// badSums returns sums of no line, of more than MaxSummed lines, of more than MaxPlayed cells together, and with one line that is none.
func badSums() [][]string {
	sums := [][]string{
		nil, {}, {"T", "F", ".", "T"}, {".", ".", ".", "."}, {"T.F", "T", "F", "."}, slices.Repeat([]string{"T"}, 10), slices.Repeat([]string{"."}, 100000),
		{"TT..FF", "TT.FF"}, {"TTTTT.....", "."}, {".", ".........F"}, {"T...", "...F", "..."}, {"T........F", "", ""}, {"TTTTTTTTTTTT", "TTTTTTTTTTTT", "TTTTTTTTTTTT"},
		{"T", "TTTTTTTTT", "T"}, {"TTTTT.....", "TTTTT.....", "TTTTT....."}, {"", ""}, {"", "", ""},
	}
	for _, w := range noPlayedLines() {
		sums = append(sums, []string{w}, []string{w, "T"}, []string{"T.F", w}, []string{w, w}, []string{w, "T.", ".F"}, []string{"T.", w, ".F"}, []string{"T.", ".F", w})
	}
	return sums
}

func TestBadSums(t *testing.T) {
	for _, lines := range badSums() {
		for _, toads := range []bool{true, false} {
			if wins, ok := impl.WinsSum(lines, toads); wins || ok {
				t.Errorf("WinsSum of %d lines %.60q %v: %v %v", len(lines), lines[:min(3, len(lines))], toads, wins, ok)
			}
		}
		if outcome, ok := impl.OutcomeOfSum(lines); outcome != "" || ok {
			t.Errorf("OutcomeOfSum of %d lines %.60q: %q %v", len(lines), lines[:min(3, len(lines))], outcome, ok)
		}
	}
}

// checkNotCompared checks both ways around.
func checkNotCompared(t *testing.T, w, v string) {
	t.Helper()
	for _, pair := range [][2]string{{w, v}, {v, w}} {
		if sign, ok := impl.CompareGames(pair[0], pair[1]); sign != "" || ok {
			t.Errorf("CompareGames %q: %q %v", pair, sign, ok)
		}
	}
}

func TestInvalidComparing(t *testing.T) {
	bad := noPlayedLines()
	for k, w := range bad {
		for _, v := range []string{"T.F", "T", ".", "TTT....FFF"} {
			checkNotCompared(t, w, v)
		}
		checkNotCompared(t, w, w)
		checkNotCompared(t, w, bad[(k+1)%len(bad)])
	}
	// Lines that are valid each, with more than MaxPlayed cells together.
	for cells := 1; cells <= 10; cells++ {
		for _, signs := range []string{"TTTTTTTTTT", "..........", "FFFFFFFFFF", "T.FT.FT.FT"} {
			checkNotCompared(t, signs[:cells], "T........F"[cells-1:])
			checkNotCompared(t, signs[:cells], "TTT....FFF")
			if sign, ok := impl.CompareGames(signs[:cells], "TTT....FFF"[:10-cells]); ok != (cells < 10) || (sign == "") == ok {
				t.Errorf("CompareGames of %d and %d cells: %q %v", cells, 10-cells, sign, ok)
			}
		}
	}
}

// TestLinesTooLongForWholeValues takes lines of more than 5 cells, in which nobody can move, too.
func TestLinesTooLongForWholeValues(t *testing.T) {
	lines := append(textsOf(".FT", 6), tenCells()...)
	for cells := 6; cells <= 10; cells++ {
		for _, sign := range []string{"T", ".", "F"} {
			lines = append(lines, strings.Repeat(sign, cells))
		}
		lines = append(lines, "T."+strings.Repeat("T", cells-2), strings.Repeat(".", cells-4)+"T..T")
	}
	for _, w := range lines {
		if n, ok := impl.WholeValue(w); n != 0 || ok {
			t.Errorf("WholeValue %q: %d %v", w, n, ok)
		}
	}
}

// badCountedNumbers returns numbers below 0, all 0, of more than 7 together, and the least and greatest ones, of which some wrap around to a sum in 1..7.
func badCountedNumbers() [][3]int {
	bad := append(badCounts(),
		[3]int{8, 0, 0}, [3]int{0, 8, 0}, [3]int{0, 0, 8}, [3]int{7, 1, 0}, [3]int{0, 7, 1}, [3]int{1, 0, 7}, [3]int{3, 3, 2}, [3]int{4, 4, 4}, [3]int{12, 0, 0}, [3]int{0, 12, 0},
		[3]int{8, -1, 0}, [3]int{0, 8, -1}, [3]int{-1, 0, 8}, [3]int{-1, 4, 4}, [3]int{math.MaxInt, math.MaxInt, 9}, [3]int{9, math.MaxInt, math.MaxInt},
		[3]int{math.MinInt, 5, math.MinInt}, [3]int{math.MaxInt, math.MinInt, 5}, [3]int{5, math.MinInt, math.MaxInt})
	for _, edge := range edgeNumbers() {
		if edge < 0 || edge > 7 {
			bad = append(bad, [3]int{edge, 1, 2}, [3]int{2, edge, 1}, [3]int{1, 2, edge}, [3]int{edge, 0, 0}, [3]int{0, edge, 0}, [3]int{0, 0, edge})
		}
	}
	return bad
}

func TestBadCountedNumbers(t *testing.T) {
	for _, n := range badCountedNumbers() {
		if many, ok := impl.CountOutcomes(n[0], n[1], n[2]); len(many) != 0 || ok {
			t.Errorf("CountOutcomes %v: %v %v", n, many, ok)
		}
	}
}

// TestSumsAreNotChanged gives sums with lines behind their length, which must neither be read nor changed.
func TestSumsAreNotChanged(t *testing.T) {
	book := newGameBook()
	for _, lines := range [][]string{{"T.F"}, {"T..", "F"}, {"T.F", "TF.F", ".TF"}, {"T", "T", "T", "T"}, {"T.", "x"}, {"", "T"}} {
		for _, behind := range []string{"T.", ".F", "x", ""} {
			room := append(slices.Clone(lines), behind, behind, behind)
			kept := slices.Clone(room)
			for used := 0; used <= len(lines); used++ {
				part := room[:used]
				for _, toads := range []bool{true, false} {
					wins, ok := impl.WinsSum(part, toads)
					if valid := isSum(part); ok != valid || wins != (valid && book.winsSum(part, toads)) {
						t.Errorf("WinsSum %q %v: %v %v", part, toads, wins, ok)
					}
				}
				outcome, ok := impl.OutcomeOfSum(part)
				if valid := isSum(part); ok != valid || valid && outcome != book.outcomeOf(part...) {
					t.Errorf("OutcomeOfSum %q: %q %v", part, outcome, ok)
				}
			}
			if !slices.Equal(room, kept) {
				t.Errorf("a call with parts of %q changed them to %q", kept, room)
			}
		}
	}
}

// isSum requires lines of at most 10 cells together.
func isSum(lines []string) bool {
	return len(lines) >= 1 && len(lines) <= 3 && !slices.Contains(lines, "x") && !slices.Contains(lines, "")
}

// TestGameResultsAreNew spoils results with the room behind them, and asks again.
func TestGameResultsAreNew(t *testing.T) {
	for _, w := range []string{"TT.T...FFF", "T.T.T.T.T.", "TT..FF", "T.F"} {
		for name, f := range map[string]func(string, bool) ([]impl.Move, bool){"BestMoves": impl.BestMoves, "GamePlay": impl.GamePlay} {
			moves, _ := f(w, true)
			kept := slices.Clone(moves)
			spoil(moves)
			if again, ok := f(w, true); !sameMoves(again, kept) || !ok {
				t.Errorf("%s %q gives %v, then %v", name, w, kept, again)
			}
		}
	}
	many, _ := impl.CountOutcomes(2, 3, 2)
	kept := slices.Clone(many)
	many = many[:cap(many)]
	for k := range many {
		many[k] = -1
	}
	if again, ok := impl.CountOutcomes(2, 3, 2); !slices.Equal(again, kept) || !ok {
		t.Errorf("CountOutcomes gives %v, then %v", kept, again)
	}
}

// TestPlayedLinesAreNotChanged gives lines that are parts of a longer text, of which nothing may be changed.
func TestPlayedLinesAreNotChanged(t *testing.T) {
	text := strings.Repeat("TT.FF", 3)
	kept := strings.Clone(text)
	for from := range len(text) {
		for to := from; to <= len(text); to++ {
			w := text[from:to]
			impl.OutcomeOf(w)
			impl.IsNothing(w)
			impl.CompareGames(w, w)
			impl.WholeValue(w)
			impl.FreeMoves(w)
			for _, toads := range []bool{true, false} {
				impl.WinsMoving(w, toads)
				impl.BestMoves(w, toads)
				impl.GameMove(w, toads)
				impl.GamePlay(w, toads)
				impl.LongestGame(w, toads)
				impl.ShortestGame(w, toads)
				impl.CountGames(w, toads)
			}
			if text != kept {
				t.Fatalf("a call with %q changed its text to %q", kept[from:to], text)
			}
		}
	}
}
