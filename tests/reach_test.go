package tests

import (
	"sort"
	"testing"

	"loop.example/g01271/impl"
)

// Promise 3: chapter 3 on valid arguments.

func TestLimitOfReaching(t *testing.T) {
	if impl.MaxReach != 10 {
		t.Error("MaxReach", impl.MaxReach)
	}
}

// checkLineLists holds the lists of lines that are told of one line against those that are wanted.
func checkLineLists(t *testing.T, w string, reached, deadEnds []string) {
	t.Helper()
	if lines, ok := impl.ReachedFrom(w); !sameTexts(lines, reached) || !ok {
		t.Errorf("ReachedFrom %q: %q %v, want %q", w, lines, ok, reached)
	}
	if n, ok := impl.CountReached(w); n != len(reached) || !ok {
		t.Errorf("CountReached %q: %d %v, want %d", w, n, ok, len(reached))
	}
	if lines, ok := impl.DeadEnds(w); !sameTexts(lines, deadEnds) || !ok {
		t.Errorf("DeadEnds %q: %q %v, want %q", w, lines, ok, deadEnds)
	}
}

// checkEnding holds what is told of the end of plays against what is wanted.
func checkEnding(t *testing.T, w string, want ending, nearest string, finishes bool) {
	t.Helper()
	if n, ok := impl.LongestPlay(w); n != want.longest || !ok {
		t.Errorf("LongestPlay %q: %d %v, want %d", w, n, ok, want.longest)
	}
	if n, ok := impl.ShortestStop(w); n != want.shortest || !ok {
		t.Errorf("ShortestStop %q: %d %v, want %d", w, n, ok, want.shortest)
	}
	if n, ok := impl.CountAllPlays(w); n != want.plays || !ok {
		t.Errorf("CountAllPlays %q: %d %v, want %d", w, n, ok, want.plays)
	}
	if line, ok := impl.NearestLine(w); line != nearest || !ok {
		t.Errorf("NearestLine %q: %q %v, want %q", w, line, ok, nearest)
	}
	if can, ok := impl.CanFinish(w); can != finishes || !ok {
		t.Errorf("CanFinish %q: %v %v, want %v", w, can, ok, finishes)
	}
}

func TestReachingOfAllShortLinesAndSomeOfTenCells(t *testing.T) {
	known := map[string]ending{}
	for _, w := range append(linesUpTo(6), tenCells()...) {
		depths := depthsFrom(w)
		reached := sortedLines(depths, func(string) bool { return true })
		checkLineLists(t, w, reached, sortedLines(depths, isDead))
		_, finishes := depths[lastOf(w)]
		checkEnding(t, w, endingOf(w, known), nearestOf(reached), finishes)
	}
}

// TestReachedLinesOfNames names lines with all that are reached.
func TestReachedLinesOfNames(t *testing.T) {
	for _, c := range []struct {
		line              string
		reached, deadEnds []string
	}{
		{"TT.F", []string{".FTT", ".TFT", ".TTF", "F.TT", "FT.T", "T.FT", "T.TF", "TF.T", "TFT.", "TT.F", "TTF."}, []string{".TTF", "F.TT"}},
		{"TF.F", []string{".FTF", "F.TF", "FF.T", "FFT.", "TF.F", "TFF."}, []string{"FF.T", "TFF."}},
		// A line of one cell is reached from itself alone, and is a dead end.
		{"T", []string{"T"}, []string{"T"}},
		{"F", []string{"F"}, []string{"F"}},
		{".", []string{"."}, []string{"."}},
		// Lines with no gap, and blocked ones with gaps.
		{"TF", []string{"TF"}, []string{"TF"}},
		{"FT", []string{"FT"}, []string{"FT"}},
		{"TTFF", []string{"TTFF"}, []string{"TTFF"}},
		{".TTF", []string{".TTF"}, []string{".TTF"}},
		{"F.T", []string{"F.T"}, []string{"F.T"}},
		{"TFF..", []string{"TFF.."}, []string{"TFF.."}},
		// Lines of one kind alone.
		{"TT..", []string{"..TT", ".T.T", ".TT.", "T..T", "T.T.", "TT.."}, []string{"..TT"}},
		{"..F", []string{"..F", ".F.", "F.."}, []string{"F.."}},
		{"...", []string{"..."}, []string{"..."}},
		{"TTT", []string{"TTT"}, []string{"TTT"}},
		// Lines of MaxReach cells.
		{"TTTTTTTT.T", []string{".TTTTTTTTT", "T.TTTTTTTT", "TT.TTTTTTT", "TTT.TTTTTT", "TTTT.TTTTT", "TTTTT.TTTT", "TTTTTT.TTT", "TTTTTTT.TT", "TTTTTTTT.T"}, []string{".TTTTTTTTT"}},
		{"F.FFFFFFFF", []string{"F.FFFFFFFF", "FF.FFFFFFF", "FFF.FFFFFF", "FFFF.FFFFF", "FFFFF.FFFF", "FFFFFF.FFF", "FFFFFFF.FF", "FFFFFFFF.F", "FFFFFFFFF."}, []string{"FFFFFFFFF."}},
		{"TTTTTFFFFF", []string{"TTTTTFFFFF"}, []string{"TTTTTFFFFF"}},
		{"FFF....TTT", []string{"FFF....TTT"}, []string{"FFF....TTT"}},
	} {
		checkLineLists(t, c.line, c.reached, c.deadEnds)
	}
}

func TestEndingsOfNames(t *testing.T) {
	for _, c := range []struct {
		line string
		ending
		nearest  string
		finishes bool
	}{
		{"TT.FF", ending{8, 2, 10}, "FF.TT", true},
		{"TT.F", ending{5, 2, 4}, "F.TT", true},
		{"T.TFF", ending{7, 1, 5}, "FF.TT", true},
		// Of F.TTF and TFF.T, which have five cells to go each, the first one is the nearest.
		{"TF.TF", ending{2, 2, 2}, "F.TTF", false},
		{"FTF.TF", ending{2, 2, 2}, "FF.TTF", false},
		// A play without a move is ended on a dead end, which may be the LastLine or not.
		{"T", ending{0, 0, 1}, "T", true},
		{"F", ending{0, 0, 1}, "F", true},
		{".", ending{0, 0, 1}, ".", true},
		{"TF", ending{0, 0, 1}, "TF", false},
		{"FT", ending{0, 0, 1}, "FT", true},
		{"TTFF", ending{0, 0, 1}, "TTFF", false},
		{".TTF", ending{0, 0, 1}, ".TTF", false},
		{"F.T", ending{0, 0, 1}, "F.T", true},
		// Lines of one kind alone.
		{"TT..", ending{4, 4, 2}, "..TT", true},
		{"..F", ending{2, 2, 1}, "F..", true},
		{"..T", ending{0, 0, 1}, "..T", true},
		{"TTT", ending{0, 0, 1}, "TTT", true},
		// Lines of MaxReach cells.
		{"TTT....FFF", ending{33, 12, 8887369559747736}, "FFF....TTT", true},
		{"TTTTT.....", ending{25, 25, 701149020}, ".....TTTTT", true},
		{"T.........", ending{9, 9, 1}, ".........T", true},
		{".TTFF.TTFF", ending{0, 0, 1}, ".TTFF.TTFF", false},
		{"TTTTTFFFFF", ending{0, 0, 1}, "TTTTTFFFFF", false},
		{"FFFFFTTTTT", ending{0, 0, 1}, "FFFFFTTTTT", true},
	} {
		checkEnding(t, c.line, c.ending, c.nearest, c.finishes)
	}
}

// checkBetween holds what is told of two lines against how many moves and plays there are, and the first play.
func checkBetween(t *testing.T, w, v string, moves, plays int, first []impl.Move) {
	t.Helper()
	if can, ok := impl.CanReach(w, v); can != (plays > 0) || !ok {
		t.Errorf("CanReach %q %q: %v %v", w, v, can, ok)
	}
	if n, ok := impl.MovesBetween(w, v); n != moves || ok != (plays > 0) {
		t.Errorf("MovesBetween %q %q: %d %v, want %d", w, v, n, ok, moves)
	}
	if n, ok := impl.CountPlays(w, v); n != plays || !ok {
		t.Errorf("CountPlays %q %q: %d %v, want %d", w, v, n, ok, plays)
	}
	if told, ok := impl.FirstPlay(w, v); !sameMoves(told, first) || ok != (plays > 0) {
		t.Errorf("FirstPlay %q %q: %v %v, want %v", w, v, told, ok, first)
	}
}

// TestBetweenAllShortLines takes all pairs of lines of up to four cells, of as many of each or not, and tries all plays.
func TestBetweenAllShortLines(t *testing.T) {
	lines := linesUpTo(4)
	for _, w := range lines {
		for _, v := range lines {
			plays := allPlays(w, v, nil)
			sort.Slice(plays, func(i, j int) bool { return lessMoves(plays[i], plays[j]) })
			if len(plays) == 0 {
				checkBetween(t, w, v, 0, 0, nil)
				continue
			}
			checkBetween(t, w, v, len(plays[0]), len(plays), plays[0])
		}
	}
}

// TestBetweenLongerLines takes lines of five and six cells with all that have as many of each.
func TestBetweenLongerLines(t *testing.T) {
	for cells := 5; cells <= 6; cells++ {
		alike := map[[3]int][]string{}
		for _, w := range textsOf(".FT", cells) {
			alike[countsOf(w)] = append(alike[countsOf(w)], w)
		}
		for _, lines := range alike {
			for _, v := range lines {
				known := map[string]int{}
				for _, w := range lines {
					plays := playsTo(w, v, known)
					if plays == 0 {
						checkBetween(t, w, v, 0, 0, nil)
						continue
					}
					first := firstWay(w, v, known)
					checkBetween(t, w, v, len(first), plays, first)
				}
			}
		}
	}
}

func TestBetweenLinesOfTenCells(t *testing.T) {
	for _, w := range tenCells() {
		depths := depthsFrom(w)
		for k, v := range sortedLines(depths, func(string) bool { return true }) {
			if k%97 != 0 && !isDead(v) && v != w {
				continue
			}
			known := map[string]int{}
			checkBetween(t, w, v, depths[v], playsTo(w, v, known), firstWay(w, v, known))
		}
		for _, v := range tenCells() {
			if _, reached := depths[v]; !reached {
				checkBetween(t, w, v, 0, 0, nil)
			}
		}
	}
}

func TestBetweenNames(t *testing.T) {
	for _, c := range []struct {
		w, v         string
		moves, plays int
		first        []impl.Move
	}{
		{"T.F", "F.T", 3, 2, []impl.Move{{From: 0, To: 1}, {From: 2, To: 0}, {From: 1, To: 2}}},
		{"TT.FF", "FF.TT", 8, 2, []impl.Move{{From: 1, To: 2}, {From: 3, To: 1}, {From: 4, To: 3}, {From: 2, To: 4}, {From: 0, To: 2}, {From: 1, To: 0}, {From: 3, To: 1}, {From: 2, To: 3}}},
		{"TT.F", "F.TT", 5, 3, []impl.Move{{From: 1, To: 2}, {From: 3, To: 1}, {From: 2, To: 3}, {From: 0, To: 2}, {From: 1, To: 0}}},
		// The slide 0 to 1 comes first, but leads to the dead end .TTFF.
		{"T.TFF", "TFT.F", 1, 1, []impl.Move{{From: 3, To: 1}}},
		// A play without a move, on a dead end too.
		{"T.F", "T.F", 0, 1, nil},
		{"F.T", "F.T", 0, 1, nil},
		{"TF", "TF", 0, 1, nil},
		{"T", "T", 0, 1, nil},
		{".", ".", 0, 1, nil},
		{"..........", "..........", 0, 1, nil},
		{"TTT....FFF", "TTT....FFF", 0, 1, nil},
		{"TTT....FFF", "FFF....TTT", 33, 8882415132483592, firstWay("TTT....FFF", "FFF....TTT", map[string]int{})},
		{"TTTTT.....", ".....TTTTT", 25, 701149020, firstWay("TTTTT.....", ".....TTTTT", map[string]int{})},
		// No way back, and lines with as many of each that are not reached.
		{"F.T", "T.F", 0, 0, nil},
		{".T", "T.", 0, 0, nil},
		{"F.", ".F", 0, 0, nil},
		{"TF", "FT", 0, 0, nil},
		{"TTFF", "FFTT", 0, 0, nil},
		{"TT.F", ".TTF", 2, 1, []impl.Move{{From: 1, To: 2}, {From: 0, To: 1}}},
		{"TTF.", ".TTF", 0, 0, nil},
		// Other numbers of toads, gaps and frogs.
		{"T.F", "T.T", 0, 0, nil},
		{"T.F", "T..", 0, 0, nil},
		{"T.F", "F.TT", 0, 0, nil},
		{"T.F", "FT", 0, 0, nil},
		{"T.", ".T.", 0, 0, nil},
		{"T", "F", 0, 0, nil},
		{"T", "..........", 0, 0, nil},
		{"TTTTTTTTT.", ".TTTTTTTT", 0, 0, nil},
	} {
		checkBetween(t, c.w, c.v, c.moves, c.plays, c.first)
	}
}

// potential tells how many moves are left: the ways to go without the pairs to pass, as each jump goes two cells and passes a pair.
func potential(w string) int {
	return wayOf(w) - pairsOf(w)
}

// TestPlaysHaveAsManyMovesAsWaysAndPairsTell checks the words of promise 3.
func TestPlaysHaveAsManyMovesAsWaysAndPairsTell(t *testing.T) {
	for _, w := range append(linesUpTo(6), tenCells()...) {
		reached, _ := impl.ReachedFrom(w)
		longest, _ := impl.LongestPlay(w)
		for k, v := range reached {
			if len(w) == 10 && k%23 != 0 && k != len(reached)-1 {
				continue
			}
			moves, ok := impl.MovesBetween(w, v)
			if moves != potential(w)-potential(v) || moves > longest || !ok {
				t.Errorf("MovesBetween %q %q: %d %v, want %d", w, v, moves, ok, potential(w)-potential(v))
			}
			checkPlay(t, w, v, moves)
		}
	}
}

// checkPlay checks that the FirstPlay leads from w to v with so many moves, of which one jumps for each pair that is passed.
func checkPlay(t *testing.T, w, v string, moves int) {
	t.Helper()
	first, ok := impl.FirstPlay(w, v)
	behind, made := impl.PlayMoves(w, first)
	if len(first) != moves || behind != v || !ok || !made {
		t.Errorf("FirstPlay %q %q: %v %v leads to %q", w, v, first, ok, behind)
		return
	}
	line, jumps := w, 0
	for _, m := range first {
		if jump, _ := impl.IsJump(line, m); jump {
			jumps++
		}
		line, _ = impl.MakeMove(line, m)
	}
	if jumps != pairsOf(w)-pairsOf(v) {
		t.Errorf("FirstPlay %q %q: %v has %d jumps", w, v, first, jumps)
	}
}

// TestAllPlaysHaveAsManyMoves tries all plays of short lines, of which each one has as many moves.
func TestAllPlaysHaveAsManyMoves(t *testing.T) {
	for _, w := range []string{"TT.FF", "T..F", "TT..F", "T.F.T", "TF.TF", "TTT.FF"} {
		ended := 0
		for v := range depthsFrom(w) {
			plays := allPlays(w, v, nil)
			for _, moves := range plays {
				if told, ok := impl.MovesBetween(w, v); told != len(moves) || !ok {
					t.Errorf("MovesBetween %q %q: %d %v, but there is %v", w, v, told, ok, moves)
				}
			}
			if count, ok := impl.CountPlays(w, v); count != len(plays) || !ok {
				t.Errorf("CountPlays %q %q: %d %v, want %d", w, v, count, ok, len(plays))
			}
			if isDead(v) {
				ended += len(plays)
			}
		}
		if count, ok := impl.CountAllPlays(w); count != ended || !ok {
			t.Errorf("CountAllPlays %q: %d %v, want %d", w, count, ok, ended)
		}
	}
}

func TestLinesBefore(t *testing.T) {
	for _, c := range []struct {
		line    string
		befores []string
	}{
		{"F.T", []string{".FT", "FT."}},
		{"T.F", nil},
		{".T", []string{"T."}},
		{"F.", []string{".F"}},
		{".FT", []string{"TF."}},
		{"FT.", []string{".TF"}},
		{"TF", nil},
		{"FT", nil},
		{"T", nil},
		{"F", nil},
		{".", nil},
		{"TT.", nil},
		{".TT", []string{"T.T"}},
		{"..T", []string{".T."}},
		// Nobody jumps over its own kind.
		{".FF", nil},
		{"TFF.", []string{"TF.F"}},
		{".TF.", []string{".T.F", "T.F."}},
		{"FF.TT", []string{"F.FTT", "FFT.T"}},
		{".FT.FT", []string{"..TFFT", ".FTTF.", "TF..FT"}},
		// Lines of MaxReach cells.
		{".........T", []string{"........T."}},
		{"F.........", []string{".F........"}},
		{"FFF....TTT", []string{"FF.F...TTT", "FFF...T.TT"}},
		{"TTTTT.FFFF", nil},
		{"TTTTTTTTTT", nil},
		{"..........", nil},
		{"FTFTFTFTFT", nil},
		{"TTTTTTF.FT", []string{"TTTTTT.FFT", "TTTTTTFTF."}},
		{"........FT", []string{".......TF."}},
	} {
		if lines, ok := impl.LinesBefore(c.line); !sameTexts(lines, c.befores) || !ok {
			t.Errorf("LinesBefore %q: %q %v, want %q", c.line, lines, ok, c.befores)
		}
	}
}

func TestLinesBeforeAllLines(t *testing.T) {
	for _, cells := range []int{1, 2, 3, 4, 5, 6, 7, 10} {
		befores := beforesOf(cells)
		for k, w := range textsOf(".FT", cells) {
			if cells == 10 && k%7 != 0 {
				continue
			}
			if lines, ok := impl.LinesBefore(w); !sameTexts(lines, befores[w]) || !ok {
				t.Errorf("LinesBefore %q: %q %v, want %q", w, lines, ok, befores[w])
			}
		}
	}
}

func TestReachedAfter(t *testing.T) {
	for _, c := range []struct {
		line  string
		moves int
		lines []string
	}{
		{"T.F", 0, []string{"T.F"}},
		{"T.F", 1, []string{".TF", "TF."}},
		{"T.F", 2, []string{".FT", "FT."}},
		{"T.F", 3, []string{"F.T"}},
		{"T.F", 4, nil},
		{"T.F", 59, nil},
		{"T.F", 60, nil},
		{"TT.F", 2, []string{".TTF", "T.FT", "TFT."}},
		{"TF", 0, []string{"TF"}},
		{"TF", 1, nil},
		{"TF", 60, nil},
		{"T", 0, []string{"T"}},
		{"T", 60, nil},
		{"TTT", 1, nil},
		{"TT..", 4, []string{"..TT"}},
		{"TTT....FFF", 0, []string{"TTT....FFF"}},
		{"TTT....FFF", 1, []string{"TT.T...FFF", "TTT...F.FF"}},
		{"TTT....FFF", 33, []string{"FFF....TTT"}},
		{"TTT....FFF", 34, nil},
		{"TTT....FFF", 60, nil},
	} {
		if lines, ok := impl.ReachedAfter(c.line, c.moves); !sameTexts(lines, c.lines) || !ok {
			t.Errorf("ReachedAfter %q %d: %q %v, want %q", c.line, c.moves, lines, ok, c.lines)
		}
	}
}

func TestReachedAfterAllNumbersOfMoves(t *testing.T) {
	for _, w := range append(linesUpTo(5), tenCells()...) {
		depths := depthsFrom(w)
		for moves := 0; moves <= 60; moves++ {
			if len(w) == 10 && moves%6 != 0 {
				continue
			}
			want := sortedLines(depths, func(v string) bool { return depths[v] == moves })
			if lines, ok := impl.ReachedAfter(w, moves); !sameTexts(lines, want) || !ok {
				t.Errorf("ReachedAfter %q %d: %q %v, want %q", w, moves, lines, ok, want)
			}
		}
	}
}

func TestOrderOfLines(t *testing.T) {
	for _, w := range append(linesUpTo(5), tenCells()...) {
		for name, f := range map[string]func(string) ([]string, bool){"ReachedFrom": impl.ReachedFrom, "LinesBefore": impl.LinesBefore, "DeadEnds": impl.DeadEnds} {
			lines, ok := f(w)
			if !ok {
				t.Errorf("%s %q fails", name, w)
			}
			checkOrder(t, name, w, lines)
		}
		for _, moves := range []int{1, 3, 10} {
			lines, ok := impl.ReachedAfter(w, moves)
			if !ok {
				t.Errorf("ReachedAfter %q %d fails", w, moves)
			}
			checkOrder(t, "ReachedAfter", w, lines)
		}
	}
}

func TestExampleOfReaching(t *testing.T) {
	checkLineLists(t, "T.F", []string{".FT", ".TF", "F.T", "FT.", "T.F", "TF."}, []string{"F.T"})
	checkBetween(t, "T.F", "F.T", 3, 2, []impl.Move{{From: 0, To: 1}, {From: 2, To: 0}, {From: 1, To: 2}})
	if lines, ok := impl.LinesBefore("F.T"); !sameTexts(lines, []string{".FT", "FT."}) || !ok {
		t.Error("LinesBefore", lines, ok)
	}
}
