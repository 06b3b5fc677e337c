package tests

import (
	"slices"
	"testing"

	"loop.example/g01271/impl"
)

// Promise 4: chapter 4 on valid arguments.

func TestLimitsOfGames(t *testing.T) {
	if impl.MaxPlayed != 10 || impl.MaxSummed != 3 {
		t.Error("MaxPlayed, MaxSummed", impl.MaxPlayed, impl.MaxSummed)
	}
}

// checkFirst holds what is told of a line and the player who moves first against what is wanted.
func checkFirst(t *testing.T, w string, toads bool, wins bool, best, play []impl.Move, games ending) {
	t.Helper()
	if told, ok := impl.WinsMoving(w, toads); told != wins || !ok {
		t.Errorf("WinsMoving %q %v: %v %v, want %v", w, toads, told, ok, wins)
	}
	if moves, ok := impl.BestMoves(w, toads); !sameMoves(moves, best) || !ok {
		t.Errorf("BestMoves %q %v: %v %v, want %v", w, toads, moves, ok, best)
	}
	var first impl.Move
	if len(play) > 0 {
		first = play[0]
	}
	if m, ok := impl.GameMove(w, toads); m != first || ok != (len(play) > 0) {
		t.Errorf("GameMove %q %v: %v %v, want %v", w, toads, m, ok, first)
	}
	if moves, ok := impl.GamePlay(w, toads); !sameMoves(moves, play) || !ok {
		t.Errorf("GamePlay %q %v: %v %v, want %v", w, toads, moves, ok, play)
	}
	checkGames(t, w, toads, games)
}

func checkGames(t *testing.T, w string, toads bool, games ending) {
	t.Helper()
	if n, ok := impl.LongestGame(w, toads); n != games.longest || !ok {
		t.Errorf("LongestGame %q %v: %d %v, want %d", w, toads, n, ok, games.longest)
	}
	if n, ok := impl.ShortestGame(w, toads); n != games.shortest || !ok {
		t.Errorf("ShortestGame %q %v: %d %v, want %d", w, toads, n, ok, games.shortest)
	}
	if n, ok := impl.CountGames(w, toads); n != games.plays || !ok {
		t.Errorf("CountGames %q %v: %d %v, want %d", w, toads, n, ok, games.plays)
	}
}

// checkOutcome holds what is told of a line, whoever begins, against what is wanted.
func checkOutcome(t *testing.T, w, outcome string, freeToads, freeFrogs int) {
	t.Helper()
	if told, ok := impl.OutcomeOf(w); told != outcome || !ok {
		t.Errorf("OutcomeOf %q: %q %v, want %q", w, told, ok, outcome)
	}
	if is, ok := impl.IsNothing(w); is != (outcome == "2") || !ok {
		t.Errorf("IsNothing %q: %v %v", w, is, ok)
	}
	if toads, frogs, ok := impl.FreeMoves(w); toads != freeToads || frogs != freeFrogs || !ok {
		t.Errorf("FreeMoves %q: %d %d %v, want %d %d", w, toads, frogs, ok, freeToads, freeFrogs)
	}
}

func TestGamesOfAllShortLinesAndSomeOfTenCells(t *testing.T) {
	book := newGameBook()
	for _, w := range append(linesUpTo(6), tenCells()...) {
		checkOutcome(t, w, book.outcomeOf(w), book.freeMoves(w, true), book.freeMoves(w, false))
		for _, toads := range []bool{true, false} {
			checkFirst(t, w, toads, book.winsSum([]string{w}, toads), book.bestMoves(w, toads), book.gamePlay(w, toads), book.gamesOf(w, toads))
		}
	}
}

// TestGamesThatAreTried finds each game of short lines by trying.
func TestGamesThatAreTried(t *testing.T) {
	for _, w := range append(linesUpTo(5), "TT..FF", "TTT.FFF", "T...F", "TTT..FF") {
		for _, toads := range []bool{true, false} {
			games := allGames(w, toads, nil)
			want := ending{len(games[0]), len(games[0]), len(games)}
			for _, moves := range games {
				want.longest = max(want.longest, len(moves))
				want.shortest = min(want.shortest, len(moves))
			}
			checkGames(t, w, toads, want)
		}
	}
}

// TestNamedGames names what is told of lines if one player moves first.
func TestNamedGames(t *testing.T) {
	for _, c := range []struct {
		line  string
		toads bool
		wins  bool
		best  []impl.Move
		play  []impl.Move
		games ending
	}{
		{"T.F", true, true, []impl.Move{{From: 0, To: 1}}, []impl.Move{{From: 0, To: 1}, {From: 2, To: 0}, {From: 1, To: 2}}, ending{3, 3, 1}},
		{"T.F", false, true, []impl.Move{{From: 2, To: 1}}, []impl.Move{{From: 2, To: 1}, {From: 0, To: 2}, {From: 1, To: 0}}, ending{3, 3, 1}},
		// Who moves first loses, and makes the first move.
		{"T..F", true, false, nil, []impl.Move{{From: 0, To: 1}, {From: 3, To: 2}, {From: 1, To: 3}, {From: 2, To: 1}}, ending{4, 4, 1}},
		{"T..F", false, false, nil, []impl.Move{{From: 3, To: 2}, {From: 0, To: 1}, {From: 2, To: 0}, {From: 1, To: 2}}, ending{4, 4, 1}},
		// No gap.
		{"TF", true, false, nil, nil, ending{0, 0, 1}},
		{"TTFF", false, false, nil, nil, ending{0, 0, 1}},
		// Blocked with a gap.
		{".TTF", true, false, nil, nil, ending{0, 0, 1}},
		{"TFF..", false, false, nil, nil, ending{0, 0, 1}},
		{"F.T", true, false, nil, nil, ending{0, 0, 1}},
		// One cell.
		{"T", true, false, nil, nil, ending{0, 0, 1}},
		{"F", false, false, nil, nil, ending{0, 0, 1}},
		{".", true, false, nil, nil, ending{0, 0, 1}},
		// One kind alone: the game ends as soon as the other player has the turn.
		{"T..", true, true, []impl.Move{{From: 0, To: 1}}, []impl.Move{{From: 0, To: 1}}, ending{1, 1, 1}},
		{"T..", false, false, nil, nil, ending{0, 0, 1}},
		{"..F", true, false, nil, nil, ending{0, 0, 1}},
		{"..F", false, true, []impl.Move{{From: 2, To: 1}}, []impl.Move{{From: 2, To: 1}}, ending{1, 1, 1}},
		{"T.T.", true, true, []impl.Move{{From: 0, To: 1}, {From: 2, To: 3}}, []impl.Move{{From: 0, To: 1}}, ending{1, 1, 2}},
		// Only one player can move at first; the other one may behind that.
		{"T.TF", true, true, []impl.Move{{From: 0, To: 1}}, []impl.Move{{From: 0, To: 1}}, ending{1, 1, 1}},
		{"TF.", true, false, nil, []impl.Move{{From: 0, To: 2}, {From: 1, To: 0}}, ending{2, 2, 1}},
		{"TF.", false, false, nil, nil, ending{0, 0, 1}},
		{".TF", false, false, nil, []impl.Move{{From: 2, To: 0}, {From: 1, To: 2}}, ending{2, 2, 1}},
		// MaxPlayed cells.
		{"T.........", true, true, []impl.Move{{From: 0, To: 1}}, []impl.Move{{From: 0, To: 1}}, ending{1, 1, 1}},
		{".........F", false, true, []impl.Move{{From: 9, To: 8}}, []impl.Move{{From: 9, To: 8}}, ending{1, 1, 1}},
		{"..........", true, false, nil, nil, ending{0, 0, 1}},
		{"TTTTTFFFFF", true, false, nil, nil, ending{0, 0, 1}},
	} {
		checkFirst(t, c.line, c.toads, c.wins, c.best, c.play, c.games)
	}
}

func TestNamedOutcomes(t *testing.T) {
	for _, c := range []struct {
		line, outcome string
		toads, frogs  int
	}{
		{"T.F", "1", 1, 1},
		{"TT.F", "1", 2, 1},
		{"TT.FF", "1", 2, 2},
		{"T..F", "2", 2, 2},
		{"T.F.T", "T", 2, 1},
		{"F.T.F", "F", 1, 2},
		// Who jumps alone does so over one after the other.
		{"TF.F.", "F", 2, 1},
		{".TF.F", "F", 1, 3},
		// No gap, blocked, one cell.
		{"TF", "2", 0, 0},
		{"FT", "2", 0, 0},
		{".TTF", "2", 0, 0},
		{"TFF.", "2", 0, 0},
		{"T", "2", 0, 0},
		{"F", "2", 0, 0},
		{".", "2", 0, 0},
		// One kind alone.
		{"T.", "T", 1, 0},
		{".F", "F", 0, 1},
		{"TT..", "T", 4, 0},
		{"..FF", "F", 0, 4},
		{".T", "2", 0, 0},
		{"F.", "2", 0, 0},
		{"TTT", "2", 0, 0},
		// One player alone can move.
		{"TF.", "2", 1, 0},
		{".TF", "2", 0, 1},
		{"T.TF", "T", 1, 1},
		// MaxPlayed cells.
		{"T.........", "T", 9, 0},
		{".........F", "F", 0, 9},
		{"TTTTT.....", "T", 25, 0},
		{"TTTTTFFFFF", "2", 0, 0},
		{"..........", "2", 0, 0},
		{"TTT....FFF", "1", 12, 12},
	} {
		checkOutcome(t, c.line, c.outcome, c.toads, c.frogs)
	}
}

// checkSum holds what is told of a sum against what is wanted.
func checkSum(t *testing.T, lines []string, toads, frogs bool) {
	t.Helper()
	if wins, ok := impl.WinsSum(lines, true); wins != toads || !ok {
		t.Errorf("WinsSum %q by toads: %v %v, want %v", lines, wins, ok, toads)
	}
	if wins, ok := impl.WinsSum(lines, false); wins != frogs || !ok {
		t.Errorf("WinsSum %q by frogs: %v %v, want %v", lines, wins, ok, frogs)
	}
	if outcome, ok := impl.OutcomeOfSum(lines); outcome != outcomeOfBoth(toads, frogs) || !ok {
		t.Errorf("OutcomeOfSum %q: %q %v, want %q", lines, outcome, ok, outcomeOfBoth(toads, frogs))
	}
}

// TestSums takes all sums of one, two and three short lines, and some of MaxPlayed cells together.
func TestSums(t *testing.T) {
	sums := longSums()
	for _, w := range linesUpTo(6) {
		sums = append(sums, []string{w})
	}
	for _, w := range linesUpTo(3) {
		for _, v := range linesUpTo(4) {
			sums = append(sums, []string{w, v})
		}
	}
	for _, w := range linesUpTo(2) {
		for _, v := range linesUpTo(2) {
			for _, u := range linesUpTo(3) {
				sums = append(sums, []string{w, v, u})
			}
		}
	}
	book := newGameBook()
	for _, lines := range sums {
		checkSum(t, lines, book.winsSum(lines, true), book.winsSum(lines, false))
	}
}

func TestNamedSums(t *testing.T) {
	for _, c := range []struct {
		lines        []string
		toads, frogs bool
	}{
		{[]string{"T.F"}, true, true},
		{[]string{"T..F"}, false, false},
		{[]string{"."}, false, false},
		// Whoever begins, the other one answers in the line like it.
		{[]string{"T.F", "T.F"}, false, false},
		{[]string{"T.", ".F"}, false, false},
		{[]string{"T..", ".F"}, true, false},
		{[]string{"T.", "..F"}, false, true},
		{[]string{"T.F", "T."}, true, false},
		{[]string{"T.F", ".F"}, false, true},
		// Nobody moves from one line into the next one, nor over its end.
		{[]string{"T", "."}, false, false},
		{[]string{".", "F"}, false, false},
		{[]string{"TF", "."}, false, false},
		{[]string{"T", "F."}, false, false},
		{[]string{".T", "F"}, false, false},
		{[]string{"T", "F", "."}, false, false},
		{[]string{".", "T", "F"}, false, false},
		// MaxSummed lines.
		{[]string{"T", "F", "T"}, false, false},
		{[]string{"T.F", "T.F", "T.F"}, true, true},
		{[]string{"T..", ".F", ".F"}, false, false},
		{[]string{"T..", ".F", "T.F"}, true, false},
		{[]string{"T...", "..F", ".F"}, false, false},
		// MaxPlayed cells.
		{[]string{"T....", "....F"}, false, false},
		{[]string{"T.....", "...F"}, true, false},
		{[]string{"TTTTT....."}, true, false},
	} {
		checkSum(t, c.lines, c.toads, c.frogs)
	}
}

// TestSumsInAnyOrder turns the lines of sums around, puts lines in which nobody can move beside them, and tells them from the other side.
func TestSumsInAnyOrder(t *testing.T) {
	for _, lines := range longSums() {
		want, _ := impl.OutcomeOfSum(lines)
		turned := slices.Clone(lines)
		slices.Reverse(turned)
		if outcome, ok := impl.OutcomeOfSum(turned); outcome != want || !ok {
			t.Errorf("OutcomeOfSum %q: %q %v, but %q of %q", turned, outcome, ok, want, lines)
		}
		var others []string
		for _, w := range lines {
			others = append(others, otherOf(w))
		}
		back := map[string]string{"1": "1", "2": "2", "F": "T", "T": "F"}[want]
		if outcome, ok := impl.OutcomeOfSum(others); outcome != back || !ok {
			t.Errorf("OutcomeOfSum %q: %q %v, want %q", others, outcome, ok, back)
		}
	}
	for _, w := range linesUpTo(4) {
		want, _ := impl.OutcomeOf(w)
		for _, lines := range [][]string{{w}, {w, "."}, {"TF", w}, {"F", w, "T"}, {".TTF", w, "F."}} {
			if outcome, ok := impl.OutcomeOfSum(lines); outcome != want || !ok {
				t.Errorf("OutcomeOfSum %q: %q %v, want %q", lines, outcome, ok, want)
			}
		}
	}
}

// checkCompared checks how w and v compare, and v and w.
func checkCompared(t *testing.T, w, v, sign string) {
	t.Helper()
	if told, ok := impl.CompareGames(w, v); told != sign || !ok {
		t.Errorf("CompareGames %q %q: %q %v, want %q", w, v, told, ok, sign)
	}
	turned := map[string]string{"=": "=", "|": "|", "<": ">", ">": "<"}[sign]
	if told, ok := impl.CompareGames(v, w); told != turned || !ok {
		t.Errorf("CompareGames %q %q: %q %v, want %q", v, w, told, ok, turned)
	}
}

func TestCompareGames(t *testing.T) {
	book := newGameBook()
	compare := func(w, v string) {
		checkCompared(t, w, v, signOfOutcome(book.outcomeOf(w, otherOf(v))))
	}
	for _, w := range linesUpTo(3) {
		for _, v := range linesUpTo(4) {
			compare(w, v)
		}
	}
	for _, lines := range longSums() {
		if len(lines) == 2 {
			compare(lines[0], lines[1])
		}
	}
}

func TestNamedComparing(t *testing.T) {
	for _, c := range []struct{ w, v, sign string }{
		{"T.F", ".", "|"},
		{"T.F", "T.F", "="},
		{"T..", "T.", ">"},
		{".F", "T.", "<"},
		{".F", ".", "<"},
		{".", ".", "="},
		{"T", "F", "="},
		{"TF.", ".", "="},
		{"T..F", "TTFF", "="},
		{"T.F", "T.", "<"},
		{"T.F", ".F", ">"},
		{"TT.F", "T.F", ">"},
		{"T.FF", "T.F", "<"},
		// MaxPlayed cells together.
		{"T........", ".", ">"},
		{".", "T........", "<"},
		{"T....", "TT..T", "="},
		{"TT.FF", "TT.FF", "="},
		{"T....", "....F", ">"},
	} {
		checkCompared(t, c.w, c.v, c.sign)
	}
}

// TestLinesAreEqualToThemselves compares lines with themselves, and with lines in which nobody can move.
func TestLinesAreEqualToThemselves(t *testing.T) {
	for _, w := range linesUpTo(5) {
		checkCompared(t, w, w, "=")
		outcome, _ := impl.OutcomeOf(w)
		checkCompared(t, w, ".", signOfOutcome(outcome))
	}
}

func TestWholeValue(t *testing.T) {
	book := newGameBook()
	for _, w := range linesUpTo(5) {
		value, has := book.wholeOf(w)
		if n, ok := impl.WholeValue(w); n != value || ok != has {
			t.Errorf("WholeValue %q: %d %v, want %d %v", w, n, ok, value, has)
		}
	}
}

func TestNamedWholeValues(t *testing.T) {
	for _, c := range []struct {
		line  string
		value int
		has   bool
	}{
		{"T..", 2, true},
		{".F", -1, true},
		{"T", 0, true},
		{"F", 0, true},
		{".", 0, true},
		{"T..F", 0, true},
		{"TTFF", 0, true},
		{"TF.", 0, true},
		{"T.", 1, true},
		{"T...", 3, true},
		{"...F", -3, true},
		// A size of 4, with one animal and with more.
		{"T....", 4, true},
		{"....F", -4, true},
		{"TT..", 4, true},
		{"..FF", -4, true},
		{"TTTT.", 4, true},
		{".FFFF", -4, true},
		{"T..T.", 4, true},
		// A size of more than 4.
		{"TT...", 0, false},
		{"...FF", 0, false},
		{"TTT..", 0, false},
		{"..FFF", 0, false},
		{"T.T..", 0, false},
		{"..F.F", 0, false},
		// Other games than numbers.
		{"T.F", 0, false},
		{"TT.F", 0, false},
		{"TT.FF", 0, false},
	} {
		if n, ok := impl.WholeValue(c.line); n != c.value || ok != c.has {
			t.Errorf("WholeValue %q: %d %v, want %d %v", c.line, n, ok, c.value, c.has)
		}
	}
}

// TestWholeValuesAddUp checks that sums of lines that have values go out as the sums of these, and that lines compare as they do.
func TestWholeValuesAddUp(t *testing.T) {
	for _, w := range linesUpTo(4) {
		n, has := impl.WholeValue(w)
		if !has {
			continue
		}
		for _, v := range append(linesUpTo(3), "T....", "....F", "TT..", "..FF") {
			k, has := impl.WholeValue(v)
			if !has {
				continue
			}
			if outcome, ok := impl.OutcomeOfSum([]string{w, v}); outcome != [3]string{"F", "2", "T"}[1+signum(n+k)] || !ok {
				t.Errorf("OutcomeOfSum %q %q: %q %v, with values %d and %d", w, v, outcome, ok, n, k)
			}
			checkCompared(t, w, v, [3]string{"<", "=", ">"}[1+signum(n-k)])
		}
	}
}

func signum(n int) int {
	return max(-1, min(1, n))
}

func TestCountOutcomes(t *testing.T) {
	book := newGameBook()
	for cells := 1; cells <= 7; cells++ {
		counted := map[[3]int][4]int{}
		for _, w := range textsOf(".FT", cells) {
			many := counted[countsOf(w)]
			many[map[string]int{"1": 0, "2": 1, "F": 2, "T": 3}[book.outcomeOf(w)]]++
			counted[countsOf(w)] = many
		}
		for n, want := range counted {
			checkCounted(t, n[0], n[1], n[2], want)
		}
	}
}

func checkCounted(t *testing.T, toads, gaps, frogs int, want [4]int) {
	t.Helper()
	if many, ok := impl.CountOutcomes(toads, gaps, frogs); !slices.Equal(many, want[:]) || !ok {
		t.Errorf("CountOutcomes %d %d %d: %v %v, want %v", toads, gaps, frogs, many, ok, want)
	}
}

func TestNamedCounts(t *testing.T) {
	for _, c := range []struct {
		toads, gaps, frogs int
		want               [4]int
	}{
		// Of T.F, of .TF, F.T and TF., of .FT, and of FT.
		{1, 1, 1, [4]int{1, 3, 1, 1}},
		{1, 0, 0, [4]int{0, 1, 0, 0}},
		{0, 1, 0, [4]int{0, 1, 0, 0}},
		{0, 0, 1, [4]int{0, 1, 0, 0}},
		{2, 1, 0, [4]int{0, 1, 0, 2}},
		{0, 1, 2, [4]int{0, 1, 2, 0}},
		{2, 0, 2, [4]int{0, 6, 0, 0}},
		{7, 0, 0, [4]int{0, 1, 0, 0}},
		{0, 7, 0, [4]int{0, 1, 0, 0}},
		{0, 0, 7, [4]int{0, 1, 0, 0}},
		{1, 6, 0, [4]int{0, 1, 0, 6}},
		{0, 6, 1, [4]int{0, 1, 6, 0}},
		{4, 0, 3, [4]int{0, 35, 0, 0}},
	} {
		checkCounted(t, c.toads, c.gaps, c.frogs, c.want)
	}
}

// TestOutcomesAreThoseOfBothWhoMoveFirst checks the words of promise 4 on what the calls tell alone.
func TestOutcomesAreThoseOfBothWhoMoveFirst(t *testing.T) {
	for _, w := range append(linesUpTo(6), tenCells()...) {
		toads, _ := impl.WinsMoving(w, true)
		frogs, _ := impl.WinsMoving(w, false)
		outcome, ok := impl.OutcomeOf(w)
		if outcome != outcomeOfBoth(toads, frogs) || !ok {
			t.Errorf("OutcomeOf %q: %q %v, but toads %v, frogs %v", w, outcome, ok, toads, frogs)
		}
		if is, ok := impl.IsNothing(w); is != (!toads && !frogs) || !ok {
			t.Errorf("IsNothing %q: %v %v, but toads %v, frogs %v", w, is, ok, toads, frogs)
		}
		checkBest(t, w, true, toads)
		checkBest(t, w, false, frogs)
	}
}

// checkBest checks that just the best moves leave the other one without a win, and that the play tells who wins.
func checkBest(t *testing.T, w string, toads, wins bool) {
	t.Helper()
	best, ok := impl.BestMoves(w, toads)
	if wins != (len(best) > 0) || !ok {
		t.Errorf("BestMoves %q %v: %v %v", w, toads, best, ok)
	}
	if !slices.IsSortedFunc(best, compareMoves) {
		t.Errorf("BestMoves %q %v: %v are in no order", w, toads, best)
	}
	var moves []impl.Move
	if toads {
		moves, _ = impl.ToadMoves(w)
	} else {
		moves, _ = impl.FrogMoves(w)
	}
	for _, m := range moves {
		behind, _ := impl.MakeMove(w, m)
		otherWins, _ := impl.WinsMoving(behind, !toads)
		if otherWins == slices.Contains(best, m) {
			t.Errorf("BestMoves %q %v: %v, but behind %v the other one's win is %v", w, toads, best, m, otherWins)
		}
	}
	play, ok := impl.GamePlay(w, toads)
	if (len(play)%2 == 1) != wins || !ok {
		t.Errorf("GamePlay %q %v: %v %v, but the first one's win is %v", w, toads, play, ok, wins)
	}
	checkInTurn(t, w, toads, play)
}

func compareMoves(a, b impl.Move) int {
	if a.From != b.From {
		return a.From - b.From
	}
	return a.To - b.To
}

// checkInTurn checks that both make the GameMove each time, in turn, up to where one has no move.
func checkInTurn(t *testing.T, w string, toads bool, play []impl.Move) {
	t.Helper()
	line := w
	for k, m := range play {
		first, ok := impl.GameMove(line, toads)
		behind, can := impl.MakeMove(line, m)
		if first != m || !ok || !can || toads != (line[m.From] == 'T') {
			t.Errorf("GamePlay %q: %v, but the GameMove %d is %v", w, play, k, first)
			return
		}
		line, toads = behind, !toads
	}
	if m, ok := impl.GameMove(line, toads); ok || m != (impl.Move{}) {
		t.Errorf("GamePlay %q: %v ends, but there is %v", w, play, m)
	}
}

func TestExampleOfGames(t *testing.T) {
	for w, want := range map[string]string{"T.F": "1", "TT.F": "1", "T..F": "2"} {
		if outcome, ok := impl.OutcomeOf(w); outcome != want || !ok {
			t.Errorf("OutcomeOf %q: %q %v", w, outcome, ok)
		}
	}
	for w, want := range map[string]int{"T..": 2, ".F": -1} {
		if n, ok := impl.WholeValue(w); n != want || !ok {
			t.Errorf("WholeValue %q: %d %v", w, n, ok)
		}
	}
	if sign, ok := impl.CompareGames("T.F", "."); sign != "|" || !ok {
		t.Error("CompareGames", sign, ok)
	}
	if play, ok := impl.GamePlay("T.F", true); !sameMoves(play, []impl.Move{{From: 0, To: 1}, {From: 2, To: 0}, {From: 1, To: 2}}) || !ok {
		t.Error("GamePlay", play, ok)
	}
	if toads, frogs, ok := impl.FreeMoves("T..F"); toads != 2 || frogs != 2 || !ok {
		t.Error("FreeMoves", toads, frogs, ok)
	}
	for _, toads := range []bool{true, false} {
		if n, ok := impl.CountGames("T..F", toads); n != 1 || !ok {
			t.Error("CountGames", n, ok)
		}
	}
}
