package tests

import (
	"slices"
	"testing"

	"loop.example/g01271/impl"
)

// Promise 5: chapter 5 on valid arguments.

// checkRuleMoves holds the moves by a rule against those that are wanted.
func checkRuleMoves(t *testing.T, w, rule string, want []impl.Move) {
	t.Helper()
	if moves, ok := impl.RuleMoves(w, ruleNamed(rule)); !sameMoves(moves, want) || !ok {
		t.Errorf("RuleMoves %q %q: %v %v, want %v", w, rule, moves, ok, want)
	}
}

func TestRuleMovesOfNamedLines(t *testing.T) {
	for _, c := range []struct{ line, rule, moves string }{
		// Slides and jumps of chapter 1.
		{"TT.FF", "-", "1-2 3-2"},
		{"T.TFF", "-", "0-1 3-1"},
		{"F.T", "-", ""},
		{"TTF.", "-", "1-3"},
		// Jumps over one's own kind, of one cell alone.
		{"TT.F", "o", "0-2 1-2 3-2"},
		{"TT.FF", "o", "0-2 1-2 3-2 4-2"},
		{"TTF.", "o", "1-3"},
		{"TTT.", "o", "1-3 2-3"},
		{".FFF", "o", "1-0 2-0"},
		{".TTT", "o", ""},
		{"FFF.", "o", ""},
		// Steps back, and jumps back.
		{"F.T", "b", "0-1 2-1"},
		{".T", "b", "1-0"},
		{"F.", "b", "0-1"},
		{".FT", "b", "1-0 2-0"},
		{"FT.", "b", "0-2 1-2"},
		{".TTT", "b", "1-0"},
		{".FFT", "b", "1-0"},
		{"F.F.T", "b", "0-1 2-1 2-3 4-3"},
		// One animal with two moves, the one to the left before the one to the right.
		{".T.", "b", "1-0 1-2"},
		{".F.", "b", "1-0 1-2"},
		{".TF..", "b", "1-0 1-3 2-0 2-3"},
		{".FT..", "b", "1-0 1-3 2-0 2-3"},
		// Long jumps over two and more of the other kind.
		{"TFF.", "l", "0-3"},
		{".TTF", "l", "3-0"},
		{"TFFF.", "l", "0-4"},
		{".TTTF", "l", "4-0"},
		{"TF.", "l", "0-2"},
		{"T.F", "l", "0-1 2-1"},
		// Not over one's own kind, not over a gap, and not to a cell that is none or no gap.
		{"TTF.", "l", "1-3"},
		{"TFTF.", "l", "2-4"},
		{".FTF", "l", "1-0"},
		{"TF.F.", "l", "0-2 3-2"},
		{"TFF", "l", ""},
		{"TTFF", "l", ""},
		{".FFT", "l", "1-0"},
		// Own and Back: jumps back over one's own kind.
		{".TTT", "ob", "1-0 2-0"},
		{"FFF.", "ob", "1-3 2-3"},
		{"F.T", "ob", "0-1 2-1"},
		{".FFT", "ob", "1-0 2-0"},
		// Own and Long: over both kinds, and over one's own alone.
		{"TTF.", "ol", "0-3 1-3"},
		{"TFTF.", "ol", "0-4 2-4"},
		{".FTF", "ol", "1-0 3-0"},
		{"TTT.", "ol", "0-3 1-3 2-3"},
		{".TTT", "ol", ""},
		{"TTF.TFF", "ol", "0-3 1-3 5-3 6-3"},
		// Back and Long: long jumps back, over the other kind alone.
		{".FFT", "bl", "1-0 3-0"},
		{"FTT.", "bl", "0-3 2-3"},
		{"TTF.", "bl", "1-3 2-3"},
		{".FTF", "bl", "1-0 2-0"},
		// All of them.
		{"TTF.", "obl", "0-3 1-3 2-3"},
		{".FTF", "obl", "1-0 2-0 3-0"},
		{".TFT.", "obl", "1-0 1-4 2-0 2-4 3-0 3-4"},
		{"TF.FT", "obl", "0-2 1-2 3-2 4-2"},
		// MaxReach cells.
		{"TFFFFFFFF.", "-", ""},
		{"TFFFFFFFF.", "o", ""},
		{"TFFFFFFFF.", "b", "8-9"},
		{"TFFFFFFFF.", "l", "0-9"},
		{"TFFFFFFFF.", "ob", "7-9 8-9"},
		{"TFFFFFFFF.", "ol", "0-9"},
		{"TFFFFFFFF.", "bl", "0-9 8-9"},
		{"TFFFFFFFF.", "obl", "0-9 1-9 2-9 3-9 4-9 5-9 6-9 7-9 8-9"},
		{".FTFTFTFTF", "l", "1-0"},
		{".FTFTFTFTF", "ol", "1-0 3-0 5-0 7-0 9-0"},
		{".FTFTFTFTF", "obl", "1-0 2-0 3-0 4-0 5-0 6-0 7-0 8-0 9-0"},
		{"TTTTTTTTT.", "l", "8-9"},
		{"TTTTTTTTT.", "ol", "0-9 1-9 2-9 3-9 4-9 5-9 6-9 7-9 8-9"},
		{".TTTTTTTTF", "l", "9-0"},
	} {
		checkRuleMoves(t, c.line, c.rule, movesNamed(c.moves))
	}
}

// TestNoMovesByAnyRule takes lines with no gap, without anybody, and of one cell.
func TestNoMovesByAnyRule(t *testing.T) {
	for _, w := range []string{"T", "F", ".", "TF", "FT", "TT", "FF", "..", "TTFF", "FFTT", "TFTF", "....", "TTTTTTTTTT", "FFFFFFFFFF", "..........", "TTTTTFFFFF", "FTFTFTFTFT"} {
		for _, rule := range ruleTexts() {
			checkRuleMoves(t, w, rule, nil)
			checkFarthest(t, w, rule, w, 0, 1)
			checkBothWays(t, w, rule, true)
		}
	}
}

func TestRuleMovesOfAllLines(t *testing.T) {
	for _, book := range ruleBooks() {
		for _, w := range append(linesUpTo(7), tenCells()...) {
			checkRuleMoves(t, w, book.text, book.movesOf(w))
		}
		for k, w := range textsOf(".FT", 10) {
			if k%17 == 0 {
				checkRuleMoves(t, w, book.text, book.movesOf(w))
			}
		}
	}
}

// checkByRule holds what is said of one move against the line behind it, the empty text if it cannot be made.
func checkByRule(t *testing.T, w string, m impl.Move, rule, behind string) {
	t.Helper()
	r := ruleNamed(rule)
	can := behind != ""
	if told, ok := impl.CanByRule(w, m, r); told != can || !ok {
		t.Errorf("CanByRule %q %v %q: %v %v, want %v", w, m, rule, told, ok, can)
	}
	if line, ok := impl.MakeByRule(w, m, r); line != behind || ok != can {
		t.Errorf("MakeByRule %q %v %q: %q %v, want %q", w, m, rule, line, ok, behind)
	}
	if line, ok := impl.PlayByRule(w, []impl.Move{m}, r); line != behind || ok != can {
		t.Errorf("PlayByRule %q %v %q: %q %v, want %q", w, m, rule, line, ok, behind)
	}
}

func TestSingleMovesByRules(t *testing.T) {
	moves := edgeMoves()
	for _, book := range ruleBooks() {
		for _, w := range append(linesUpTo(4), tenCells()...) {
			behind := map[impl.Move]string{}
			for _, c := range book.changesOf(w) {
				behind[c.move] = c.behind
			}
			for _, m := range moves {
				checkByRule(t, w, m, book.text, behind[m])
			}
		}
	}
}

func TestNamedMovesByRules(t *testing.T) {
	for _, c := range []struct{ line, move, rule, behind string }{
		{"TT.F", "0-2", "o", ".TTF"},
		{"TT.F", "0-2", "-", ""},
		{"TT.F", "0-2", "bl", ""},
		{"TFF.", "0-3", "l", ".FFT"},
		{"TFF.", "0-3", "ob", ""},
		{"F.T", "0-1", "b", ".FT"},
		{"F.T", "2-1", "b", "FT."},
		{"F.T", "2-1", "ol", ""},
		{".FFT", "3-0", "bl", "TFF."},
		{".FFT", "3-0", "l", ""},
		{".FFT", "3-0", "b", ""},
		{"TTF.", "0-3", "ol", ".TFT"},
		{"TTF.", "0-3", "l", ""},
		{"TTF.", "0-3", "o", ""},
		{"TFFFFFFFF.", "0-9", "l", ".FFFFFFFFT"},
		// No animal to move, no gap to come to, and no way.
		{"T.F", "1-0", "obl", ""},
		{"T.F", "1-1", "obl", ""},
		{"T.F", "0-0", "obl", ""},
		{"T.F", "0-2", "obl", ""},
		{"T..", "0-2", "obl", ""},
		{"TF.F.", "0-4", "obl", ""},
	} {
		checkByRule(t, c.line, movesNamed(c.move)[0], c.rule, c.behind)
	}
}

// TestRuleWithNoMoreMoves holds the rule with no more moves against the chapters 1 to 3.
func TestRuleWithNoMoreMoves(t *testing.T) {
	none := impl.Rule{}
	for _, w := range append(linesUpTo(6), tenCells()...) {
		moves, _ := impl.MovesOf(w)
		checkRuleMoves(t, w, "-", moves)
		if n, ok := impl.CountReachedByRule(w, none); !ok || n != len(depthsFrom(w)) {
			t.Errorf("CountReachedByRule %q: %d %v", w, n, ok)
		}
		for _, m := range moves {
			behind, _ := impl.MakeMove(w, m)
			checkByRule(t, w, m, "-", behind)
		}
	}
	for _, w := range linesUpTo(4) {
		for _, v := range linesUpTo(4) {
			first, reached := impl.FirstPlay(w, v)
			checkShortest(t, w, v, "-", first, reached)
		}
	}
	for _, n := range swapNumbers() {
		length, exists := impl.ExchangeLength(n.toads, n.gaps, n.frogs)
		if fewest, ok := impl.FewestToExchange(n.toads, n.gaps, n.frogs, none); fewest != length || ok != exists {
			t.Errorf("FewestToExchange %v: %d %v, want %d %v", n, fewest, ok, length, exists)
		}
	}
}

// hasAll tells whether a rule has all that another one has.
func hasAll(r, less impl.Rule) bool {
	return (r.Own || !less.Own) && (r.Back || !less.Back) && (r.Long || !less.Long)
}

func TestMoreRulesHaveMoreMoves(t *testing.T) {
	for _, w := range append(linesUpTo(6), tenCells()...) {
		for _, text := range ruleTexts() {
			more := ruleNamed(text)
			all, _ := impl.RuleMoves(w, more)
			for _, less := range ruleTexts() {
				if !hasAll(more, ruleNamed(less)) {
					continue
				}
				for _, m := range movesByName(w, less) {
					if !slices.Contains(all, m) {
						t.Errorf("RuleMoves %q: %v by %q, but not by %q", w, m, less, text)
					}
				}
			}
		}
	}
}

func movesByName(w, rule string) []impl.Move {
	moves, _ := impl.RuleMoves(w, ruleNamed(rule))
	return moves
}

// checkShortest holds what is told of two lines against the first shortest play, if v is reached.
func checkShortest(t *testing.T, w, v, rule string, first []impl.Move, reached bool) {
	t.Helper()
	r := ruleNamed(rule)
	if n, ok := impl.ShortestByRule(w, v, r); n != len(first) || ok != reached {
		t.Errorf("ShortestByRule %q %q %q: %d %v, want %d %v", w, v, rule, n, ok, len(first), reached)
	}
	moves, ok := impl.FirstShortest(w, v, r)
	if !sameMoves(moves, first) || ok != reached {
		t.Errorf("FirstShortest %q %q %q: %v %v, want %v %v", w, v, rule, moves, ok, first, reached)
	}
	if is, ok := impl.ReachByRule(w, v, r); is != reached || !ok {
		t.Errorf("ReachByRule %q %q %q: %v %v, want %v", w, v, rule, is, ok, reached)
	}
	if !reached {
		return
	}
	if line, ok := impl.PlayByRule(w, moves, r); line != v || !ok {
		t.Errorf("FirstShortest %q %q %q: %v leads to %q %v", w, v, rule, moves, line, ok)
	}
}

// TestShortestOfAllShortLines takes all pairs of lines of up to four cells, of as many of each or not, and tries all plays.
func TestShortestOfAllShortLines(t *testing.T) {
	lines := linesUpTo(4)
	for _, book := range ruleBooks() {
		for _, w := range lines {
			plays := book.triedPlays(w)
			for _, v := range lines {
				first, reached := plays[v]
				checkShortest(t, w, v, book.text, first, reached)
			}
		}
	}
}

func TestShortestOfLinesOfFiveCells(t *testing.T) {
	for _, lines := range linesAlike(5) {
		for _, book := range ruleBooks() {
			for _, v := range lines {
				steps := book.stepsTo(v, lines)
				for _, w := range lines {
					_, reached := steps[w]
					checkShortest(t, w, v, book.text, book.firstWay(w, steps), reached)
				}
			}
		}
	}
}

// TestShortestOfLinesOfTenCells takes some pairs of lines, by each rule and of several numbers.
func TestShortestOfLinesOfTenCells(t *testing.T) {
	for _, n := range []numbers{{2, 6, 2}, {4, 1, 5}, {1, 8, 1}, {0, 7, 3}, {9, 1, 0}, {5, 0, 5}} {
		lines := linesAlike(10)[[3]int{n.toads, n.gaps, n.frogs}]
		for _, book := range ruleBooks() {
			for _, v := range []string{n.last(), n.first(), lines[len(lines)/3]} {
				steps := book.stepsTo(v, lines)
				for _, w := range []string{n.first(), n.last(), lines[0], lines[len(lines)/2]} {
					_, reached := steps[w]
					checkShortest(t, w, v, book.text, book.firstWay(w, steps), reached)
				}
			}
		}
	}
}

func TestNamedShortest(t *testing.T) {
	for _, c := range []struct {
		w, v, rule, first string
		reached           bool
	}{
		{"T.F", "F.T", "-", "0-1 2-0 1-2", true},
		{"T.F", "F.T", "obl", "0-1 2-0 1-2", true},
		{"TT.FF", "FF.TT", "-", "1-2 3-1 4-3 2-4 0-2 1-0 3-1 2-3", true},
		{"TT.FF", "FF.TT", "b", "1-2 3-1 4-3 2-4 0-2 1-0 3-1 2-3", true},
		{"TT.FF", "FF.TT", "l", "1-2 0-1 3-0 2-3 1-2 4-1 3-4 2-3", true},
		{"TT.FF", "FF.TT", "ol", "0-2 3-0 1-3 4-1 2-4", true},
		{"TT.FF", "FF.TT", "obl", "0-2 3-0 1-3 4-1 2-4", true},
		{"TT.", ".TT", "-", "1-2 0-1", true},
		{"TT.", ".TT", "o", "0-2", true},
		{"TTF.", "FT.T", "l", "1-3 0-1 2-0", true},
		{"TTF.", "FT.T", "ol", "0-3 2-0", true},
		// What is not reached by one rule is by another.
		{"TFF.", ".FFT", "-", "", false},
		{"TFF.", ".FFT", "o", "", false},
		{"TFF.", ".FFT", "b", "2-3 0-2 1-0 2-1 3-2 1-3 0-1", true},
		{"TFF.", ".FFT", "ob", "1-3 0-1 2-0 3-2 1-3 0-1", true},
		{"TFF.", ".FFT", "l", "0-3", true},
		{".TTF", "F.TT", "-", "", false},
		{".TTF", "F.TT", "b", "1-0 3-1 2-3 0-2 1-0", true},
		{".TTF", "F.TT", "ol", "3-0 1-3", true},
		{"F.T", "T.F", "ol", "", false},
		{"F.T", "T.F", "b", "0-1 2-0 1-2", true},
		{"TF.", ".TF", "l", "", false},
		{"TF.", ".TF", "b", "1-2 0-1", true},
		{"TTFF", "FFTT", "obl", "", false},
		// A play without a move.
		{"T.F", "T.F", "-", "", true},
		{"T.F", "T.F", "obl", "", true},
		{"F.T", "F.T", "o", "", true},
		{"TF", "TF", "b", "", true},
		{"T", "T", "l", "", true},
		{"..........", "..........", "obl", "", true},
		{"TTT....FFF", "TTT....FFF", "b", "", true},
		// Other numbers of toads, gaps and frogs.
		{"T.F", "T.T", "obl", "", false},
		{"T.F", "T..", "obl", "", false},
		{"T.F", "T.F.", "obl", "", false},
		{"T.", "T", "obl", "", false},
		{"T", "F", "obl", "", false},
		{"T........F", "T........T", "b", "", false},
		{"T", "..........", "obl", "", false},
		// MaxReach cells.
		{"TTTTTTTTT.", ".TTTTTTTTT", "-", "8-9 7-8 6-7 5-6 4-5 3-4 2-3 1-2 0-1", true},
		{"TTTTTTTTT.", ".TTTTTTTTT", "o", "7-9 5-7 3-5 1-3 0-1", true},
		{"TTTTTTTTT.", ".TTTTTTTTT", "ol", "0-9", true},
		{".TTTTTTTTT", "TTTTTTTTT.", "bl", "1-0 2-1 3-2 4-3 5-4 6-5 7-6 8-7 9-8", true},
		{".TTTTTTTTT", "TTTTTTTTT.", "obl", "9-0", true},
		{".TTTTTTTTT", "TTTTTTTTT.", "ol", "", false},
	} {
		checkShortest(t, c.w, c.v, c.rule, movesNamed(c.first), c.reached)
	}
}

// checkFarthest holds the farthest line, how many moves lead there, and how many lines are reached against what is wanted.
func checkFarthest(t *testing.T, w, rule, farthest string, moves, reached int) {
	t.Helper()
	r := ruleNamed(rule)
	if line, n, ok := impl.FarthestByRule(w, r); line != farthest || n != moves || !ok {
		t.Errorf("FarthestByRule %q %q: %q %d %v, want %q %d", w, rule, line, n, ok, farthest, moves)
	}
	if n, ok := impl.CountReachedByRule(w, r); n != reached || !ok {
		t.Errorf("CountReachedByRule %q %q: %d %v, want %d", w, rule, n, ok, reached)
	}
}

func checkBothWays(t *testing.T, w, rule string, want bool) {
	t.Helper()
	if both, ok := impl.BothWays(w, ruleNamed(rule)); both != want || !ok {
		t.Errorf("BothWays %q %q: %v %v, want %v", w, rule, both, ok, want)
	}
}

// farthestOf returns the line with the most moves, the first one of several.
func farthestOf(depths map[string]int) string {
	farthest := ""
	for w, moves := range depths {
		if farthest == "" || moves > depths[farthest] || moves == depths[farthest] && w < farthest {
			farthest = w
		}
	}
	return farthest
}

// comesBack tells whether each line that is reached reaches w again.
func (b ruleBook) comesBack(w string) bool {
	for v := range b.depthsFrom(w) {
		if _, reached := b.depthsFrom(v)[w]; !reached {
			return false
		}
	}
	return true
}

func TestReachingByRulesOfAllShortLinesAndSomeOfTenCells(t *testing.T) {
	for _, book := range ruleBooks() {
		for _, w := range append(linesUpTo(6), tenCells()...) {
			depths := book.depthsFrom(w)
			farthest := farthestOf(depths)
			checkFarthest(t, w, book.text, farthest, depths[farthest], len(depths))
			if len(w) <= 5 {
				checkBothWays(t, w, book.text, book.comesBack(w))
			}
		}
	}
}

// TestBackIsBothWays checks that all moves can be undone by each rule with Back, and that none can be by the others.
func TestBackIsBothWays(t *testing.T) {
	for _, rule := range ruleTexts() {
		r := ruleNamed(rule)
		for _, w := range append(linesUpTo(6), tenCells()...) {
			moves, _ := impl.RuleMoves(w, r)
			checkBothWays(t, w, rule, r.Back || len(moves) == 0)
			for _, m := range moves {
				behind, _ := impl.MakeByRule(w, m, r)
				back := ""
				if r.Back {
					back = w
				}
				checkByRule(t, behind, impl.Move{From: m.To, To: m.From}, rule, back)
			}
		}
	}
}

func TestNamedReachingByRules(t *testing.T) {
	for _, c := range []struct {
		line, rule, farthest string
		moves, reached       int
		bothWays             bool
	}{
		{"T.F", "-", "F.T", 3, 6, false},
		{"T.F", "obl", "F.T", 3, 6, true},
		{"TT.FF", "-", "FF.TT", 8, 23, false},
		// Of .FFTT, FF.TT and FFTT., which take eight moves each, the first one.
		{"TT.FF", "b", ".FFTT", 8, 30, true},
		{"TT.FF", "l", "FF.TT", 8, 30, false},
		{"TT.FF", "ol", "FF.TT", 5, 30, false},
		{"TT.F", "l", "F.TT", 5, 12, false},
		{"TT.F", "ol", ".FTT", 3, 12, false},
		{"TFF.", "-", "TFF.", 0, 1, true},
		{"TFF.", "o", "TFF.", 0, 1, true},
		{"TFF.", "l", "FF.T", 3, 4, false},
		{"TFF.", "bl", "FFT.", 4, 12, true},
		{"F.T", "-", "F.T", 0, 1, true},
		{"F.T", "ol", "F.T", 0, 1, true},
		{"F.T", "b", "T.F", 3, 6, true},
		{"T..", "o", "..T", 2, 3, false},
		{".T.", "-", "..T", 1, 2, false},
		// Of ..T and T.., which take one move each, the first one.
		{".T.", "b", "..T", 1, 3, true},
		{".F.", "b", "..F", 1, 3, true},
		{"TTT....FFF", "-", "FFF....TTT", 33, 3724, false},
		{"TTT....FFF", "ob", "FFF....TTT", 24, 4200, true},
		{"TTT....FFF", "ol", "F.F.F..TTT", 11, 4200, false},
		{"TTT....FFF", "obl", "F.F.F..TTT", 11, 4200, true},
		{"TTTTT.FFFF", "b", "FFFFTTTTT.", 32, 1260, true},
		{"TTTTT.FFFF", "ob", ".FFFFTTTTT", 30, 1260, true},
		{"TTTTTTTTT.", "o", ".TTTTTTTTT", 5, 10, false},
		{"TTTTTTTTT.", "obl", ".TTTTTTTTT", 1, 10, true},
	} {
		checkFarthest(t, c.line, c.rule, c.farthest, c.moves, c.reached)
		checkBothWays(t, c.line, c.rule, c.bothWays)
	}
}

// checkRuleCounts holds what is told of all lines with some numbers against what is wanted, fewest being -1 if there is no exchange.
func checkRuleCounts(t *testing.T, n numbers, rule string, fewest, stuck, parts int) {
	t.Helper()
	r := ruleNamed(rule)
	if told, ok := impl.FewestToExchange(n.toads, n.gaps, n.frogs, r); told != max(0, fewest) || ok != (fewest >= 0) {
		t.Errorf("FewestToExchange %v %q: %d %v, want %d", n, rule, told, ok, fewest)
	}
	if told, ok := impl.CountStuck(n.toads, n.gaps, n.frogs, r); told != stuck || !ok {
		t.Errorf("CountStuck %v %q: %d %v, want %d", n, rule, told, ok, stuck)
	}
	if told, ok := impl.PartsByRule(n.toads, n.gaps, n.frogs, r); told != parts || !ok {
		t.Errorf("PartsByRule %v %q: %d %v, want %d", n, rule, told, ok, parts)
	}
}

// TestRuleCounts takes all numbers that are together in 1..8.
func TestRuleCounts(t *testing.T) {
	for cells := 1; cells <= 8; cells++ {
		for count, lines := range linesAlike(cells) {
			n := numbers{count[0], count[1], count[2]}
			for _, book := range ruleBooks() {
				stuck := 0
				for _, w := range lines {
					if len(book.changesOf(w)) == 0 {
						stuck++
					}
				}
				fewest, reached := book.depthsFrom(n.first())[n.last()]
				if !reached {
					fewest = -1
				}
				checkRuleCounts(t, n, book.text, fewest, stuck, book.partsOf(lines))
			}
		}
	}
}

func TestNamedRuleCounts(t *testing.T) {
	for _, c := range []struct {
		numbers
		rule                 string
		fewest, stuck, parts int
	}{
		{numbers{1, 1, 1}, "-", 3, 1, 1},
		{numbers{1, 1, 1}, "obl", 3, 0, 1},
		{numbers{2, 1, 2}, "-", 8, 5, 1},
		{numbers{2, 1, 2}, "o", 8, 5, 1},
		{numbers{2, 1, 2}, "b", 8, 0, 1},
		{numbers{2, 1, 2}, "l", 8, 1, 1},
		{numbers{2, 1, 2}, "ol", 5, 1, 1},
		{numbers{2, 2, 2}, "-", 12, 6, 1},
		{numbers{2, 2, 2}, "o", 10, 6, 1},
		{numbers{2, 2, 2}, "obl", 6, 0, 1},
		{numbers{2, 1, 0}, "o", 1, 1, 1},
		// One cell: the first line is the last one.
		{numbers{1, 0, 0}, "-", 0, 1, 1},
		{numbers{0, 1, 0}, "obl", 0, 1, 1},
		{numbers{0, 0, 1}, "b", 0, 1, 1},
		// No gap: each line is a part of its own.
		{numbers{1, 0, 1}, "obl", -1, 2, 2},
		{numbers{4, 0, 4}, "obl", -1, 70, 70},
		{numbers{4, 0, 4}, "-", -1, 70, 70},
		{numbers{3, 0, 0}, "b", 0, 1, 1},
		// Eight together.
		{numbers{4, 1, 3}, "-", 19, 37, 1},
		{numbers{4, 1, 3}, "l", 19, 1, 1},
		{numbers{4, 1, 3}, "ol", 7, 1, 1},
		{numbers{4, 1, 3}, "bl", 19, 0, 1},
		{numbers{7, 1, 0}, "-", 7, 1, 1},
		{numbers{7, 1, 0}, "ob", 4, 0, 1},
		{numbers{7, 1, 0}, "obl", 1, 0, 1},
		{numbers{1, 1, 6}, "ol", 3, 1, 1},
		{numbers{8, 0, 0}, "obl", 0, 1, 1},
		{numbers{0, 8, 0}, "obl", 0, 1, 1},
		{numbers{0, 0, 8}, "obl", 0, 1, 1},
	} {
		checkRuleCounts(t, c.numbers, c.rule, c.fewest, c.stuck, c.parts)
	}
}

// TestShortestPlaysLeadThere checks the words of promise 5 on what the calls tell alone: all lines behind fewer moves are others.
func TestShortestPlaysLeadThere(t *testing.T) {
	for _, rule := range ruleTexts() {
		r := ruleNamed(rule)
		for _, w := range []string{"TT.FF", "T..F", ".TTF", "F.FT", "TF.TF", "FF.TT", "TTT.FF", ".T.F."} {
			level := map[string]bool{w: true}
			seen := map[string]bool{w: true}
			for moves := 0; len(level) > 0; moves++ {
				next := map[string]bool{}
				for line := range level {
					first, ok := impl.FirstShortest(w, line, r)
					if behind, made := impl.PlayByRule(w, first, r); len(first) != moves || !ok || behind != line || !made {
						t.Errorf("FirstShortest %q %q %q: %v %v leads to %q, want %d moves", w, line, rule, first, ok, behind, moves)
					}
					for _, m := range movesByName(line, rule) {
						if behind, _ := impl.MakeByRule(line, m, r); !seen[behind] {
							seen[behind] = true
							next[behind] = true
						}
					}
				}
				level = next
			}
			if n, ok := impl.CountReachedByRule(w, r); n != len(seen) || !ok {
				t.Errorf("CountReachedByRule %q %q: %d %v, want %d", w, rule, n, ok, len(seen))
			}
		}
	}
}

// TestPlaysByRules makes up to 100 moves and one more, and tries one that cannot be made at each place.
func TestPlaysByRules(t *testing.T) {
	for _, book := range ruleBooks() {
		for _, w := range append(linesUpTo(4), tenCells()...) {
			line := w
			var moves []impl.Move
			for len(moves) <= 100 {
				behind, ok := impl.PlayByRule(w, moves, book.rule)
				if behind != line || !ok {
					t.Errorf("PlayByRule %q %v %q: %q %v, want %q", w, moves, book.text, behind, ok, line)
				}
				bad := [4]impl.Move{{}, {From: -1, To: 0}, {From: 10, To: 9}, {From: 2, To: 2}}[len(moves)%4]
				behind, ok = impl.PlayByRule(w, append(moves[:len(moves):len(moves)], bad), book.rule)
				if behind != "" || ok {
					t.Errorf("PlayByRule %q %v and %v %q: %q %v", w, moves, bad, book.text, behind, ok)
				}
				changes := book.changesOf(line)
				if len(changes) == 0 {
					break
				}
				c := changes[len(moves)%len(changes)]
				moves = append(moves, c.move)
				line = c.behind
			}
			if len(moves) > 100 {
				if behind, ok := impl.PlayByRule(w, moves, book.rule); behind != "" || ok {
					t.Errorf("PlayByRule %q of %d moves %q: %q %v", w, len(moves), book.text, behind, ok)
				}
			}
		}
	}
}

func TestNamedPlaysByRules(t *testing.T) {
	for _, c := range []struct{ line, moves, rule, behind string }{
		{"T.F", "", "-", "T.F"},
		{"T", "", "obl", "T"},
		{"TTT....FFF", "", "b", "TTT....FFF"},
		{"T.F", "0-1 1-0", "b", "T.F"},
		{"T.F", "0-1 1-0", "ol", ""},
		{"TT.FF", "0-2 3-0 1-3 4-1 2-4", "ol", "FF.TT"},
		{"TT.FF", "0-2 3-0 1-3 4-1 2-4", "ob", ""},
		{"TT.FF", "0-2 3-0 1-3 4-1 2-4 2-4", "ol", ""},
		{"TFF.", "0-3 3-0", "bl", "TFF."},
		{"TFF.", "0-3 3-0", "l", ""},
		{"T.F", "1-2", "obl", ""},
		{"T.F", "2-1 1-2 1-2", "b", ""},
	} {
		line, ok := impl.PlayByRule(c.line, movesNamed(c.moves), ruleNamed(c.rule))
		if line != c.behind || ok != (c.behind != "") {
			t.Errorf("PlayByRule %q %q %q: %q %v, want %q", c.line, c.moves, c.rule, line, ok, c.behind)
		}
	}
}

// TestHundredMovesByRule goes to and fro, up to 100 moves and over.
func TestHundredMovesByRule(t *testing.T) {
	moves := slices.Repeat(movesNamed("0-1 1-0"), 51)
	for n := 0; n <= 102; n++ {
		want := [2]string{"T.", ".T"}[n%2]
		if n > 100 {
			want = ""
		}
		if line, ok := impl.PlayByRule("T.", moves[:n], ruleNamed("b")); line != want || ok != (n <= 100) {
			t.Errorf("PlayByRule of %d moves: %q %v, want %q", n, line, ok, want)
		}
	}
}

func TestRuleTextIsReadBack(t *testing.T) {
	for _, text := range ruleTexts() {
		r := ruleNamed(text)
		if told, ok := impl.RuleText(r); told != text || !ok {
			t.Errorf("RuleText %v: %q %v, want %q", r, told, ok, text)
		}
		if told, ok := impl.ParseRule(text); told != r || !ok {
			t.Errorf("ParseRule %q: %v %v, want %v", text, told, ok, r)
		}
	}
}

// TestRulesOfNames names the fields of rules one by one.
func TestRulesOfNames(t *testing.T) {
	for _, c := range []struct {
		rule impl.Rule
		text string
	}{
		{impl.Rule{}, "-"},
		{impl.Rule{Own: true}, "o"},
		{impl.Rule{Back: true}, "b"},
		{impl.Rule{Long: true}, "l"},
		{impl.Rule{Own: true, Back: true}, "ob"},
		{impl.Rule{Own: true, Long: true}, "ol"},
		{impl.Rule{Back: true, Long: true}, "bl"},
		{impl.Rule{Own: true, Back: true, Long: true}, "obl"},
	} {
		if text, ok := impl.RuleText(c.rule); text != c.text || !ok {
			t.Errorf("RuleText %v: %q %v, want %q", c.rule, text, ok, c.text)
		}
		if rule, ok := impl.ParseRule(c.text); rule != c.rule || !ok {
			t.Errorf("ParseRule %q: %v %v, want %v", c.text, rule, ok, c.rule)
		}
	}
}

func TestOrderOfRuleMoves(t *testing.T) {
	for _, rule := range ruleTexts() {
		for _, w := range append(linesUpTo(6), tenCells()...) {
			moves := movesByName(w, rule)
			for k := 1; k < len(moves); k++ {
				if compareMoves(moves[k-1], moves[k]) >= 0 {
					t.Errorf("RuleMoves %q %q: %v is before %v", w, rule, moves[k-1], moves[k])
				}
			}
		}
	}
}

func TestExampleOfRules(t *testing.T) {
	checkRuleMoves(t, "TT.F", "o", []impl.Move{{From: 0, To: 2}, {From: 1, To: 2}, {From: 3, To: 2}})
	checkRuleMoves(t, "TFF.", "l", []impl.Move{{From: 0, To: 3}})
	checkRuleMoves(t, "F.T", "b", []impl.Move{{From: 0, To: 1}, {From: 2, To: 1}})
	for _, rule := range ruleTexts() {
		if n, ok := impl.FewestToExchange(1, 1, 1, ruleNamed(rule)); n != 3 || !ok {
			t.Errorf("FewestToExchange 1 1 1 %q: %d %v", rule, n, ok)
		}
	}
	for _, rule := range []string{"b", "ob", "bl", "obl"} {
		for _, w := range []string{"TT.F", "TFF.", "F.T", "TT.FF"} {
			checkBothWays(t, w, rule, true)
		}
	}
}
