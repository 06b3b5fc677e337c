package tests

import (
	"maps"
	"slices"
	"strings"
	"testing"

	"loop.example/g01271/impl"
)

// Promise 6: chapter 6 on valid arguments.

func TestTextsThatAreRings(t *testing.T) {
	for _, w := range append(ringsUpTo(7), nineCells()...) {
		if !impl.IsRing(w) {
			t.Errorf("IsRing %q", w)
		}
	}
	for cells := range 15 {
		for _, sign := range []string{"T", ".", "F"} {
			if w := strings.Repeat(sign, cells); impl.IsRing(w) != (cells >= 3 && cells <= impl.MaxRing) {
				t.Errorf("IsRing %q: %v", w, impl.IsRing(w))
			}
		}
	}
	if impl.MaxRing != 9 {
		t.Errorf("MaxRing is %d", impl.MaxRing)
	}
}

// checkRingMoves holds the moves of a ring against those that are wanted.
func checkRingMoves(t *testing.T, w string, want []impl.Move) {
	t.Helper()
	if moves, ok := impl.RingMoves(w); !sameMoves(moves, want) || !ok {
		t.Errorf("RingMoves %q: %v %v, want %v", w, moves, ok, want)
	}
	if blocked, ok := impl.RingBlocked(w); blocked != (len(want) == 0) || !ok {
		t.Errorf("RingBlocked %q: %v %v, want moves %v", w, blocked, ok, want)
	}
}

func TestRingMovesOfNamedRings(t *testing.T) {
	for _, c := range []struct{ ring, moves string }{
		// Slides of toads, around the last cell too.
		{"T..", "0-1"},
		{".T.", "1-2"},
		{"..T", "2-0"},
		{"TT.", "1-2"},
		{"T.T", "0-1"},
		{".TT", "2-0"},
		{"T.......T", "0-1"},
		{"TTTTTTTT.", "7-8"},
		{".TTTTTTTT", "8-0"},
		// Slides of frogs, around the first cell too.
		{"F..", "0-2"},
		{".F.", "1-0"},
		{"..F", "2-1"},
		{"FF.", "0-2"},
		{"F.......F", "8-7"},
		{"FFFFFFFF.", "0-8"},
		{".FFFFFFFF", "1-0"},
		// Both kinds, on rings of 3 cells: one cell to one by a slide of the one kind and by a jump of the other one.
		{"T.F", "0-1 2-1"},
		{"F.T", "0-1 2-1"},
		{".FT", "1-0 2-0"},
		{".TF", "1-0 2-0"},
		{"FT.", "0-2 1-2"},
		{"TF.", "0-2 1-2"},
		// Jumps within a ring, and around its last cell and its first one.
		{"TTF.", "1-3"},
		{".TFF", "2-0"},
		{"TF.F", "0-2 3-2"},
		{"FT.T", "0-2 1-2"},
		{"F...T", "0-3 4-1"},
		{"F.T.T", "0-3 2-3 4-1"},
		{"TF..TF..", "0-2 1-7 4-6 5-3"},
		{"F.......T", "0-7 8-1"},
		{".......TF", "7-0 8-6"},
		{"TF.......", "0-2 1-8"},
		{"FTFTFTFT.", "0-8 7-8"},
		{"TF.TF.TF.", "0-2 1-8 3-5 4-2 6-8 7-5"},
		{"T.FT.FT.F", "0-1 2-1 3-4 5-4 6-7 8-7"},
		// No jump over one's own kind, over two, or over a gap.
		{"TTT.", "2-3"},
		{".FFF", "1-0"},
		{"TFF.", "1-3"},
		{"T..F", "0-1 3-2"},
		{"TT.FF", "1-2 3-2"},
		// Blocked ones: with no gap, of gaps alone, and with gaps to which nobody can come.
		{"TTF", ""},
		{"TTT", ""},
		{"FFF", ""},
		{"...", ""},
		{"TFTF", ""},
		{"TTFF", ""},
		{"FF.TT", ""},
		{"TTFF.", ""},
		{"FFTTFF.TT", ""},
		{"FFFF.TTTT", ""},
		{".........", ""},
		{"TTTTTTTTT", ""},
		{"FFFFFFFFF", ""},
		{"TTTTTFFFF", ""},
		{"TFTFTFTFT", ""},
		{"FF.TTFFTT", ""},
		// Not blocked, though nobody can come to one of the gaps.
		{"FF.TTFF..", "0-8"},
	} {
		checkRingMoves(t, c.ring, movesNamed(c.moves))
	}
}

func TestRingMovesOfAllRings(t *testing.T) {
	for _, w := range ringsUpTo(impl.MaxRing) {
		checkRingMoves(t, w, ringMovesOf(w))
	}
}

// TestRingMovesAreThoseOfLines holds moves within a ring against those of chapter 1: a line has no others.
func TestRingMovesAreThoseOfLines(t *testing.T) {
	for _, w := range append(ringsUpTo(7), nineCells()...) {
		around, _ := impl.RingMoves(w)
		within, _ := impl.MovesOf(w)
		for _, m := range within {
			if !slices.Contains(around, m) {
				t.Errorf("RingMoves %q: %v, without %v", w, around, m)
			}
		}
		// With gaps enough on both sides nobody has anybody else around, and the ring has the moves of a line.
		if len(w) > 5 {
			continue
		}
		walled, _ := impl.MovesOf("..." + w + "...")
		line, _ := impl.RingMoves(w + "....")
		for _, m := range walled {
			to := m.To - 3
			if to < 0 {
				to += len(w) + 4
			}
			if !slices.Contains(line, impl.Move{From: m.From - 3, To: to}) {
				t.Errorf("RingMoves %q: %v, without %v on the line", w+"....", line, m)
			}
		}
		if len(walled) != len(line) {
			t.Errorf("RingMoves %q: %v, on the line %v", w+"....", line, walled)
		}
	}
}

func TestOrderOfRingMoves(t *testing.T) {
	for _, w := range append(ringsUpTo(7), nineCells()...) {
		moves, _ := impl.RingMoves(w)
		for k := 1; k < len(moves); k++ {
			if compareMoves(moves[k-1], moves[k]) >= 0 {
				t.Errorf("RingMoves %q: %v is before %v", w, moves[k-1], moves[k])
			}
		}
	}
}

// checkOnRing holds what is said of one move against the ring behind it, the empty text if it cannot be made.
func checkOnRing(t *testing.T, w string, m impl.Move, behind string) {
	t.Helper()
	can := behind != ""
	if told, ok := impl.CanOnRing(w, m); told != can || !ok {
		t.Errorf("CanOnRing %q %v: %v %v, want %v", w, m, told, ok, can)
	}
	if ring, ok := impl.MakeOnRing(w, m); ring != behind || ok != can {
		t.Errorf("MakeOnRing %q %v: %q %v, want %q", w, m, ring, ok, behind)
	}
	if ring, ok := impl.PlayOnRing(w, []impl.Move{m}); ring != behind || ok != can {
		t.Errorf("PlayOnRing %q %v: %q %v, want %q", w, m, ring, ok, behind)
	}
}

// TestSingleMovesOnRings takes moves of any numbers, equal ones and the least and greatest int among them.
func TestSingleMovesOnRings(t *testing.T) {
	moves := edgeMoves()
	for _, w := range append(ringsUpTo(5), nineCells()...) {
		behind := map[impl.Move]string{}
		for _, c := range ringChanges(w) {
			behind[c.move] = c.behind
		}
		for _, m := range moves {
			checkOnRing(t, w, m, behind[m])
		}
	}
}

func TestNamedMovesOnRings(t *testing.T) {
	for _, c := range []struct{ ring, move, behind string }{
		{"T.F", "0-1", ".TF"},
		{"T.F", "2-1", "TF."},
		{"..T", "2-0", "T.."},
		{"F..", "0-2", "..F"},
		// A toad jumps over the frog around, and a frog over the toad.
		{".TF", "1-0", "T.F"},
		{".TF", "2-0", "FT."},
		{".FT", "1-0", "F.T"},
		{".FT", "2-0", "TF."},
		{"F.......T", "8-1", "FT......."},
		{"F.......T", "0-7", ".......FT"},
		{".......TF", "7-0", "T.......F"},
		{"TF.......", "1-8", "T.......F"},
		// Not the other way, not to where somebody is, not from a gap, and not by one cell only.
		{"T.F", "1-0", ""},
		{"T.F", "1-2", ""},
		{"T.F", "0-2", ""},
		{"T.F", "2-0", ""},
		{"T.F", "0-0", ""},
		{"T.F", "1-1", ""},
		{"T..", "0-2", ""},
		{"F..", "0-1", ""},
		{"T...", "0-3", ""},
		{".TTF", "1-0", ""},
		{"TTT.", "1-3", ""},
		{"T........", "0-8", ""},
		{"........F", "8-0", ""},
	} {
		checkOnRing(t, c.ring, movesNamed(c.move)[0], c.behind)
	}
	// A cell has one number only, though a ring has no end.
	for _, m := range []impl.Move{{From: 2, To: 3}, {From: -1, To: 0}, {From: 5, To: 6}, {From: 5, To: 0}, {From: 2, To: -3}} {
		checkOnRing(t, "..T", m, "")
	}
	for _, m := range []impl.Move{{From: 0, To: -1}, {From: 3, To: 2}, {From: 0, To: 5}, {From: -3, To: 2}, {From: -3, To: -1}} {
		checkOnRing(t, "F..", m, "")
	}
}

// TestPlaysOnRings makes up to 100 moves and one more, and tries one that cannot be made at each place.
func TestPlaysOnRings(t *testing.T) {
	for _, w := range append(ringsUpTo(5), nineCells()...) {
		ring := w
		var moves []impl.Move
		for len(moves) <= 100 {
			behind, ok := impl.PlayOnRing(w, moves)
			if behind != ring || !ok {
				t.Errorf("PlayOnRing %q %v: %q %v, want %q", w, moves, behind, ok, ring)
			}
			bad := [4]impl.Move{{}, {From: -1, To: 0}, {From: 9, To: 8}, {From: 2, To: 2}}[len(moves)%4]
			behind, ok = impl.PlayOnRing(w, append(moves[:len(moves):len(moves)], bad))
			if behind != "" || ok {
				t.Errorf("PlayOnRing %q %v and %v: %q %v", w, moves, bad, behind, ok)
			}
			changes := ringChanges(ring)
			if len(changes) == 0 {
				break
			}
			c := changes[len(moves)%len(changes)]
			moves = append(moves, c.move)
			ring = c.behind
		}
		if len(moves) > 100 {
			if behind, ok := impl.PlayOnRing(w, moves); behind != "" || ok {
				t.Errorf("PlayOnRing %q of %d moves: %q %v", w, len(moves), behind, ok)
			}
		}
	}
}

func TestNamedPlaysOnRings(t *testing.T) {
	for _, c := range []struct{ ring, moves, behind string }{
		{"T.F", "", "T.F"},
		{"TTF", "", "TTF"},
		{"TTTTTFFFF", "", "TTTTTFFFF"},
		{".........", "", "........."},
		{"T.F", "0-1 1-0", "T.F"},
		{"T.F", "2-1 1-2", "T.F"},
		{"T.F", "0-1 2-0 1-2", "F.T"},
		{"T..", "0-1 1-2 2-0", "T.."},
		{"F..", "0-2 2-1 1-0", "F.."},
		{"TT.FF", "1-2 3-1 4-3 2-4 0-2 1-0 3-1 2-3", "FF.TT"},
		{"TT.FF", "1-2 3-1 4-3 2-4 0-2 1-0 3-1 2-3 0-2", ""},
		{"T.F", "1-0", ""},
		{"T.F", "0-1 0-1", ""},
		{"T.F", "0-1 1-2", ""},
		{"T.F", "2-2 0-1", ""},
		{"TTF", "0-1", ""},
	} {
		ring, ok := impl.PlayOnRing(c.ring, movesNamed(c.moves))
		if ring != c.behind || ok != (c.behind != "") {
			t.Errorf("PlayOnRing %q %q: %q %v, want %q", c.ring, c.moves, ring, ok, c.behind)
		}
	}
}

// TestHundredMovesOnRing goes around, up to 100 moves and over.
func TestHundredMovesOnRing(t *testing.T) {
	moves := slices.Repeat(movesNamed("0-1 1-2 2-0"), 35)
	for n := 0; n <= 104; n++ {
		want := [3]string{"T..", ".T.", "..T"}[n%3]
		if n > 100 {
			want = ""
		}
		if ring, ok := impl.PlayOnRing("T..", moves[:n]); ring != want || ok != (n <= 100) {
			t.Errorf("PlayOnRing of %d moves: %q %v, want %q", n, ring, ok, want)
		}
	}
}

// checkPath holds what is told of two rings against the first shortest play, if v is reached.
func checkPath(t *testing.T, w, v string, first []impl.Move, reached bool) {
	t.Helper()
	if n, ok := impl.ShortestOnRing(w, v); n != len(first) || ok != reached {
		t.Errorf("ShortestOnRing %q %q: %d %v, want %d %v", w, v, n, ok, len(first), reached)
	}
	moves, ok := impl.PathOnRing(w, v)
	if !sameMoves(moves, first) || ok != reached {
		t.Errorf("PathOnRing %q %q: %v %v, want %v %v", w, v, moves, ok, first, reached)
	}
	if is, ok := impl.ReachOnRing(w, v); is != reached || !ok {
		t.Errorf("ReachOnRing %q %q: %v %v, want %v", w, v, is, ok, reached)
	}
	if !reached {
		return
	}
	if ring, ok := impl.PlayOnRing(w, moves); ring != v || !ok {
		t.Errorf("PathOnRing %q %q: %v leads to %q %v", w, v, moves, ring, ok)
	}
}

// checkAround holds the number of moves with which a ring comes back against that which is wanted, 0 if it cannot.
func checkAround(t *testing.T, w string, want int) {
	t.Helper()
	if n, ok := impl.ComesAround(w); n != want || ok != (want > 0) {
		t.Errorf("ComesAround %q: %d %v, want %d", w, n, ok, want)
	}
}

func checkReached(t *testing.T, w string, want []string) {
	t.Helper()
	if rings, ok := impl.RingReached(w); !sameTexts(rings, want) || !ok {
		t.Errorf("RingReached %q: %q %v, want %q", w, rings, ok, want)
	}
}

// TestPathsOfAllShortRings takes all pairs of rings of up to four cells, of as many of each or not, and tries all plays.
func TestPathsOfAllShortRings(t *testing.T) {
	rings := ringsUpTo(4)
	for _, w := range rings {
		trial := tryRing(w, 8)
		checkAround(t, w, trial.around)
		var reached []string
		for _, v := range rings {
			first, found := trial.first[v]
			checkPath(t, w, v, first, found)
			if found {
				reached = append(reached, v)
			}
		}
		slices.Sort(reached)
		checkReached(t, w, reached)
	}
}

func TestPathsOfRingsOfFiveAndSixCells(t *testing.T) {
	for cells := 5; cells <= 6; cells++ {
		befores := ringBefores(cells)
		for _, rings := range linesAlike(cells) {
			for k, v := range rings {
				if cells == 6 && k%4 != 0 {
					continue
				}
				steps := stepsBack(v, befores)
				for _, w := range rings {
					_, reached := steps[w]
					checkPath(t, w, v, firstByStep(w, steps, ringChanges), reached)
				}
			}
		}
	}
}

// TestPathsOfLongRings takes some pairs of rings of 7 up to MaxRing cells, of several numbers.
func TestPathsOfLongRings(t *testing.T) {
	for cells := 7; cells <= impl.MaxRing; cells++ {
		befores := ringBefores(cells)
		alike := linesAlike(cells)
		for _, n := range []numbers{{3, 1, 3}, {2, 3, 2}, {0, 6, 1}, {3, 2, 3}, {4, 1, 3}, {4, 0, 4}, {3, 3, 3}, {4, 1, 4}, {5, 1, 3}, {2, 5, 2}, {1, 7, 1}, {8, 1, 0}, {0, 6, 3}, {5, 0, 4}} {
			rings := alike[[3]int{n.toads, n.gaps, n.frogs}]
			if len(rings) == 0 {
				continue
			}
			for _, v := range []string{n.last(), n.first(), rings[0], rings[len(rings)/3]} {
				steps := stepsBack(v, befores)
				for _, w := range []string{n.first(), n.last(), rings[len(rings)/2], rings[len(rings)-1]} {
					_, reached := steps[w]
					checkPath(t, w, v, firstByStep(w, steps, ringChanges), reached)
				}
			}
		}
	}
}

func TestNamedPaths(t *testing.T) {
	for _, c := range []struct {
		w, v, first string
		reached     bool
	}{
		{"T.F", "F.T", "0-1 2-0 1-2", true},
		{"T.F", ".TF", "0-1", true},
		{"T.F", ".FT", "2-1 0-2", true},
		{"T.F", "FT.", "0-1 2-0", true},
		{"TF.", ".FT", "0-2", true},
		{"T..", "..T", "0-1 1-2", true},
		{"..T", "T..", "2-0", true},
		{"F..", "..F", "0-2", true},
		{"..F", "F..", "2-1 1-0", true},
		{"TTF.", "FT.T", "1-3 0-1 2-0", true},
		{"TFF.", ".TFF", "1-3 0-1", true},
		{"TF.F", "T.FF", "3-2 1-3", true},
		{"T.F.", "F.T.", "0-1 2-0 1-2", true},
		{"TFTF.", "FTFT.", "1-4 3-1 2-3 4-2 1-4 0-1 2-0 4-2", true},
		{"TT.FF", "FF.TT", "1-2 3-1 4-3 2-4 0-2 1-0 3-1 2-3", true},
		// The same ring, blocked or not: a play without a move.
		{"T.F", "T.F", "", true},
		{"TTF", "TTF", "", true},
		{"...", "...", "", true},
		{"FF.TT", "FF.TT", "", true},
		{"TTTTTFFFF", "TTTTTFFFF", "", true},
		{"TF.TF.TF.", "TF.TF.TF.", "", true},
		// Rings that are not reached: from blocked ones, and those with other neighbours.
		{"FF.TT", "TT.FF", "", false},
		{"TT.FF", "FFTT.", "", false},
		{"TTFF.", "FFTT.", "", false},
		{"TTF", "TFT", "", false},
		{"TTTTTFFFF", "TTTTFTFFF", "", false},
		// Other numbers of toads, gaps and frogs.
		{"T.F", "T.T", "", false},
		{"T.F", "T..", "", false},
		{"T.F", "T.F.", "", false},
		{"T.F.", "T.F", "", false},
		{"...", "....", "", false},
		{"...", "TTT", "", false},
		{"T........", "........F", "", false},
		{"T.F", "TTT...FFF", "", false},
		// MaxRing cells.
		{"T........", "........T", "0-1 1-2 2-3 3-4 4-5 5-6 6-7 7-8", true},
		{"........T", "T........", "8-0", true},
		{"........F", "F........", "8-7 7-6 6-5 5-4 4-3 3-2 2-1 1-0", true},
		{"TTTTTTTT.", ".TTTTTTTT", "7-8 6-7 5-6 4-5 3-4 2-3 1-2 0-1", true},
		{".TTTTTTTT", "TTTTTTTT.", "8-0", true},
		{"T.......F", "F.......T", "0-1 1-2 2-3 3-4 4-5 5-6 6-7 8-6 6-5 5-4 4-3 3-2 2-1 1-0 7-8", true},
		{"TF.TF.TF.", ".TF.TF.TF", "1-8 0-1 4-2 3-4 7-5 6-7", true},
		{"TTTT.FFFF", "FFFF.TTTT", "3-4 5-3 6-5 4-6 2-4 1-2 3-1 5-3 7-5 8-7 6-8 4-6 2-4 0-2 1-0 3-1 5-3 7-5 6-7 4-6 2-4 3-2 5-3 4-5", true},
		// No two rings are farther from each other.
		{".FFFTTTTF", ".TTTFFFFT", "7-0 6-7 8-6 1-8 2-1 0-2 7-0 5-7 4-5 6-4 8-6 1-8 3-1 2-3 4-2 6-4 8-6 1-8 0-1 2-0 4-2 6-4 8-6 7-8 0-7 2-0 4-2 6-4 5-6 7-5 0-7 2-0 1-2 8-1 6-8 7-6 0-7", true},
	} {
		checkPath(t, c.w, c.v, movesNamed(c.first), c.reached)
	}
}

func TestNamedRingsReached(t *testing.T) {
	for _, c := range []struct {
		ring    string
		reached []string
	}{
		{"T.F", []string{".FT", ".TF", "F.T", "FT.", "T.F", "TF."}},
		{"F.T", []string{".FT", ".TF", "F.T", "FT.", "T.F", "TF."}},
		{"T..", []string{"..T", ".T.", "T.."}},
		{".F.", []string{"..F", ".F.", "F.."}},
		{"TT.", []string{".TT", "T.T", "TT."}},
		{"F.F.", []string{"..FF", ".F.F", ".FF.", "F..F", "F.F.", "FF.."}},
		{"TT.F", []string{".FTT", ".TFT", ".TTF", "F.TT", "FT.T", "FTT.", "T.FT", "T.TF", "TF.T", "TFT.", "TT.F", "TTF."}},
		{".FFFFFFFF", []string{".FFFFFFFF", "F.FFFFFFF", "FF.FFFFFF", "FFF.FFFFF", "FFFF.FFFF", "FFFFF.FFF", "FFFFFF.FF", "FFFFFFF.F", "FFFFFFFF."}},
		// Blocked ones reach themselves alone.
		{"TTF", []string{"TTF"}},
		{"...", []string{"..."}},
		{"FF.TT", []string{"FF.TT"}},
		{"FFFF.TTTT", []string{"FFFF.TTTT"}},
		{"TTTTTFFFF", []string{"TTTTTFFFF"}},
	} {
		checkReached(t, c.ring, c.reached)
	}
	for _, c := range []struct {
		ring    string
		reached int
	}{
		{"TFTF.", 25}, {"T.FF.", 30}, {"T...F", 20}, {"TTTT.FFFF", 278}, {"FTFTFTFT.", 243}, {"T.......F", 72}, {"TF.TF.TF.", 1482}, {"TF..TF..", 412},
	} {
		if rings, ok := impl.RingReached(c.ring); len(rings) != c.reached || !ok {
			t.Errorf("RingReached %q: %d %v, want %d", c.ring, len(rings), ok, c.reached)
		}
	}
}

func TestRingsReachedOfAllShortRingsAndSomeLongOnes(t *testing.T) {
	for _, w := range append(ringsUpTo(6), longRings()...) {
		checkReached(t, w, ringsFrom(w))
	}
}

func TestOrderOfRingsReached(t *testing.T) {
	for _, w := range append(ringsUpTo(5), nineCells()...) {
		rings, _ := impl.RingReached(w)
		checkOrder(t, "RingReached", w, rings)
	}
}

func TestNamedRingsComeAround(t *testing.T) {
	for _, c := range []struct {
		ring  string
		moves int
	}{
		// One of one kind alone goes around; more of it each go to the place of the next one.
		{"T..", 3}, {"F..", 3}, {".T.", 3}, {"TT.", 3}, {"FF.", 3}, {"T........", 9}, {"........F", 9}, {"TTTTTTTT.", 9}, {".FFFFFFFF", 9}, {"T.......T", 9},
		// Both kinds pass each other.
		{"T.F", 2}, {"F.T", 2}, {"TF.F", 2}, {"TT.F", 3}, {"FT.T", 2}, {"T.FF.", 4}, {".FT.T", 3}, {"TFTF.", 3}, {"F...T", 4}, {"T.......F", 8}, {"FTFTFTFT.", 5}, {"TF.TF.TF.", 6}, {"TF..TF..", 6},
		// Blocked ones do not.
		{"TTF", 0}, {"...", 0}, {"TTT", 0}, {"FFF", 0}, {"FF.TT", 0}, {"TTTTTFFFF", 0}, {".........", 0},
		// Nor do all that can move.
		{"TTTT.FFFF", 0},
		// No ring of MaxRing cells needs more.
		{"..FF.TTTT", 19},
	} {
		checkAround(t, c.ring, c.moves)
	}
}

func TestAllShortRingsAndSomeLongOnesComeAround(t *testing.T) {
	befores := map[string][]string{}
	for cells := 5; cells <= impl.MaxRing; cells++ {
		maps.Copy(befores, ringBefores(cells))
	}
	for _, w := range append(append(textsOf(".FT", 5), textsOf(".FT", 6)...), longRings()...) {
		around := 0
		steps := stepsBack(w, befores)
		for _, c := range ringChanges(w) {
			if left, leads := steps[c.behind]; leads && (around == 0 || left+1 < around) {
				around = left + 1
			}
		}
		checkAround(t, w, around)
	}
}

func checkTurned(t *testing.T, w string, by int, want string) {
	t.Helper()
	if ring, ok := impl.TurnRing(w, by); ring != want || !ok {
		t.Errorf("TurnRing %q %d: %q %v, want %q", w, by, ring, ok, want)
	}
}

func TestNamedRingsTurned(t *testing.T) {
	for _, c := range []struct {
		ring   string
		by     int
		behind string
	}{
		{"T.F", 0, "T.F"}, {"T.F", 1, "FT."}, {"T.F", 2, ".FT"}, {"T..", 1, ".T."}, {"T..", 2, "..T"}, {"TTF", 1, "FTT"}, {"TTF", 2, "TFT"},
		{"TFTF", 1, "FTFT"}, {"TFTF", 2, "TFTF"}, {"TFTF", 3, "FTFT"}, {"....", 3, "...."}, {"TT.FF", 4, "T.FFT"}, {"TT.FF", 1, "FTT.F"},
		{"TTT...FFF", 0, "TTT...FFF"}, {"TTT...FFF", 3, "FFFTTT..."}, {"TTT...FFF", 8, "TT...FFFT"}, {"TF.TF.TF.", 3, "TF.TF.TF."}, {"TF.TF.TF.", 6, "TF.TF.TF."},
	} {
		checkTurned(t, c.ring, c.by, c.behind)
	}
}

func TestAllRingsTurned(t *testing.T) {
	for _, w := range append(ringsUpTo(7), nineCells()...) {
		least := leastTurned(w)
		for by := range len(w) {
			ring := turned(w, by)
			checkTurned(t, w, by, ring)
			if told, ok := impl.LeastRing(ring); told != least || !ok {
				t.Errorf("LeastRing %q: %q %v, want %q", ring, told, ok, least)
			}
		}
	}
}

func TestNamedLeastRings(t *testing.T) {
	for _, c := range []struct{ ring, least string }{
		{"T.F", ".FT"}, {"TF.", ".TF"}, {".FT", ".FT"}, {"F.T", ".TF"}, {"TTF", "FTT"}, {"TFT", "FTT"}, {"T..", "..T"}, {"...", "..."}, {"TTT", "TTT"}, {"FFF", "FFF"},
		{"TFTF", "FTFT"}, {"TT.F", ".FTT"}, {"T.T.", ".T.T"}, {".T.F", ".F.T"}, {"T..F", "..FT"}, {".TF.F", ".F.TF"}, {"FF.TT", ".TTFF"},
		{"TF.TF.TF.", ".TF.TF.TF"}, {"TTT...FFF", "...FFFTTT"}, {"T........", "........T"}, {"TTTTTTTTT", "TTTTTTTTT"}, {".T..T.T..", "...T..T.T"},
	} {
		if ring, ok := impl.LeastRing(c.ring); ring != c.least || !ok {
			t.Errorf("LeastRing %q: %q %v, want %q", c.ring, ring, ok, c.least)
		}
	}
}

func checkMirrored(t *testing.T, w, want string) {
	t.Helper()
	if ring, ok := impl.MirrorRing(w); ring != want || !ok {
		t.Errorf("MirrorRing %q: %q %v, want %q", w, ring, ok, want)
	}
}

func TestMirroredRings(t *testing.T) {
	for _, c := range []struct{ ring, mirrored string }{
		{"TT.F", "T.FF"}, {"T.F", "T.F"}, {"F.T", "F.T"}, {"TTT", "FFF"}, {"...", "..."}, {"T..", "..F"}, {"TTF", "TFF"}, {"TTTTTFFFF", "TTTTFFFFF"}, {"T........", "........F"},
	} {
		checkMirrored(t, c.ring, c.mirrored)
	}
	for _, w := range append(ringsUpTo(7), nineCells()...) {
		checkMirrored(t, w, otherOf(w))
		checkMirrored(t, otherOf(w), w)
	}
}

// checkRingCounts holds what is told of numbers of toads, gaps and frogs against how many rings there are but for turning, and how many are blocked.
func checkRingCounts(t *testing.T, n numbers, rings, blocked int) {
	t.Helper()
	if told, ok := impl.CountRings(n.toads, n.gaps, n.frogs); told != rings || !ok {
		t.Errorf("CountRings %v: %d %v, want %d", n, told, ok, rings)
	}
	if told, ok := impl.CountBlockedRings(n.toads, n.gaps, n.frogs); told != blocked || !ok {
		t.Errorf("CountBlockedRings %v: %d %v, want %d", n, told, ok, blocked)
	}
}

func TestNamedRingCounts(t *testing.T) {
	for _, c := range []struct {
		numbers        numbers
		rings, blocked int
	}{
		// Three together.
		{numbers{1, 1, 1}, 2, 0}, {numbers{3, 0, 0}, 1, 1}, {numbers{0, 3, 0}, 1, 1}, {numbers{0, 0, 3}, 1, 1}, {numbers{2, 1, 0}, 1, 0}, {numbers{2, 0, 1}, 1, 1}, {numbers{0, 2, 1}, 1, 0}, {numbers{1, 0, 2}, 1, 1},
		// Rings that are the same turned.
		{numbers{2, 0, 2}, 2, 2}, {numbers{2, 2, 0}, 2, 0}, {numbers{3, 0, 3}, 4, 4}, {numbers{2, 2, 2}, 16, 1}, {numbers{4, 0, 4}, 10, 10},
		{numbers{2, 1, 1}, 3, 0}, {numbers{2, 1, 2}, 6, 1}, {numbers{3, 1, 3}, 20, 2},
		// MaxRing together.
		{numbers{9, 0, 0}, 1, 1}, {numbers{0, 9, 0}, 1, 1}, {numbers{0, 0, 9}, 1, 1}, {numbers{1, 8, 0}, 1, 0}, {numbers{8, 1, 0}, 1, 0}, {numbers{1, 7, 1}, 8, 0}, {numbers{1, 1, 7}, 8, 0},
		{numbers{3, 3, 3}, 188, 2}, {numbers{4, 1, 4}, 70, 6}, {numbers{4, 0, 5}, 14, 14}, {numbers{2, 5, 2}, 84, 1}, {numbers{6, 0, 3}, 10, 10}, {numbers{0, 6, 3}, 10, 0},
	} {
		checkRingCounts(t, c.numbers, c.rings, c.blocked)
	}
}

// TestCountsOfAllRings goes through all rings, and leaves out those that have come up turned.
func TestCountsOfAllRings(t *testing.T) {
	for cells := 3; cells <= impl.MaxRing; cells++ {
		seen := map[string]bool{}
		rings, blocked := map[[3]int]int{}, map[[3]int]int{}
		for _, w := range textsOf(".FT", cells) {
			if seen[w] {
				continue
			}
			for _, v := range allTurned(w) {
				seen[v] = true
			}
			rings[countsOf(w)]++
			if len(ringChanges(w)) == 0 {
				blocked[countsOf(w)]++
			}
		}
		for n, many := range rings {
			checkRingCounts(t, numbers{n[0], n[1], n[2]}, many, blocked[n])
		}
		if want := (cells + 1) * (cells + 2) / 2; len(rings) != want {
			t.Errorf("%d numbers of %d cells, want %d", len(rings), cells, want)
		}
	}
}

func checkMeets(t *testing.T, w string, want int) {
	t.Helper()
	if n, ok := impl.MeetsOfRing(w); n != want || !ok {
		t.Errorf("MeetsOfRing %q: %d %v, want %d", w, n, ok, want)
	}
}

func TestMeetsOfRings(t *testing.T) {
	for _, c := range []struct {
		ring  string
		meets int
	}{
		{"TTF", 1}, {"FTT", 1}, {"TFT", 1}, {"FT.", 0}, {"F.T", 1}, {"T.F", 0}, {"TFTF", 2}, {"FTFT", 2}, {"TTFF", 1}, {"FFTT", 1}, {"...", 0}, {"TTT", 0}, {"FFF", 0},
		{"TFTFTFTFT", 4}, {"FTFTFTFTF", 4}, {"FTFTFTFT.", 3}, {"F.......T", 1}, {"T.......F", 0}, {".........", 0}, {"TF.TF.TF.", 3}, {"TTTTTFFFF", 1},
	} {
		checkMeets(t, c.ring, c.meets)
	}
	for _, w := range ringsUpTo(7) {
		meets := 0
		for _, v := range allTurned(w) {
			if strings.HasPrefix(v, "TF") {
				meets++
			}
		}
		checkMeets(t, w, meets)
	}
}

// checkAlike checks that one ring reaches another one as a third one reaches a fourth one.
func checkAlike(t *testing.T, w, v, x, y string) {
	t.Helper()
	reached, _ := impl.ReachOnRing(w, v)
	if is, ok := impl.ReachOnRing(x, y); is != reached || !ok {
		t.Errorf("ReachOnRing %q %q is %v, but %q %q %v", w, v, reached, x, y, is)
	}
	moves, _ := impl.ShortestOnRing(w, v)
	if n, ok := impl.ShortestOnRing(x, y); n != moves || ok != reached {
		t.Errorf("ShortestOnRing %q %q is %d, but %q %q %d %v", w, v, moves, x, y, n, ok)
	}
}

// TestTurnedAndMirroredRingsAreReachedAlike checks the words of promise 6 on what the calls tell alone.
func TestTurnedAndMirroredRingsAreReachedAlike(t *testing.T) {
	pairs := [][2]string{
		{"TT.FF", "FF.TT"}, {"FF.TT", "TT.FF"}, {"TF.TF.TF.", ".TF.TF.TF"}, {".FFFTTTTF", ".TTTFFFFT"}, {"TTTT.FFFF", "FFFF.TTTT"}, {"T.......F", "F.......T"}, {"TTTTTTTT.", ".TTTTTTTT"},
		{"TT.F.", "F.TT."}, {"TTFF.", "FFTT."}, {"T..F.T", "FT.T.."},
	}
	for _, w := range ringsUpTo(4) {
		for _, v := range ringsUpTo(4) {
			pairs = append(pairs, [2]string{w, v})
		}
	}
	for _, p := range pairs {
		w, v := p[0], p[1]
		mirroredFrom, _ := impl.MirrorRing(w)
		mirroredTo, _ := impl.MirrorRing(v)
		checkAlike(t, w, v, mirroredFrom, mirroredTo)
		for by := 0; by < min(len(w), len(v)) && len(w) == len(v); by++ {
			from, _ := impl.TurnRing(w, by)
			to, _ := impl.TurnRing(v, by)
			checkAlike(t, w, v, from, to)
		}
	}
	for _, w := range append(ringsUpTo(5), nineCells()...) {
		around, _ := impl.ComesAround(w)
		mirrored, _ := impl.MirrorRing(w)
		checkAround(t, mirrored, around)
		for by := range len(w) {
			ring, _ := impl.TurnRing(w, by)
			checkAround(t, ring, around)
		}
	}
}

// TestShortestPlaysOnRingsLeadThere checks the words of promise 6 on what the calls tell alone: all rings behind fewer moves are others.
func TestShortestPlaysOnRingsLeadThere(t *testing.T) {
	for _, w := range append(ringsUpTo(4), "TT.FF", "T.F.T", "TFTF.", "F.T.F.", "TT.F.F", "TTT.FFF", ".......FT", "TTTTTTTT.") {
		level := []string{w}
		seen := map[string]bool{w: true}
		for moves := 0; len(level) > 0; moves++ {
			var next []string
			for _, ring := range level {
				path, ok := impl.PathOnRing(w, ring)
				if behind, made := impl.PlayOnRing(w, path); len(path) != moves || !ok || behind != ring || !made {
					t.Errorf("PathOnRing %q %q: %v %v leads to %q, want %d moves", w, ring, path, ok, behind, moves)
				}
				all, _ := impl.RingMoves(ring)
				for _, m := range all {
					if behind, _ := impl.MakeOnRing(ring, m); !seen[behind] {
						seen[behind] = true
						next = append(next, behind)
					}
				}
			}
			level = next
		}
		if rings, ok := impl.RingReached(w); len(rings) != len(seen) || !ok {
			t.Errorf("RingReached %q: %d %v, want %d", w, len(rings), ok, len(seen))
		}
	}
}

// TestRingsAreToldAgainAlike asks the same again and again: what is told must not depend on what is chosen first.
func TestRingsAreToldAgainAlike(t *testing.T) {
	path, _ := impl.PathOnRing("TTT...FFF", "FFF...TTT")
	rings, _ := impl.RingReached("TTT...FFF")
	around, _ := impl.ComesAround("TTT...FFF")
	for range 30 {
		checkPath(t, "TTT...FFF", "FFF...TTT", path, true)
		checkReached(t, "TTT...FFF", rings)
		checkAround(t, "TTT...FFF", around)
	}
}

func TestExampleOfRings(t *testing.T) {
	checkRingMoves(t, "T.F", []impl.Move{{From: 0, To: 1}, {From: 2, To: 1}})
	checkAround(t, "T.F", 2)
	if ring, ok := impl.PlayOnRing("T.F", []impl.Move{{From: 0, To: 1}, {From: 1, To: 0}}); ring != "T.F" || !ok {
		t.Errorf("PlayOnRing: %q %v", ring, ok)
	}
	checkMirrored(t, "TT.F", "T.FF")
	checkRingCounts(t, numbers{1, 1, 1}, 2, 0)
	for _, least := range []string{".FT", ".TF"} {
		if ring, ok := impl.LeastRing(least); ring != least || !ok {
			t.Errorf("LeastRing %q: %q %v", least, ring, ok)
		}
	}
	checkRingMoves(t, "TTF", nil)
}
