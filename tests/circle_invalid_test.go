package tests

import (
	"math"
	"slices"
	"strings"
	"testing"

	"loop.example/g01271/impl"
)

// Promise 11 for chapter 6: all arguments are taken without a panic, invalid ones give zero values, and none is changed.

// checkNoRing checks that nothing is told of a text that is no ring.
func checkNoRing(t *testing.T, w string) {
	t.Helper()
	if impl.IsRing(w) {
		t.Errorf("IsRing %q", w)
	}
	if moves, ok := impl.RingMoves(w); len(moves) != 0 || ok {
		t.Errorf("RingMoves %q: %v %v", w, moves, ok)
	}
	if rings, ok := impl.RingReached(w); len(rings) != 0 || ok {
		t.Errorf("RingReached %q: %q %v", w, rings, ok)
	}
	if blocked, ok := impl.RingBlocked(w); blocked || ok {
		t.Errorf("RingBlocked %q: %v %v", w, blocked, ok)
	}
	for name, f := range map[string]func(string) (int, bool){"ComesAround": impl.ComesAround, "MeetsOfRing": impl.MeetsOfRing} {
		if n, ok := f(w); n != 0 || ok {
			t.Errorf("%s %q: %d %v", name, w, n, ok)
		}
	}
	for name, f := range map[string]func(string) (string, bool){"MirrorRing": impl.MirrorRing, "LeastRing": impl.LeastRing} {
		if ring, ok := f(w); ring != "" || ok {
			t.Errorf("%s %q: %q %v", name, w, ring, ok)
		}
	}
}

func TestTextsThatAreNoRings(t *testing.T) {
	for _, w := range noRings() {
		checkNoRing(t, w)
	}
}

// TestTextsWithOneWrongSign takes rings with another sign in each cell.
func TestTextsWithOneWrongSign(t *testing.T) {
	for _, w := range []string{"T.F", "TTT...FFF"} {
		for cell := range len(w) {
			for _, sign := range []string{"t", "f", "x", " ", "\x00", "\n", "\xff", ",", "/", "E", "G", "S", "U", "-"} {
				checkNoRing(t, w[:cell]+sign+w[cell+1:])
			}
		}
	}
}

// checkNoTurn checks that there is no ring turned by so many cells.
func checkNoTurn(t *testing.T, w string, by int) {
	t.Helper()
	if ring, ok := impl.TurnRing(w, by); ring != "" || ok {
		t.Errorf("TurnRing %q %d: %q %v", w, by, ring, ok)
	}
}

// TestTurnsOfNoRingsAndByNoCells takes turns below 0 and beyond the cells, the least and greatest int among them.
func TestTurnsOfNoRingsAndByNoCells(t *testing.T) {
	for _, by := range edgeNumbers() {
		for _, w := range noRings() {
			checkNoTurn(t, w, by)
		}
		for _, w := range append(ringsUpTo(4), nineCells()...) {
			if by < 0 || by >= len(w) {
				checkNoTurn(t, w, by)
			}
		}
	}
}

// TestMovesOfNoRings takes moves of any numbers, and lists of them.
func TestMovesOfNoRings(t *testing.T) {
	moves := edgeMoves()
	for _, w := range noRings() {
		for _, m := range moves {
			if can, ok := impl.CanOnRing(w, m); can || ok {
				t.Errorf("CanOnRing %q %v: %v %v", w, m, can, ok)
			}
			if ring, ok := impl.MakeOnRing(w, m); ring != "" || ok {
				t.Errorf("MakeOnRing %q %v: %q %v", w, m, ring, ok)
			}
		}
		for _, list := range [][]impl.Move{nil, {}, {{From: 0, To: 1}}, {{From: 9, To: 0}}, moves[:100], moves[:101]} {
			if ring, ok := impl.PlayOnRing(w, list); ring != "" || ok {
				t.Errorf("PlayOnRing %q of %d moves: %q %v", w, len(list), ring, ok)
			}
		}
	}
}

// checkNoPath checks that nothing is told of two texts.
func checkNoPath(t *testing.T, w, v string) {
	t.Helper()
	if is, ok := impl.ReachOnRing(w, v); is || ok {
		t.Errorf("ReachOnRing %q %q: %v %v", w, v, is, ok)
	}
	if n, ok := impl.ShortestOnRing(w, v); n != 0 || ok {
		t.Errorf("ShortestOnRing %q %q: %d %v", w, v, n, ok)
	}
	if moves, ok := impl.PathOnRing(w, v); len(moves) != 0 || ok {
		t.Errorf("PathOnRing %q %q: %v %v", w, v, moves, ok)
	}
}

// TestPathsWithNoRings takes texts of which the first one, the second one or both are no rings, and the same twice.
func TestPathsWithNoRings(t *testing.T) {
	bad := noRings()
	for k, w := range bad {
		for _, v := range []string{"T.F", "...", "TTF", "TTTT.FFFF"} {
			checkNoPath(t, w, v)
			checkNoPath(t, v, w)
		}
		checkNoPath(t, w, w)
		checkNoPath(t, w, bad[(k+1)%len(bad)])
	}
}

// TestRingsWithZerosBehindThem takes texts that are rings but for zeros at the end, alone and beside the rings.
func TestRingsWithZerosBehindThem(t *testing.T) {
	for _, w := range []string{"T.F", "TTT...FFF", "TT"} {
		for zeros := 1; zeros <= 9; zeros++ {
			text := w + strings.Repeat("\x00", zeros)
			checkNoRing(t, text)
			checkNoPath(t, text, w)
			checkNoPath(t, w, text)
			checkNoPath(t, text, text)
		}
	}
}

// TestListsOfMoreMovesOnRing takes lists of more than 100 moves, of which all or none could be made.
func TestListsOfMoreMovesOnRing(t *testing.T) {
	for _, n := range []int{101, 102, 1000, 100000} {
		for _, moves := range [][]impl.Move{make([]impl.Move, n), slices.Repeat(movesNamed("0-1 1-0"), n)[:n], slices.Repeat(movesNamed("2-1 1-2"), n)[:n]} {
			if ring, ok := impl.PlayOnRing("T.F", moves); ring != "" || ok {
				t.Errorf("PlayOnRing of %d moves: %q %v", n, ring, ok)
			}
		}
	}
}

// TestPlaysWithAnyNumbersOnRing takes moves of any numbers as the first and as the second one.
func TestPlaysWithAnyNumbersOnRing(t *testing.T) {
	for _, m := range edgeMoves() {
		for _, c := range []struct{ ring, before string }{{"TF.TF", ""}, {"T.F", "0-1 1-0"}, {"TTT...FFF", "2-3"}} {
			line, _ := impl.PlayOnRing(c.ring, movesNamed(c.before))
			want, can := impl.MakeOnRing(line, m)
			ring, ok := impl.PlayOnRing(c.ring, append(movesNamed(c.before), m))
			if ring != want || ok != can {
				t.Errorf("PlayOnRing %q %q and %v: %q %v, want %q %v", c.ring, c.before, m, ring, ok, want, can)
			}
		}
	}
}

// TestBadRingCounts takes numbers below 0, of fewer than 3 and of more than MaxRing together, and the least and greatest ones, of which some wrap around to a sum in 3..MaxRing.
func TestBadRingCounts(t *testing.T) {
	bad := []numbers{
		{0, 0, 0}, {1, 0, 0}, {0, 1, 0}, {0, 0, 1}, {2, 0, 0}, {0, 2, 0}, {0, 0, 2}, {1, 1, 0}, {1, 0, 1}, {0, 1, 1},
		{10, 0, 0}, {0, 10, 0}, {0, 0, 10}, {9, 1, 0}, {0, 9, 1}, {1, 0, 9}, {4, 3, 3}, {3, 4, 3}, {3, 3, 4}, {5, 1, 4}, {9, 9, 9}, {4, 4, 4},
		{-1, 2, 2}, {2, -1, 2}, {2, 2, -1}, {-1, 9, 1}, {9, -1, 1}, {1, 9, -1}, {10, -1, 0}, {-1, 10, 0}, {0, -1, 10}, {-3, 3, 3}, {-3, -3, 9}, {9, 9, -9}, {-1, -1, -1}, {-3, -3, -3},
		{math.MaxInt, math.MaxInt, 5}, {math.MaxInt, 5, math.MaxInt}, {5, math.MaxInt, math.MaxInt}, {math.MinInt, math.MinInt, 3}, {math.MinInt, 3, math.MinInt}, {3, math.MinInt, math.MinInt},
		{math.MaxInt, math.MinInt, 4}, {math.MinInt, 4, math.MaxInt}, {4, math.MaxInt, math.MinInt}, {math.MaxInt, math.MaxInt, 11}, {math.MaxInt, 3, 3}, {math.MinInt, 3, 3},
	}
	for _, n := range badCounts() {
		bad = append(bad, numbers{n[0], n[1], n[2]})
	}
	for _, edge := range edgeNumbers() {
		if edge < 0 || edge > 6 {
			bad = append(bad, numbers{edge, 1, 2}, numbers{2, edge, 1}, numbers{1, 2, edge})
		}
	}
	for _, n := range bad {
		for name, f := range map[string]func(int, int, int) (int, bool){"CountRings": impl.CountRings, "CountBlockedRings": impl.CountBlockedRings} {
			if told, ok := f(n.toads, n.gaps, n.frogs); told != 0 || ok {
				t.Errorf("%s %v: %d %v", name, n, told, ok)
			}
		}
	}
}

// TestMovesOnRingsAreNotChanged gives lists with moves behind their length, which must neither be read nor changed.
func TestMovesOnRingsAreNotChanged(t *testing.T) {
	for _, moves := range [][]impl.Move{nil, movesNamed("1-2"), movesNamed("1-2 3-1 4-3 2-4"), movesNamed("1-2 9-9"), edgeMoves()[:100], edgeMoves()[:101]} {
		for _, w := range []string{"TT.FF", "T", "", "TT.FFTT.FF", "x", "TTF"} {
			list := spareRoom(moves)
			ring, ok := impl.PlayOnRing(w, list)
			checkKept(t, "PlayOnRing", list, moves)
			if want, made := impl.PlayOnRing(w, slices.Clip(slices.Clone(moves))); ring != want || ok != made {
				t.Errorf("PlayOnRing %q %v: %q %v with room, %q %v without", w, moves, ring, ok, want, made)
			}
		}
	}
}

// TestResultsOfRingsAreNew spoils results with the room behind them, and asks again.
func TestResultsOfRingsAreNew(t *testing.T) {
	for name, f := range map[string]func() ([]impl.Move, bool){
		"RingMoves":  func() ([]impl.Move, bool) { return impl.RingMoves("TT.FF") },
		"PathOnRing": func() ([]impl.Move, bool) { return impl.PathOnRing("TT.FF", "FF.TT") },
	} {
		moves, _ := f()
		kept := slices.Clone(moves)
		spoil(moves)
		if again, ok := f(); len(kept) == 0 || !sameMoves(again, kept) || !ok {
			t.Errorf("%s gives %v, then %v", name, kept, again)
		}
	}
	rings, _ := impl.RingReached("T.F")
	kept := slices.Clone(rings)
	rings = rings[:cap(rings)]
	for k := range rings {
		rings[k] = "spoilt"
	}
	checkReached(t, "T.F", kept)
}

// TestRingsAreNotChanged gives rings that are parts of a longer text, of which nothing may be changed.
func TestRingsAreNotChanged(t *testing.T) {
	text := strings.Repeat("TTF.F", 3)
	kept := strings.Clone(text)
	for from := range len(text) {
		for to := from; to <= min(from+10, len(text)); to++ {
			w := text[from:to]
			impl.IsRing(w)
			impl.RingMoves(w)
			impl.CanOnRing(w, impl.Move{From: 0, To: 1})
			impl.MakeOnRing(w, impl.Move{From: 0, To: 1})
			impl.PlayOnRing(w, movesNamed("0-1"))
			impl.RingReached(w)
			impl.ReachOnRing(w, w)
			impl.ShortestOnRing(w, w)
			impl.PathOnRing(w, w)
			impl.ComesAround(w)
			impl.RingBlocked(w)
			impl.TurnRing(w, 1)
			impl.MirrorRing(w)
			impl.LeastRing(w)
			impl.MeetsOfRing(w)
			if text != kept {
				t.Fatalf("a call with %q changed its text to %q", kept[from:to], text)
			}
		}
	}
}

// TestRingsAskedAtOnce asks from several sides at the same time: no call shares anything with another one.
func TestRingsAskedAtOnce(t *testing.T) {
	done := make(chan bool)
	for _, w := range nineCells()[9:] {
		go func() {
			around, came := impl.ComesAround(w)
			rings, _ := impl.RingReached(w)
			again, cameAgain := impl.ComesAround(w)
			if around != again || came != cameAgain || !slices.Contains(rings, w) {
				t.Errorf("%q comes around with %d %v, then %d %v, among %d rings", w, around, came, again, cameAgain, len(rings))
			}
			done <- true
		}()
	}
	for range nineCells()[9:] {
		<-done
	}
}
