package tests

import (
	"math"
	"testing"

	"loop.example/g01271/impl"
)

// Promise 11 for chapter 1: all arguments are taken without a panic, invalid ones give zero values, and none is changed.

// badCounts returns numbers of toads, gaps and frogs that no line has; some of their sums wrap around to 1..MaxCells.
func badCounts() [][3]int {
	return [][3]int{
		{0, 0, 0}, {-1, 1, 1}, {1, -1, 1}, {1, 1, -1}, {-1, 0, 0}, {13, 0, 0}, {0, 13, 0}, {0, 0, 13}, {13, -1, 0}, {-1, 13, 0}, {0, -1, 13}, {6, 6, -1},
		{12, 1, 0}, {1, 12, 0}, {0, 1, 12}, {5, 4, 4}, {12, 12, 12}, {-4, -4, -4}, {4, -4, 4}, {100, 0, 0},
		{math.MaxInt, 0, 0}, {0, math.MaxInt, 0}, {0, 0, math.MaxInt}, {math.MinInt, 0, 0}, {0, math.MinInt, 0}, {0, 0, math.MinInt},
		{math.MaxInt, math.MaxInt, 3}, {math.MaxInt, 3, math.MaxInt}, {3, math.MaxInt, math.MaxInt}, {math.MinInt, math.MinInt, 1}, {1, math.MinInt, math.MinInt},
		{math.MaxInt, math.MinInt, 2}, {math.MaxInt, math.MaxInt, math.MaxInt}, {math.MinInt, math.MinInt, math.MinInt},
	}
}

// edgeMoves returns moves with numbers in and around a line, and the least and greatest ones.
func edgeMoves() []impl.Move {
	var moves []impl.Move
	for _, from := range edgeNumbers() {
		for _, to := range edgeNumbers() {
			moves = append(moves, impl.Move{From: from, To: to})
		}
	}
	return moves
}

func TestNoLines(t *testing.T) {
	for _, w := range noLines() {
		if impl.IsLine(w) {
			t.Errorf("IsLine %q", w)
		}
		if toads, gaps, frogs, ok := impl.CountOf(w); toads != 0 || gaps != 0 || frogs != 0 || ok {
			t.Errorf("CountOf %q: %d %d %d %v", w, toads, gaps, frogs, ok)
		}
		for name, f := range map[string]func(string) (string, bool){"LastLine": impl.LastLine, "OtherLine": impl.OtherLine} {
			if s, ok := f(w); s != "" || ok {
				t.Errorf("%s %q: %q %v", name, w, s, ok)
			}
		}
		for name, f := range map[string]func(string) (int, bool){"WayToGo": impl.WayToGo, "PairsToPass": impl.PairsToPass, "RankOfLine": impl.RankOfLine} {
			if n, ok := f(w); n != 0 || ok {
				t.Errorf("%s %q: %d %v", name, w, n, ok)
			}
		}
		for name, f := range map[string]func(string) ([]impl.Move, bool){"MovesOf": impl.MovesOf, "ToadMoves": impl.ToadMoves, "FrogMoves": impl.FrogMoves} {
			if moves, ok := f(w); len(moves) != 0 || ok {
				t.Errorf("%s %q: %v %v", name, w, moves, ok)
			}
		}
		if blocked, ok := impl.IsBlocked(w); blocked || ok {
			t.Errorf("IsBlocked %q: %v %v", w, blocked, ok)
		}
	}
}

func TestMovesOnNoLines(t *testing.T) {
	moves := edgeMoves()
	for _, w := range noLines() {
		for _, m := range moves {
			if can, ok := impl.CanMove(w, m); can || ok {
				t.Errorf("CanMove %q %v: %v %v", w, m, can, ok)
			}
			if s, ok := impl.MakeMove(w, m); s != "" || ok {
				t.Errorf("MakeMove %q %v: %q %v", w, m, s, ok)
			}
			if jump, ok := impl.IsJump(w, m); jump || ok {
				t.Errorf("IsJump %q %v: %v %v", w, m, jump, ok)
			}
		}
		for _, list := range [][]impl.Move{nil, {}, {{From: 0, To: 1}}, moves[:100], moves[:101]} {
			if s, ok := impl.PlayMoves(w, list); s != "" || ok {
				t.Errorf("PlayMoves %q %v: %q %v", w, list, s, ok)
			}
			if k, ok := impl.MoveThatFails(w, list); k != 0 || ok {
				t.Errorf("MoveThatFails %q %v: %d %v", w, list, k, ok)
			}
		}
	}
}

func TestListsOfMoreMoves(t *testing.T) {
	for _, n := range []int{101, 102, 1000} {
		moves := make([]impl.Move, n)
		moves[0] = impl.Move{From: 1, To: 2}
		if k, ok := impl.MoveThatFails("TT.FF", moves); k != 0 || ok {
			t.Errorf("MoveThatFails of %d moves: %d %v", n, k, ok)
		}
		if s, ok := impl.PlayMoves("TT.FF", moves); s != "" || ok {
			t.Errorf("PlayMoves of %d moves: %q %v", n, s, ok)
		}
	}
}

func TestSingleMovesThatCannotBeMade(t *testing.T) {
	for _, w := range append(linesUpTo(4), longLines()...) {
		made := map[impl.Move]bool{}
		for _, c := range changesOf(w) {
			made[c.move] = true
		}
		for _, m := range edgeMoves() {
			if made[m] {
				continue
			}
			if s, ok := impl.PlayMoves(w, []impl.Move{m}); s != "" || ok {
				t.Errorf("PlayMoves %q %v: %q %v", w, m, s, ok)
			}
			if k, ok := impl.MoveThatFails(w, []impl.Move{m}); k != 0 || !ok {
				t.Errorf("MoveThatFails %q %v: %d %v", w, m, k, ok)
			}
		}
	}
}

func TestBadCounts(t *testing.T) {
	for _, n := range badCounts() {
		if w, ok := impl.FirstLine(n[0], n[1], n[2]); w != "" || ok {
			t.Errorf("FirstLine %v: %q %v", n, w, ok)
		}
		if lines, ok := impl.CountLines(n[0], n[1], n[2]); lines != 0 || ok {
			t.Errorf("CountLines %v: %d %v", n, lines, ok)
		}
		for _, rank := range edgeNumbers() {
			if w, ok := impl.LineOfRank(n[0], n[1], n[2], rank); w != "" || ok {
				t.Errorf("LineOfRank %v %d: %q %v", n, rank, w, ok)
			}
		}
	}
}

func TestRanksOutOfBounds(t *testing.T) {
	for _, c := range [][4]int{
		{2, 1, 2, 30}, {1, 0, 0, 1}, {0, 1, 0, 1}, {0, 0, 1, 1}, {4, 4, 4, 34650}, {12, 0, 0, 1}, {1, 10, 1, 132},
	} {
		for _, rank := range []int{-1, -2, -c[3], c[3], c[3] + 1, math.MinInt, math.MinInt + 1, math.MaxInt - 1, math.MaxInt} {
			if w, ok := impl.LineOfRank(c[0], c[1], c[2], rank); w != "" || ok {
				t.Errorf("LineOfRank %v %d: %q %v", c, rank, w, ok)
			}
		}
	}
}

func TestMovesAreNotChanged(t *testing.T) {
	hundred := edgeMoves()[:100]
	for _, moves := range [][]impl.Move{
		nil,
		{{From: 1, To: 2}},
		{{From: 1, To: 2}, {From: 3, To: 1}, {From: 4, To: 3}, {From: 2, To: 4}, {From: 0, To: 2}},
		{{From: 1, To: 2}, {From: 9, To: 9}, {From: math.MinInt, To: math.MaxInt}},
		hundred,
		edgeMoves()[:101],
	} {
		for _, w := range []string{"TT.FF", "T", "", "TT.FFTT.FFTT.", "x"} {
			list := spareRoom(moves)
			impl.PlayMoves(w, list)
			checkKept(t, "PlayMoves", list, moves)
			impl.MoveThatFails(w, list)
			checkKept(t, "MoveThatFails", list, moves)
		}
	}
}

func TestResultsAreNew(t *testing.T) {
	for name, f := range map[string]func(string) ([]impl.Move, bool){"MovesOf": impl.MovesOf, "ToadMoves": impl.ToadMoves, "FrogMoves": impl.FrogMoves} {
		first, _ := f("T.F.T.F.")
		kept := append([]impl.Move{}, first...)
		for k := range first {
			first[k] = impl.Move{From: -1, To: -1}
		}
		if again, ok := f("T.F.T.F."); !sameMoves(again, kept) || !ok {
			t.Errorf("%s gives %v, then %v", name, kept, again)
		}
	}
}
