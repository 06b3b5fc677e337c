package tests

import (
	"math"
	"strings"
	"testing"

	"loop.example/g01271/impl"
)

// Promise 11 for chapter 2: all arguments are taken without a panic, invalid ones give zero values, and none is changed.

// badSwapNumbers returns numbers that are no line's, and such as chapter 1 takes, but which are together above MaxSwap.
func badSwapNumbers() []numbers {
	bad := []numbers{
		{9, 0, 0}, {0, 9, 0}, {0, 0, 9}, {8, 1, 0}, {1, 8, 0}, {0, 8, 1}, {0, 1, 8}, {8, 0, 1}, {1, 0, 8}, {3, 3, 3}, {4, 1, 4},
		{4, 4, 4}, {12, 0, 0}, {0, 12, 0}, {0, 0, 12}, {5, 2, 5}, {8, 8, 8}, {9, -1, 0}, {-1, 9, 0}, {0, -1, 9}, {4, 5, -1}, {-1, -1, 3},
	}
	for _, n := range badCounts() {
		bad = append(bad, numbers{n[0], n[1], n[2]})
	}
	for _, edge := range edgeNumbers() {
		if edge < 0 || edge > 8 {
			bad = append(bad, numbers{edge, 1, 2}, numbers{2, edge, 1}, numbers{1, 2, edge})
		}
	}
	return bad
}

func TestBadSwapNumbers(t *testing.T) {
	for _, n := range badSwapNumbers() {
		for name, f := range map[string]func(int, int, int) (int, bool){
			"ExchangeLength": impl.ExchangeLength, "SlidesOfExchange": impl.SlidesOfExchange, "CountExchanges": impl.CountExchanges, "CountLive": impl.CountLive,
		} {
			if told, ok := f(n.toads, n.gaps, n.frogs); told != 0 || ok {
				t.Errorf("%s %v: %d %v", name, n, told, ok)
			}
		}
		for name, f := range map[string]func(int, int, int) ([]impl.Move, bool){"FirstExchange": impl.FirstExchange, "LastExchange": impl.LastExchange} {
			if moves, ok := f(n.toads, n.gaps, n.frogs); len(moves) != 0 || ok {
				t.Errorf("%s %v: %v %v", name, n, moves, ok)
			}
		}
		if all, ok := impl.AllExchanges(n.toads, n.gaps, n.frogs); len(all) != 0 || ok {
			t.Errorf("AllExchanges %v: %v %v", n, all, ok)
		}
		if lines, ok := impl.LinesHalfway(n.toads, n.gaps, n.frogs); len(lines) != 0 || ok {
			t.Errorf("LinesHalfway %v: %q %v", n, lines, ok)
		}
		for _, k := range edgeNumbers() {
			if w, ok := impl.LineInExchange(n.toads, n.gaps, n.frogs, k); w != "" || ok {
				t.Errorf("LineInExchange %v %d: %q %v", n, k, w, ok)
			}
		}
	}
}

// checkInvalidMoves checks that numbers or moves are not taken at all.
func checkInvalidMoves(t *testing.T, n numbers, moves []impl.Move) {
	t.Helper()
	if is, ok := impl.IsExchange(n.toads, n.gaps, n.frogs, moves); is || ok {
		t.Errorf("IsExchange %v of %d moves: %v %v", n, len(moves), is, ok)
	}
	checkNothingTold(t, n, moves)
}

func TestMovesOfBadSwapNumbers(t *testing.T) {
	exchange := []impl.Move{{From: 0, To: 1}, {From: 2, To: 0}, {From: 1, To: 2}}
	for _, n := range badSwapNumbers() {
		for _, moves := range [][]impl.Move{nil, {}, exchange, edgeMoves()[:100], edgeMoves()[:101]} {
			checkInvalidMoves(t, n, moves)
		}
	}
}

func TestBadJumpsOfExchange(t *testing.T) {
	for _, toads := range edgeNumbers() {
		for _, frogs := range edgeNumbers() {
			if toads >= 0 && toads <= 8 && frogs >= 0 && frogs <= 8 && toads+frogs <= 8 {
				continue
			}
			if jumps, ok := impl.JumpsOfExchange(toads, frogs); jumps != 0 || ok {
				t.Errorf("JumpsOfExchange %d %d: %d %v", toads, frogs, jumps, ok)
			}
		}
	}
}

// TestTextsThatAreNotLive takes texts that are no lines, and lines of more than MaxSwap cells.
func TestTextsThatAreNotLive(t *testing.T) {
	texts := append(noLines(), longLines()...)
	for cells := 9; cells <= 13; cells++ {
		for _, sign := range []string{"T", ".", "F"} {
			texts = append(texts, strings.Repeat(sign, cells))
		}
		texts = append(texts, "TT.FF"+strings.Repeat("F", cells-5))
	}
	for _, w := range texts {
		if live, ok := impl.IsLive(w); live || ok {
			t.Errorf("IsLive %q: %v %v", w, live, ok)
		}
		if moves, ok := impl.LiveMoves(w); len(moves) != 0 || ok {
			t.Errorf("LiveMoves %q: %v %v", w, moves, ok)
		}
	}
}

func TestLinesOfExchangeOutOfBounds(t *testing.T) {
	for _, n := range []numbers{{2, 1, 2}, {1, 0, 0}, {0, 8, 0}, {3, 2, 3}, {0, 1, 7}} {
		length := n.gaps*(n.toads+n.frogs) + n.toads*n.frogs
		for _, k := range append(edgeNumbers(), length-1, length, length+1, -length, 100) {
			w, ok := impl.LineInExchange(n.toads, n.gaps, n.frogs, k)
			if valid := k >= 0 && k <= length; ok != valid || !ok && w != "" {
				t.Errorf("LineInExchange %v %d: %q %v", n, k, w, ok)
			}
		}
	}
}

func TestAnyMovesOfExchanges(t *testing.T) {
	for _, n := range []numbers{{2, 1, 2}, {1, 1, 1}, {1, 0, 1}, {0, 3, 0}, {8, 0, 0}, {3, 2, 3}} {
		for _, m := range edgeMoves() {
			checkNoExchange(t, n, []impl.Move{m})
			checkNoExchange(t, n, []impl.Move{{From: 1, To: 2}, m, m})
		}
	}
}

// TestListsOfMoreMovesOfExchanges takes lists that begin with an exchange, with 100 moves, and with more.
func TestListsOfMoreMovesOfExchanges(t *testing.T) {
	for _, n := range []numbers{{2, 1, 2}, {1, 1, 1}, {0, 3, 0}} {
		exchange, _ := mapOf(n).walk(false)
		for _, many := range []int{99, 100} {
			checkNoExchange(t, n, append(exchange, make([]impl.Move, many-len(exchange))...))
		}
		for _, many := range []int{101, 102, 1000} {
			checkInvalidMoves(t, n, append(exchange, make([]impl.Move, many-len(exchange))...))
		}
	}
}

func TestMovesOfExchangesAreNotChanged(t *testing.T) {
	for _, moves := range [][]impl.Move{
		nil,
		{{From: 0, To: 1}, {From: 2, To: 0}, {From: 1, To: 2}},
		{{From: 2, To: 1}, {From: 0, To: 2}, {From: 1, To: 0}},
		{{From: 2, To: 1}, {From: 9, To: 9}, {From: math.MinInt, To: math.MaxInt}},
		edgeMoves()[:100],
		edgeMoves()[:101],
	} {
		for _, n := range []numbers{{1, 1, 1}, {0, 3, 0}, {1, 0, 1}, {9, 0, 0}, {-1, 1, 1}} {
			list := spareRoom(moves)
			impl.IsExchange(n.toads, n.gaps, n.frogs, list)
			checkKept(t, "IsExchange", list, moves)
			impl.ForcedIn(n.toads, n.gaps, n.frogs, list)
			checkKept(t, "ForcedIn", list, moves)
			back, _ := impl.BackExchange(n.toads, n.gaps, n.frogs, list)
			spoil(back)
			checkKept(t, "BackExchange", list, moves)
			impl.IsOwnBack(n.toads, n.gaps, n.frogs, list)
			checkKept(t, "IsOwnBack", list, moves)
		}
	}
}

// spoil overwrites a list and the room behind it.
func spoil(moves []impl.Move) {
	moves = moves[:cap(moves)]
	for k := range moves {
		moves[k] = impl.Move{From: -1, To: -1}
	}
}

// TestExchangesShareNoMemory spoils one list of a result after the other, and asks again.
func TestExchangesShareNoMemory(t *testing.T) {
	for _, n := range []numbers{{2, 1, 2}, {1, 2, 1}, {1, 4, 1}, {0, 2, 4}} {
		want := allPlays(n.first(), n.last(), nil)
		all, ok := impl.AllExchanges(n.toads, n.gaps, n.frogs)
		if len(all) != len(want) || !ok {
			t.Fatalf("AllExchanges %v: %d %v", n, len(all), ok)
		}
		for k := range all {
			for later := k; later < len(all); later++ {
				if !sameMoves(all[later], want[later]) {
					t.Fatalf("AllExchanges %v at %d: %v, want %v", n, later, all[later], want[later])
				}
			}
			spoil(all[k])
		}
		for name, f := range map[string]func(int, int, int) ([]impl.Move, bool){"FirstExchange": impl.FirstExchange, "LastExchange": impl.LastExchange} {
			first, _ := f(n.toads, n.gaps, n.frogs)
			kept := append([]impl.Move{}, first...)
			spoil(first)
			if again, ok := f(n.toads, n.gaps, n.frogs); !sameMoves(again, kept) || !ok {
				t.Errorf("%s %v gives %v, then %v", name, n, kept, again)
			}
		}
	}
}

func TestLiveMovesAreNew(t *testing.T) {
	want := []impl.Move{{From: 1, To: 2}, {From: 3, To: 2}}
	for range 2 {
		moves, ok := impl.LiveMoves("TT.FF")
		if !sameMoves(moves, want) || !ok {
			t.Error("LiveMoves", moves, ok)
		}
		spoil(moves)
	}
}
