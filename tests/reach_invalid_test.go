package tests

import (
	"math"
	"strings"
	"testing"

	"loop.example/g01271/impl"
)

// Promise 11 for chapter 3: all arguments are taken without a panic, and invalid ones give zero values.

// noReachLines returns texts that are no lines, and lines of more than MaxReach cells.
func noReachLines() []string {
	texts := append(noLines(), longLines()...)
	for cells := 11; cells <= 13; cells++ {
		for _, sign := range []string{"T", ".", "F"} {
			texts = append(texts, strings.Repeat(sign, cells))
		}
		texts = append(texts, "T.F"+strings.Repeat(".", cells-3), "TTTTT."+strings.Repeat("F", cells-6), "TTTTTT"+strings.Repeat("F", cells-6))
	}
	return texts
}

func TestNoReachLines(t *testing.T) {
	for _, w := range noReachLines() {
		for name, f := range map[string]func(string) ([]string, bool){"ReachedFrom": impl.ReachedFrom, "LinesBefore": impl.LinesBefore, "DeadEnds": impl.DeadEnds} {
			if lines, ok := f(w); len(lines) != 0 || ok {
				t.Errorf("%s %q: %q %v", name, w, lines, ok)
			}
		}
		for name, f := range map[string]func(string) (int, bool){
			"CountReached": impl.CountReached, "LongestPlay": impl.LongestPlay, "ShortestStop": impl.ShortestStop, "CountAllPlays": impl.CountAllPlays,
		} {
			if n, ok := f(w); n != 0 || ok {
				t.Errorf("%s %q: %d %v", name, w, n, ok)
			}
		}
		if line, ok := impl.NearestLine(w); line != "" || ok {
			t.Errorf("NearestLine %q: %q %v", w, line, ok)
		}
		if can, ok := impl.CanFinish(w); can || ok {
			t.Errorf("CanFinish %q: %v %v", w, can, ok)
		}
		for _, moves := range append(edgeNumbers(), 60, 61) {
			if lines, ok := impl.ReachedAfter(w, moves); len(lines) != 0 || ok {
				t.Errorf("ReachedAfter %q %d: %q %v", w, moves, lines, ok)
			}
		}
	}
}

// checkInvalidPair checks that nothing is told of two lines.
func checkInvalidPair(t *testing.T, w, v string) {
	t.Helper()
	if can, ok := impl.CanReach(w, v); can || ok {
		t.Errorf("CanReach %q %q: %v %v", w, v, can, ok)
	}
	if n, ok := impl.MovesBetween(w, v); n != 0 || ok {
		t.Errorf("MovesBetween %q %q: %d %v", w, v, n, ok)
	}
	if n, ok := impl.CountPlays(w, v); n != 0 || ok {
		t.Errorf("CountPlays %q %q: %d %v", w, v, n, ok)
	}
	if moves, ok := impl.FirstPlay(w, v); len(moves) != 0 || ok {
		t.Errorf("FirstPlay %q %q: %v %v", w, v, moves, ok)
	}
}

// TestInvalidPairs takes texts of which the first one, the second one or both are invalid, and the same twice.
func TestInvalidPairs(t *testing.T) {
	bad := noReachLines()
	for k, w := range bad {
		for _, v := range []string{"T.F", "T", ".", "TTT....FFF", "FFF....TTT", ".........."} {
			checkInvalidPair(t, w, v)
			checkInvalidPair(t, v, w)
		}
		checkInvalidPair(t, w, w)
		checkInvalidPair(t, w, bad[(k+1)%len(bad)])
		if behind := changesOf(w); len(behind) > 0 {
			checkInvalidPair(t, w, behind[0].behind)
		}
	}
}

func TestNumbersOfMovesOutOfBounds(t *testing.T) {
	for _, w := range []string{"T.F", "T", "TF", "TT.FF", "TTT....FFF", ".........."} {
		for _, moves := range []int{-1, -2, -60, -61, 61, 62, 100, 1000, math.MinInt, math.MinInt + 1, math.MinInt32, math.MaxInt32, math.MaxInt - 1, math.MaxInt} {
			if lines, ok := impl.ReachedAfter(w, moves); len(lines) != 0 || ok {
				t.Errorf("ReachedAfter %q %d: %q %v", w, moves, lines, ok)
			}
		}
		for _, moves := range []int{0, 60} {
			if _, ok := impl.ReachedAfter(w, moves); !ok {
				t.Errorf("ReachedAfter %q %d fails", w, moves)
			}
		}
	}
}

// TestReachingIsNew spoils results with the room behind them, and asks again.
func TestReachingIsNew(t *testing.T) {
	w := "TT.FF"
	for name, f := range map[string]func() ([]string, bool){
		"ReachedFrom":  func() ([]string, bool) { return impl.ReachedFrom(w) },
		"LinesBefore":  func() ([]string, bool) { return impl.LinesBefore("FF.TT") },
		"DeadEnds":     func() ([]string, bool) { return impl.DeadEnds(w) },
		"ReachedAfter": func() ([]string, bool) { return impl.ReachedAfter(w, 2) },
	} {
		lines, ok := f()
		if len(lines) < 2 || !ok {
			t.Errorf("%s: %q %v", name, lines, ok)
		}
		kept := append([]string{}, lines...)
		lines = lines[:cap(lines)]
		for k := range lines {
			lines[k] = "x"
		}
		if again, ok := f(); !sameTexts(again, kept) || !ok {
			t.Errorf("%s gives %q, then %q", name, kept, again)
		}
	}
	moves, _ := impl.FirstPlay(w, "FF.TT")
	kept := append([]impl.Move{}, moves...)
	spoil(moves)
	if again, ok := impl.FirstPlay(w, "FF.TT"); !sameMoves(again, kept) || !ok {
		t.Errorf("FirstPlay gives %v, then %v", kept, again)
	}
}

// TestLinesAreNotChanged gives lines that are parts of a longer text, of which nothing may be changed.
func TestLinesAreNotChanged(t *testing.T) {
	text := strings.Repeat("TT.FF", 3)
	kept := strings.Clone(text)
	for from := range len(text) {
		for to := from; to <= len(text); to++ {
			w := text[from:to]
			impl.ReachedFrom(w)
			impl.CountReached(w)
			impl.CanReach(w, w)
			impl.MovesBetween(w, w)
			impl.CountPlays(w, w)
			impl.FirstPlay(w, w)
			impl.LinesBefore(w)
			impl.DeadEnds(w)
			impl.LongestPlay(w)
			impl.ShortestStop(w)
			impl.CountAllPlays(w)
			impl.NearestLine(w)
			impl.CanFinish(w)
			impl.ReachedAfter(w, 3)
			if text != kept {
				t.Fatalf("a call with %q changed its text to %q", kept[from:to], text)
			}
		}
	}
}
