package tests

import (
	"math"
	"runtime"
	"slices"
	"strings"
	"testing"

	"loop.example/g01271/impl"
)

// Promise 11 for chapter 7: all arguments are taken without a panic, invalid ones give zero values, and none is changed.

// checkNoPlay checks that nothing is told of a word on a line, one of which at least is invalid.
func checkNoPlay(t *testing.T, w, s string) {
	t.Helper()
	if can, ok := impl.CanPlay(w, s); can || ok {
		t.Errorf("CanPlay %q %q: %v %v", w, s, can, ok)
	}
	if k, ok := impl.SignThatFails(w, s); k != 0 || ok {
		t.Errorf("SignThatFails %q %q: %d %v", w, s, k, ok)
	}
	checkWordNotPlayed(t, w, s)
}

// checkNoWords checks that no words of so many signs are told.
func checkNoWords(t *testing.T, w string, signs int) {
	t.Helper()
	if words, ok := impl.AllWordsOf(w, signs); len(words) != 0 || ok {
		t.Errorf("AllWordsOf %q %d: %q %v", w, signs, words, ok)
	}
	if n, ok := impl.CountWordsOf(w, signs); n != 0 || ok {
		t.Errorf("CountWordsOf %q %d: %d %v", w, signs, n, ok)
	}
}

// TestLinesWithoutOneGap takes texts that are no lines, lines that are too long, and lines with no gap or several ones, with words that could be played on others.
func TestLinesWithoutOneGap(t *testing.T) {
	for _, w := range noOneGapLines() {
		for _, s := range append([]string{"", "T", "F", "TF", "FT", "TTTT", "FFFF", "FTTFFTTF", "TT", "x", "."}, longWords()[:3]...) {
			checkNoPlay(t, w, s)
		}
		for _, signs := range append(edgeNumbers(), 39, 40, 41) {
			checkNoWords(t, w, signs)
		}
		if s, ok := impl.LongestWord(w); s != "" || ok {
			t.Errorf("LongestWord %q: %q %v", w, s, ok)
		}
	}
}

// TestLinesOfMoreCellsWithOneGap takes lines that are too long by one and two cells, beside those of MaxReach cells that are not.
func TestLinesOfMoreCellsWithOneGap(t *testing.T) {
	for _, sign := range []string{"T", "F"} {
		for cells := 11; cells <= 14; cells++ {
			for gap := range cells {
				w := strings.Repeat(sign, gap) + "." + strings.Repeat(sign, cells-1-gap)
				for _, s := range []string{"", sign} {
					checkNoPlay(t, w, s)
				}
				checkNoWords(t, w, 0)
				checkWordBetween(t, w, w, "", false)
			}
		}
	}
	for _, w := range []string{"TTTTTTTTT.", ".FFFFFFFFF"} {
		if can, ok := impl.CanPlay(w, w[4:5]); !can || !ok {
			t.Errorf("CanPlay %q: %v %v", w, can, ok)
		}
	}
}

// TestTextsThatAreNoWords takes them on lines where they would stop or not, and on ones that are invalid too.
func TestTextsThatAreNoWords(t *testing.T) {
	for _, s := range noWords() {
		if impl.IsWord(s) {
			t.Errorf("IsWord %q", s)
		}
		for _, w := range []string{"T.F", "TT.FF", ".", "F.T", "TTTTTTTTT.", ".FFFFFFFFF", "TTTTT.FFFF", "", "TF", "T..F", "TTTTTTTTTT."} {
			checkNoPlay(t, w, s)
		}
		if runs, ok := impl.RunsOfWord(s); len(runs) != 0 || ok {
			t.Errorf("RunsOfWord %q: %v %v", s, runs, ok)
		}
		if word, ok := impl.OtherWord(s); word != "" || ok {
			t.Errorf("OtherWord %q: %q %v", s, word, ok)
		}
	}
}

// TestMovesOnNoLinesHaveNoWord takes texts that are no lines.
func TestMovesOnNoLinesHaveNoWord(t *testing.T) {
	for _, w := range noLines() {
		for _, moves := range [][]impl.Move{nil, {}, movesNamed("0-1"), movesNamed("1-0"), movesNamed("0-1 2-0 1-2"), make([]impl.Move, 40), make([]impl.Move, 41), edgeMoves()} {
			checkWordOfMoves(t, w, moves, "", false)
		}
	}
}

// TestMovesOfAnyNumbersHaveNoWord takes moves of any numbers as the first and as a later one.
func TestMovesOfAnyNumbersHaveNoWord(t *testing.T) {
	for _, m := range edgeMoves() {
		for _, c := range []struct{ line, before string }{{"T.F", ""}, {"T.F", "0-1"}, {"TT..FF", "1-2 0-1"}, {"TTTTT.FFFFFF", ""}, {"............", ""}, {"TF", ""}} {
			moves := append(movesNamed(c.before), m)
			word, made := wordOfMovesOn(c.line, moves)
			checkWordOfMoves(t, c.line, moves, word, made)
		}
	}
}

// TestListsOfMoreMovesHaveNoWord takes lists of more than MaxWord moves, up to very many ones.
func TestListsOfMoreMovesHaveNoWord(t *testing.T) {
	for _, n := range []int{41, 42, 100, 101, 1000, 100000} {
		for _, w := range []string{"T.F", "TTTTTT......", "............", "TF", ""} {
			checkWordOfMoves(t, w, make([]impl.Move, n), "", false)
			checkWordOfMoves(t, w, slices.Repeat(movesNamed("0-1"), n), "", false)
		}
	}
}

func TestNumbersOfSignsOutOfBounds(t *testing.T) {
	for _, w := range []string{"T.F", ".", "F.T", "T.", ".FFFFFFFFF", "TTTTT.FFFF"} {
		for _, signs := range []int{-1, -2, -40, -41, 41, 42, 60, 61, 100, 1000, math.MinInt, math.MinInt + 1, math.MinInt32, math.MaxInt32, math.MaxInt - 1, math.MaxInt} {
			checkNoWords(t, w, signs)
		}
		for _, signs := range []int{0, 40} {
			if _, ok := impl.AllWordsOf(w, signs); !ok {
				t.Errorf("AllWordsOf %q %d fails", w, signs)
			}
			if _, ok := impl.CountWordsOf(w, signs); !ok {
				t.Errorf("CountWordsOf %q %d fails", w, signs)
			}
		}
	}
}

// TestWordsBetweenInvalidLines takes texts of which the first one, the second one or both are invalid, and the same twice.
func TestWordsBetweenInvalidLines(t *testing.T) {
	bad := noOneGapLines()
	for k, w := range bad {
		for _, v := range []string{"T.F", "F.T", ".", "T.", ".F", "TTTTT.FFFF", "TTTTTTTTT."} {
			checkWordBetween(t, w, v, "", false)
			checkWordBetween(t, v, w, "", false)
		}
		checkWordBetween(t, w, w, "", false)
		checkWordBetween(t, w, bad[(k+1)%len(bad)], "", false)
		for _, c := range changesOf(w) {
			checkWordBetween(t, w, c.behind, "", false)
		}
	}
}

func TestBadNumbersOfExchanged(t *testing.T) {
	for _, n := range badExchanged() {
		if s, ok := impl.ExchangeWord(n[0], n[1]); s != "" || ok {
			t.Errorf("ExchangeWord %v: %q %v", n, s, ok)
		}
		if many, ok := impl.ExchangeMoves(n[0], n[1]); many != 0 || ok {
			t.Errorf("ExchangeMoves %v: %d %v", n, many, ok)
		}
	}
	for _, toads := range edgeNumbers() {
		for _, frogs := range edgeNumbers() {
			valid := toads >= 1 && frogs >= 1 && toads <= 8 && frogs <= 8 && toads+frogs <= 9
			if s, ok := impl.ExchangeWord(toads, frogs); ok != valid || (s != "") != valid {
				t.Errorf("ExchangeWord %d %d: %q %v", toads, frogs, s, ok)
			}
			if many, ok := impl.ExchangeMoves(toads, frogs); ok != valid || (many != 0) != valid {
				t.Errorf("ExchangeMoves %d %d: %d %v", toads, frogs, many, ok)
			}
		}
	}
}

// badRuns returns lists of lengths that no word has as its runs; some of their sums wrap around to 0..MaxWord.
func badRuns() [][]int {
	lists := [][]int{
		{0}, {0, 1}, {1, 0}, {1, 0, 1}, {0, 0}, {40, 0}, {0, 40}, {-1}, {1, -1}, {-1, 1}, {2, -1, 3}, {-1, 41}, {41, -1}, {20, -5, 20}, {-40}, {40, -1},
		{41}, {40, 1}, {1, 40}, {20, 21}, {21, 20}, {100}, {39, 1, 1}, {1000, 1000},
		{math.MaxInt}, {math.MinInt}, {1, math.MaxInt}, {math.MaxInt, 1}, {1, math.MinInt}, {math.MinInt, 1}, {40, math.MaxInt}, {40, math.MinInt}, {math.MaxInt, math.MinInt}, {math.MinInt, math.MaxInt},
		{math.MaxInt, math.MaxInt, 2}, {math.MaxInt, math.MaxInt, 42}, {1, math.MaxInt, math.MaxInt, 3}, {math.MinInt, math.MinInt}, {math.MinInt, math.MinInt, 5}, {math.MaxInt - 39, math.MaxInt, 41}, {5, math.MinInt, math.MinInt},
		{math.MaxInt, math.MaxInt, math.MaxInt, math.MaxInt, 4},
	}
	for _, length := range []int{1, 0, -1, 2, 40, math.MaxInt, math.MinInt} {
		for _, many := range []int{41, 1000, 1000000} {
			lists = append(lists, slices.Repeat([]int{length}, many))
		}
	}
	return lists
}

func TestRunsOfNoWord(t *testing.T) {
	for _, runs := range badRuns() {
		for _, toad := range []bool{false, true} {
			list := slices.Clone(runs)
			if s, ok := impl.WordOfRuns(list, toad); s != "" || ok {
				t.Errorf("WordOfRuns of %d runs %v ..: %q %v", len(runs), runs[:min(5, len(runs))], s, ok)
			}
			if !slices.Equal(list, runs) {
				t.Errorf("WordOfRuns changed %d runs %v ..", len(runs), runs[:min(5, len(runs))])
			}
		}
	}
}

// TestRunsAreNotChanged gives lists with room behind them, valid ones and others, and such ones that the room would make valid or invalid.
func TestRunsAreNotChanged(t *testing.T) {
	for _, runs := range [][]int{nil, {}, {1}, {1, 2, 2, 2, 1}, {40}, {39, 1}, {41}, {0}, {1, 0, 2}, {-1}, {math.MaxInt, 1}, slices.Repeat([]int{1}, 40), slices.Repeat([]int{1}, 41)} {
		for _, toad := range []bool{false, true} {
			list := spareRuns(runs)
			s, ok := impl.WordOfRuns(list, toad)
			if want := spareRuns(runs); !slices.Equal(list[:len(runs)+8], want[:len(runs)+8]) {
				t.Errorf("WordOfRuns changed its runs %v", runs)
			}
			if want, told := impl.WordOfRuns(slices.Clip(slices.Clone(runs)), toad); s != want || ok != told {
				t.Errorf("WordOfRuns %v %v: %q %v with room, %q %v without", runs, toad, s, ok, want, told)
			}
		}
	}
}

// TestMovesOfWordsAreNotChanged gives lists with room behind them to lines on which they can be made or not.
func TestMovesOfWordsAreNotChanged(t *testing.T) {
	for _, moves := range [][]impl.Move{nil, movesNamed("0-1"), movesNamed("0-1 2-0 1-2"), movesNamed("2-1 0-2 1-0"), movesNamed("0-1 0-1"), movesNamed("2-0"), make([]impl.Move, 40), make([]impl.Move, 41)} {
		for _, w := range []string{"T.F", "T..F", "TF", "", "TTTTTT......"} {
			list := spareRoom(moves)
			word, ok := impl.WordOfMoves(w, list)
			checkKept(t, "WordOfMoves", list, moves)
			if want, made := impl.WordOfMoves(w, slices.Clip(slices.Clone(moves))); word != want || ok != made {
				t.Errorf("WordOfMoves %q %v: %q %v with room, %q %v without", w, moves, word, ok, want, made)
			}
		}
	}
}

// TestResultsOfWordsAreNew spoils results with the room behind them, and asks again.
func TestResultsOfWordsAreNew(t *testing.T) {
	moves, _ := impl.MovesOfWord("TT.FF", "FTTFFTTF")
	kept := slices.Clone(moves)
	spoil(moves)
	if again, ok := impl.MovesOfWord("TT.FF", "FTTFFTTF"); len(kept) != 8 || !sameMoves(again, kept) || !ok {
		t.Errorf("MovesOfWord gives %v, then %v", kept, again)
	}
	words, _ := impl.AllWordsOf("TT.FF", 5)
	keptWords := slices.Clone(words)
	words = words[:cap(words)]
	for k := range words {
		words[k] = "spoilt"
	}
	checkAllWords(t, "TT.FF", 5, keptWords)
	runs, _ := impl.RunsOfWord("FTTFFTTF")
	runs = runs[:cap(runs)]
	for k := range runs {
		runs[k] = -1
	}
	checkRuns(t, "FTTFFTTF", []int{1, 2, 2, 2, 1})
}

// TestTextsOfWordsAreNotChanged gives lines and words that are parts of longer texts, of which nothing may be changed.
func TestTextsOfWordsAreNotChanged(t *testing.T) {
	lines, words := strings.Repeat("TT.FF", 3), strings.Repeat("FTTFFTTF", 6)
	keptLines, keptWords := strings.Clone(lines), strings.Clone(words)
	for from := range len(lines) {
		for to := from; to <= min(from+11, len(lines)); to++ {
			for _, s := range []string{words[from:from], words[from : from+8], words[:40], words[:41]} {
				w := lines[from:to]
				impl.IsWord(s)
				impl.MovesOfWord(w, s)
				impl.PlayWord(w, s)
				impl.SignThatFails(w, s)
				impl.KindsOfWord(w, s)
				impl.CanPlay(w, s)
				impl.RunsOfWord(s)
				impl.OtherWord(s)
			}
			w := lines[from:to]
			impl.WordOfMoves(w, movesNamed("0-1"))
			impl.AllWordsOf(w, 3)
			impl.CountWordsOf(w, 3)
			impl.LongestWord(w)
			impl.WordBetween(w, w)
			if lines != keptLines || words != keptWords {
				t.Fatalf("a call with %q changed its texts to %q and %q", keptLines[from:to], lines, words)
			}
		}
	}
}

// TestNobodySendsBehindACall plays words that stop at their first sign, at later ones, and not at all: who sent their signs has ended then.
func TestNobodySendsBehindACall(t *testing.T) {
	before := runtime.NumGoroutine()
	for range 200 {
		for _, s := range []string{"", "T", "TFT", strings.Repeat("T", 40), strings.Repeat("TFT", 13), "TFTT"} {
			impl.SignThatFails("T.F", s)
			impl.MovesOfWord("F.T", s)
		}
	}
	// Who has closed its channel may need a moment to be gone.
	for range 100000 {
		if runtime.NumGoroutine() <= before {
			return
		}
		runtime.Gosched()
	}
	t.Errorf("%d goroutines before, %d behind", before, runtime.NumGoroutine())
}

// TestWordsAskedAtOnce asks from several sides at the same time: no call shares anything with another one.
func TestWordsAskedAtOnce(t *testing.T) {
	done := make(chan bool)
	for _, w := range tenCellsOneGap() {
		go func() {
			longest, _ := impl.LongestWord(w)
			moves, ok := impl.MovesOfWord(w, longest)
			if word, told := impl.WordOfMoves(w, moves); word != longest || !told || !ok {
				t.Errorf("%q: the longest word is %q, its moves %v tell %q", w, longest, moves, word)
			}
			if k, ok := impl.SignThatFails(w, longest+"T"); k != len(longest) || !ok {
				t.Errorf("SignThatFails %q %q: %d %v", w, longest+"T", k, ok)
			}
			done <- true
		}()
	}
	for range tenCellsOneGap() {
		<-done
	}
}
