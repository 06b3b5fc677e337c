package tests

import (
	"sort"
	"testing"

	"loop.example/g01271/impl"
)

// Promise 2: chapter 2 on valid arguments.

func TestLimitsOfExchanges(t *testing.T) {
	if impl.MaxSwap != 8 || impl.MaxSwaps != 200 {
		t.Error("MaxSwap, MaxSwaps", impl.MaxSwap, impl.MaxSwaps)
	}
}

// namedExchanges has numbers with how many moves, slides, exchanges and live lines they have; moves less than 0 stand for no exchange.
func namedExchanges() []struct {
	numbers
	moves, slides, exchanges, live int
} {
	return []struct {
		numbers
		moves, slides, exchanges, live int
	}{
		{numbers{2, 1, 2}, 8, 4, 2, 16},
		{numbers{1, 1, 1}, 3, 2, 2, 6},
		{numbers{1, 1, 2}, 5, 3, 3, 10},
		{numbers{2, 1, 1}, 5, 3, 3, 10},
		{numbers{1, 2, 1}, 5, 4, 8, 12},
		{numbers{3, 1, 3}, 15, 6, 2, 30},
		{numbers{2, 2, 0}, 4, 4, 2, 6},
		{numbers{0, 2, 2}, 4, 4, 2, 6},
		// Numbers that are together 1: each exchange is one without a move.
		{numbers{1, 0, 0}, 0, 0, 1, 1},
		{numbers{0, 1, 0}, 0, 0, 1, 1},
		{numbers{0, 0, 1}, 0, 0, 1, 1},
		// No gap with one kind alone, and gaps alone.
		{numbers{3, 0, 0}, 0, 0, 1, 1},
		{numbers{0, 0, 3}, 0, 0, 1, 1},
		{numbers{0, 3, 0}, 0, 0, 1, 1},
		{numbers{8, 0, 0}, 0, 0, 1, 1},
		{numbers{0, 8, 0}, 0, 0, 1, 1},
		{numbers{0, 0, 8}, 0, 0, 1, 1},
		// No gap with both kinds.
		{numbers{1, 0, 1}, -1, 0, 0, 0},
		{numbers{2, 0, 1}, -1, 0, 0, 0},
		{numbers{4, 0, 4}, -1, 0, 0, 0},
		{numbers{1, 0, 7}, -1, 0, 0, 0},
		// No frogs, no toads.
		{numbers{1, 1, 0}, 1, 1, 1, 2},
		{numbers{0, 1, 1}, 1, 1, 1, 2},
		{numbers{7, 1, 0}, 7, 7, 1, 8},
		{numbers{0, 7, 1}, 7, 7, 1, 8},
		// Together MaxSwap.
		{numbers{4, 1, 3}, 19, 7, 2, 38},
		{numbers{3, 2, 3}, 21, 12, 2210760, 286},
		{numbers{2, 3, 3}, 21, 15, 159247636, 450},
		{numbers{4, 4, 0}, 16, 16, 24024, 70},
	}
}

func TestNamedExchanges(t *testing.T) {
	for _, c := range namedExchanges() {
		moves, ok := impl.ExchangeLength(c.toads, c.gaps, c.frogs)
		if ok != (c.moves >= 0) || moves != max(c.moves, 0) {
			t.Errorf("ExchangeLength %v: %d %v", c.numbers, moves, ok)
		}
		slides, ok := impl.SlidesOfExchange(c.toads, c.gaps, c.frogs)
		if ok != (c.moves >= 0) || slides != c.slides {
			t.Errorf("SlidesOfExchange %v: %d %v", c.numbers, slides, ok)
		}
		if n, ok := impl.CountExchanges(c.toads, c.gaps, c.frogs); n != c.exchanges || !ok {
			t.Errorf("CountExchanges %v: %d %v", c.numbers, n, ok)
		}
		if n, ok := impl.CountLive(c.toads, c.gaps, c.frogs); n != c.live || !ok {
			t.Errorf("CountLive %v: %d %v", c.numbers, n, ok)
		}
	}
}

func TestLengthsOfExchanges(t *testing.T) {
	for _, n := range swapNumbers() {
		m := mapOf(n)
		depth, reached := m.depth[m.last]
		if reached != n.canExchange() {
			t.Fatalf("an exchange of %v: %v", n, reached)
		}
		jumps := n.toads * n.frogs
		length, ok := impl.ExchangeLength(n.toads, n.gaps, n.frogs)
		if ok != reached || length != depth || ok && length != n.gaps*(n.toads+n.frogs)+jumps {
			t.Errorf("ExchangeLength %v: %d %v, want %d %v", n, length, ok, depth, reached)
		}
		slides, ok := impl.SlidesOfExchange(n.toads, n.gaps, n.frogs)
		if ok != reached || ok && slides != depth-jumps || !ok && slides != 0 {
			t.Errorf("SlidesOfExchange %v: %d %v", n, slides, ok)
		}
	}
}

func TestJumpsOfExchange(t *testing.T) {
	for toads := 0; toads <= 8; toads++ {
		for frogs := 0; toads+frogs <= 8; frogs++ {
			if jumps, ok := impl.JumpsOfExchange(toads, frogs); jumps != toads*frogs || !ok {
				t.Errorf("JumpsOfExchange %d %d: %d %v", toads, frogs, jumps, ok)
			}
		}
	}
}

// TestKindsOfMoves counts the slides and jumps of exchanges that the program tells.
func TestKindsOfMoves(t *testing.T) {
	for _, n := range swapNumbers() {
		var told [][]impl.Move
		for _, f := range []func(int, int, int) ([]impl.Move, bool){impl.FirstExchange, impl.LastExchange} {
			if moves, ok := f(n.toads, n.gaps, n.frogs); ok {
				told = append(told, moves)
			}
		}
		all, _ := impl.AllExchanges(n.toads, n.gaps, n.frogs)
		for _, moves := range append(told, all...) {
			w, slides, jumps := n.first(), 0, 0
			for _, m := range moves {
				jump, ok := impl.IsJump(w, m)
				if !ok {
					t.Fatalf("%v: %v cannot be made on %q", n, m, w)
				}
				if jump {
					jumps++
				} else {
					slides++
				}
				w, _ = impl.MakeMove(w, m)
			}
			wantSlides, _ := impl.SlidesOfExchange(n.toads, n.gaps, n.frogs)
			wantJumps, _ := impl.JumpsOfExchange(n.toads, n.frogs)
			if w != n.last() || slides != wantSlides || jumps != wantJumps {
				t.Errorf("%v: %v leads to %q with %d slides and %d jumps", n, moves, w, slides, jumps)
			}
		}
	}
}

// TestAllExchanges holds them against all plays, found by trying each move, where these are not too many to be tried.
func TestAllExchanges(t *testing.T) {
	for _, n := range swapNumbers() {
		all, ok := impl.AllExchanges(n.toads, n.gaps, n.frogs)
		count := mapOf(n).plays[n.first()]
		if ok != (count <= 200) || !ok && len(all) != 0 {
			t.Errorf("AllExchanges %v of %d: %d %v", n, count, len(all), ok)
		}
		if !ok {
			continue
		}
		want := allPlays(n.first(), n.last(), nil)
		sort.Slice(want, func(i, j int) bool { return lessMoves(want[i], want[j]) })
		if len(all) != len(want) {
			t.Errorf("AllExchanges %v: %d, want %d", n, len(all), len(want))
			continue
		}
		for k := range want {
			if !sameMoves(all[k], want[k]) {
				t.Errorf("AllExchanges %v at %d: %v, want %v", n, k, all[k], want[k])
			}
		}
	}
}

// TestMaxSwaps names the numbers with the most exchanges up to MaxSwaps, and with the fewest above.
func TestMaxSwaps(t *testing.T) {
	for _, c := range []struct {
		numbers
		exchanges int
	}{
		{numbers{2, 6, 0}, 132}, {numbers{0, 2, 6}, 132}, {numbers{1, 4, 1}, 112}, {numbers{1, 2, 2}, 72},
		{numbers{1, 5, 1}, 420}, {numbers{3, 4, 0}, 462}, {numbers{0, 3, 4}, 462}, {numbers{3, 2, 1}, 682},
	} {
		if n, ok := impl.CountExchanges(c.toads, c.gaps, c.frogs); n != c.exchanges || !ok {
			t.Errorf("CountExchanges %v: %d %v", c.numbers, n, ok)
		}
		want := c.exchanges
		if want > impl.MaxSwaps {
			want = 0
		}
		if all, ok := impl.AllExchanges(c.toads, c.gaps, c.frogs); len(all) != want || ok != (want > 0) {
			t.Errorf("AllExchanges %v: %d %v", c.numbers, len(all), ok)
		}
	}
}

func TestExchangesWithoutAMove(t *testing.T) {
	for _, n := range []numbers{{1, 0, 0}, {0, 1, 0}, {0, 0, 1}, {5, 0, 0}, {0, 5, 0}, {0, 0, 5}, {8, 0, 0}, {0, 8, 0}, {0, 0, 8}} {
		for name, f := range map[string]func(int, int, int) ([]impl.Move, bool){"FirstExchange": impl.FirstExchange, "LastExchange": impl.LastExchange} {
			if moves, ok := f(n.toads, n.gaps, n.frogs); len(moves) != 0 || !ok {
				t.Errorf("%s %v: %v %v", name, n, moves, ok)
			}
		}
		if all, ok := impl.AllExchanges(n.toads, n.gaps, n.frogs); len(all) != 1 || len(all[0]) != 0 || !ok {
			t.Errorf("AllExchanges %v: %v %v", n, all, ok)
		}
		if w, ok := impl.LineInExchange(n.toads, n.gaps, n.frogs, 0); w != n.first() || !ok {
			t.Errorf("LineInExchange %v: %q %v", n, w, ok)
		}
		if is, ok := impl.IsExchange(n.toads, n.gaps, n.frogs, nil); !is || !ok {
			t.Errorf("IsExchange %v: %v %v", n, is, ok)
		}
		if forced, ok := impl.ForcedIn(n.toads, n.gaps, n.frogs, nil); forced != 0 || !ok {
			t.Errorf("ForcedIn %v: %d %v", n, forced, ok)
		}
		if back, ok := impl.BackExchange(n.toads, n.gaps, n.frogs, nil); len(back) != 0 || !ok {
			t.Errorf("BackExchange %v: %v %v", n, back, ok)
		}
		if own, ok := impl.IsOwnBack(n.toads, n.gaps, n.frogs, nil); !own || !ok {
			t.Errorf("IsOwnBack %v: %v %v", n, own, ok)
		}
		if lines, ok := impl.LinesHalfway(n.toads, n.gaps, n.frogs); !sameTexts(lines, []string{n.first()}) || !ok {
			t.Errorf("LinesHalfway %v: %q %v", n, lines, ok)
		}
	}
}

func TestNoExchange(t *testing.T) {
	for _, n := range []numbers{{1, 0, 1}, {2, 0, 1}, {1, 0, 2}, {4, 0, 4}, {7, 0, 1}, {1, 0, 7}} {
		for name, f := range map[string]func(int, int, int) ([]impl.Move, bool){"FirstExchange": impl.FirstExchange, "LastExchange": impl.LastExchange} {
			if moves, ok := f(n.toads, n.gaps, n.frogs); len(moves) != 0 || ok {
				t.Errorf("%s %v: %v %v", name, n, moves, ok)
			}
		}
		if all, ok := impl.AllExchanges(n.toads, n.gaps, n.frogs); len(all) != 0 || !ok {
			t.Errorf("AllExchanges %v: %v %v", n, all, ok)
		}
		if lines, ok := impl.LinesHalfway(n.toads, n.gaps, n.frogs); len(lines) != 0 || ok {
			t.Errorf("LinesHalfway %v: %q %v", n, lines, ok)
		}
		for k := -1; k <= 17; k++ {
			if w, ok := impl.LineInExchange(n.toads, n.gaps, n.frogs, k); w != "" || ok {
				t.Errorf("LineInExchange %v %d: %q %v", n, k, w, ok)
			}
		}
		for _, moves := range [][]impl.Move{nil, {}, {{From: 0, To: 1}}} {
			checkNoExchange(t, n, moves)
		}
	}
}

func TestFirstAndLastExchange(t *testing.T) {
	for _, n := range swapNumbers() {
		if !n.canExchange() {
			continue
		}
		m := mapOf(n)
		want, _ := m.walk(false)
		if moves, ok := impl.FirstExchange(n.toads, n.gaps, n.frogs); !sameMoves(moves, want) || !ok {
			t.Errorf("FirstExchange %v: %v %v, want %v", n, moves, ok, want)
		}
		want, _ = m.walk(true)
		if moves, ok := impl.LastExchange(n.toads, n.gaps, n.frogs); !sameMoves(moves, want) || !ok {
			t.Errorf("LastExchange %v: %v %v, want %v", n, moves, ok, want)
		}
	}
}

func TestCountExchangesAndLiveLines(t *testing.T) {
	for _, n := range swapNumbers() {
		m := mapOf(n)
		if count, ok := impl.CountExchanges(n.toads, n.gaps, n.frogs); count != m.plays[m.first] || !ok {
			t.Errorf("CountExchanges %v: %d %v, want %d", n, count, ok, m.plays[m.first])
		}
		if count, ok := impl.CountLive(n.toads, n.gaps, n.frogs); count != len(m.live()) || !ok {
			t.Errorf("CountLive %v: %d %v, want %d", n, count, ok, len(m.live()))
		}
	}
}

func TestLineInExchange(t *testing.T) {
	for _, n := range swapNumbers() {
		if !n.canExchange() {
			continue
		}
		_, lines := mapOf(n).walk(false)
		for k := -2; k <= len(lines)+2; k++ {
			want := ""
			if k >= 0 && k < len(lines) {
				want = lines[k]
			}
			if w, ok := impl.LineInExchange(n.toads, n.gaps, n.frogs, k); w != want || ok != (want != "") {
				t.Errorf("LineInExchange %v %d: %q %v, want %q", n, k, w, ok, want)
			}
		}
	}
}

// checkLive holds what is said of one line against the map of its numbers.
func checkLive(t *testing.T, w string, m lineMap) {
	t.Helper()
	want := m.plays[w] > 0
	if live, ok := impl.IsLive(w); live != want || !ok {
		t.Errorf("IsLive %q: %v %v, want %v", w, live, ok, want)
	}
	moves, ok := impl.LiveMoves(w)
	if ok != want || want && !sameMoves(moves, m.liveMoves(w)) || !want && len(moves) != 0 {
		t.Errorf("LiveMoves %q: %v %v, want %v", w, moves, ok, want)
	}
}

func TestLiveLines(t *testing.T) {
	maps := map[[3]int]lineMap{}
	for _, n := range swapNumbers() {
		maps[[3]int{n.toads, n.gaps, n.frogs}] = mapOf(n)
	}
	for _, w := range linesUpTo(7) {
		checkLive(t, w, maps[countsOf(w)])
	}
	for k, w := range textsOf(".FT", 8) {
		if k%5 == 0 {
			checkLive(t, w, maps[countsOf(w)])
		}
	}
}

func TestNamedLiveLines(t *testing.T) {
	for _, c := range []struct {
		line  string
		live  bool
		moves []impl.Move
	}{
		{"TT.FF", true, []impl.Move{{From: 1, To: 2}, {From: 3, To: 2}}},
		// The slide 0 to 1 can be made, but leads to the dead end .TTFF.
		{"T.TFF", true, []impl.Move{{From: 3, To: 1}}},
		{".TTFF", false, nil},
		{"FF.TT", true, nil},
		{"TFTF.", true, []impl.Move{{From: 2, To: 4}}},
		// Its LastLine is reached from it, but it is not reached from its FirstLine.
		{"FTT.F", false, nil},
		{"TF", false, nil},
		{"FT", false, nil},
		{"TT", true, nil},
		{"F", true, nil},
		{"........", true, nil},
		{"T......F", true, []impl.Move{{From: 0, To: 1}, {From: 7, To: 6}}},
		{"TTTTTTT.", true, []impl.Move{{From: 6, To: 7}}},
	} {
		if live, ok := impl.IsLive(c.line); live != c.live || !ok {
			t.Errorf("IsLive %q: %v %v", c.line, live, ok)
		}
		if moves, ok := impl.LiveMoves(c.line); !sameMoves(moves, c.moves) || ok != c.live {
			t.Errorf("LiveMoves %q: %v %v", c.line, moves, ok)
		}
	}
}

func TestLinesHalfway(t *testing.T) {
	for _, c := range []struct {
		numbers
		lines []string
	}{
		{numbers{1, 1, 1}, []string{".TF", "TF."}},
		{numbers{1, 1, 2}, []string{".FTF", "FT.F"}},
		{numbers{2, 1, 2}, []string{"FT.TF", "TF.FT"}},
		{numbers{1, 1, 0}, []string{"T."}},
		{numbers{0, 1, 1}, []string{".F"}},
		{numbers{1, 2, 0}, []string{".T."}},
		{numbers{0, 2, 2}, []string{".FF.", "F..F"}},
	} {
		if lines, ok := impl.LinesHalfway(c.toads, c.gaps, c.frogs); !sameTexts(lines, c.lines) || !ok {
			t.Errorf("LinesHalfway %v: %q %v, want %q", c.numbers, lines, ok, c.lines)
		}
	}
	for _, n := range swapNumbers() {
		if !n.canExchange() {
			continue
		}
		m := mapOf(n)
		var want []string
		for _, w := range m.live() {
			if m.depth[w] == m.depth[m.last]/2 {
				want = append(want, w)
			}
		}
		if lines, ok := impl.LinesHalfway(n.toads, n.gaps, n.frogs); !sameTexts(lines, want) || !ok {
			t.Errorf("LinesHalfway %v: %q %v, want %q", n, lines, ok, want)
		}
	}
}

// checkExchange checks an exchange, which m is the map of, and all that is told of it.
func checkExchange(t *testing.T, n numbers, m lineMap, moves []impl.Move) {
	t.Helper()
	if is, ok := impl.IsExchange(n.toads, n.gaps, n.frogs, moves); !is || !ok {
		t.Errorf("IsExchange %v %v: %v %v", n, moves, is, ok)
	}
	forced, w := 0, m.first
	for _, move := range moves {
		if len(m.liveMoves(w)) == 1 {
			forced++
		}
		w, _ = impl.MakeMove(w, move)
	}
	if told, ok := impl.ForcedIn(n.toads, n.gaps, n.frogs, moves); told != forced || !ok {
		t.Errorf("ForcedIn %v %v: %d %v, want %d", n, moves, told, ok, forced)
	}
	back, ok := impl.BackExchange(n.toads, n.gaps, n.frogs, moves)
	if !sameMoves(back, turnedBack(moves)) || !ok {
		t.Errorf("BackExchange %v %v: %v %v", n, moves, back, ok)
	}
	if is, ok := impl.IsExchange(n.frogs, n.gaps, n.toads, back); !is || !ok {
		t.Errorf("BackExchange %v %v is no exchange: %v", n, moves, back)
	}
	if again, ok := impl.BackExchange(n.frogs, n.gaps, n.toads, back); !sameMoves(again, moves) || !ok {
		t.Errorf("BackExchange of BackExchange %v %v: %v %v", n, moves, again, ok)
	}
	if own, ok := impl.IsOwnBack(n.toads, n.gaps, n.frogs, moves); own != sameMoves(moves, turnedBack(moves)) || !ok {
		t.Errorf("IsOwnBack %v %v: %v %v", n, moves, own, ok)
	}
}

// checkNoExchange checks that at most 100 moves of valid numbers are taken for no exchange.
func checkNoExchange(t *testing.T, n numbers, moves []impl.Move) {
	t.Helper()
	if is, ok := impl.IsExchange(n.toads, n.gaps, n.frogs, moves); is || !ok {
		t.Errorf("IsExchange %v %v: %v %v", n, moves, is, ok)
	}
	checkNothingTold(t, n, moves)
}

// checkNothingTold checks that what is told of exchanges fails.
func checkNothingTold(t *testing.T, n numbers, moves []impl.Move) {
	t.Helper()
	if forced, ok := impl.ForcedIn(n.toads, n.gaps, n.frogs, moves); forced != 0 || ok {
		t.Errorf("ForcedIn %v %v: %d %v", n, moves, forced, ok)
	}
	if back, ok := impl.BackExchange(n.toads, n.gaps, n.frogs, moves); len(back) != 0 || ok {
		t.Errorf("BackExchange %v %v: %v %v", n, moves, back, ok)
	}
	if own, ok := impl.IsOwnBack(n.toads, n.gaps, n.frogs, moves); own || ok {
		t.Errorf("IsOwnBack %v %v: %v %v", n, moves, own, ok)
	}
}

func TestMovesThatAreAnExchange(t *testing.T) {
	for _, n := range swapNumbers() {
		m := mapOf(n)
		for _, moves := range sampleExchanges(n) {
			checkExchange(t, n, m, moves)
		}
	}
}

// TestMovesThatAreNone changes exchanges so that they are none.
func TestMovesThatAreNone(t *testing.T) {
	for _, n := range swapNumbers() {
		for _, moves := range sampleExchanges(n) {
			checkNoExchange(t, n, append(moves[:len(moves):len(moves)], impl.Move{From: 0, To: 1}))
			if len(moves) == 0 {
				continue
			}
			checkNoExchange(t, n, nil)
			checkNoExchange(t, n, moves[1:])
			checkNoExchange(t, n, moves[:len(moves)-1])
			if n.toads != n.frogs {
				checkNoExchange(t, n, turnedBack(moves))
			}
			other := append([]impl.Move{}, moves...)
			other[len(moves)/2].To++
			checkNoExchange(t, n, other)
			if n.frogs > 0 {
				checkNoExchange(t, numbers{n.toads, n.gaps + 1, n.frogs - 1}, moves)
			}
		}
	}
}

// TestPlaysThatStop makes moves that lead from the FirstLine to another line than the LastLine.
func TestPlaysThatStop(t *testing.T) {
	checkNoExchange(t, numbers{2, 1, 2}, []impl.Move{{From: 1, To: 2}, {From: 0, To: 1}})
	checkNoExchange(t, numbers{1, 1, 2}, []impl.Move{{From: 2, To: 1}, {From: 3, To: 2}})
	for _, n := range []numbers{{2, 1, 2}, {1, 2, 2}, {3, 1, 3}} {
		m := mapOf(n)
		for w := range m.depth {
			if w == m.last || m.depth[w] > 5 {
				continue
			}
			for _, moves := range allPlays(m.first, w, nil) {
				checkNoExchange(t, n, moves)
			}
		}
	}
}

func TestNamedForcedMoves(t *testing.T) {
	for _, c := range []struct {
		numbers
		moves  []impl.Move
		forced int
	}{
		{numbers{1, 1, 1}, []impl.Move{{From: 0, To: 1}, {From: 2, To: 0}, {From: 1, To: 2}}, 2},
		{numbers{1, 1, 0}, []impl.Move{{From: 0, To: 1}}, 1},
		// One move is forced on each line but the first one, where there are two.
		{numbers{2, 1, 2}, []impl.Move{{From: 1, To: 2}, {From: 3, To: 1}, {From: 4, To: 3}, {From: 2, To: 4}, {From: 0, To: 2}, {From: 1, To: 0}, {From: 3, To: 1}, {From: 2, To: 3}}, 7},
		{numbers{0, 2, 2}, []impl.Move{{From: 2, To: 1}, {From: 1, To: 0}, {From: 3, To: 2}, {From: 2, To: 1}}, 3},
	} {
		if forced, ok := impl.ForcedIn(c.toads, c.gaps, c.frogs, c.moves); forced != c.forced || !ok {
			t.Errorf("ForcedIn %v %v: %d %v", c.numbers, c.moves, forced, ok)
		}
	}
}

func TestNamedBackExchange(t *testing.T) {
	moves := []impl.Move{{From: 0, To: 1}, {From: 2, To: 0}, {From: 1, To: 2}, {From: 3, To: 1}, {From: 2, To: 3}}
	want := []impl.Move{{From: 3, To: 2}, {From: 1, To: 3}, {From: 2, To: 1}, {From: 0, To: 2}, {From: 1, To: 0}}
	if back, ok := impl.BackExchange(1, 1, 2, moves); !sameMoves(back, want) || !ok {
		t.Error("BackExchange", back, ok)
	}
	if is, ok := impl.IsExchange(2, 1, 1, want); !is || !ok {
		t.Error("IsExchange of 2, 1 and 1", is, ok)
	}
	if is, ok := impl.IsExchange(1, 1, 2, want); is || !ok {
		t.Error("IsExchange of 1, 1 and 2", is, ok)
	}
	if own, ok := impl.IsOwnBack(1, 1, 2, moves); own || !ok {
		t.Error("IsOwnBack", own, ok)
	}
}

func TestExampleOfExchanges(t *testing.T) {
	if n, ok := impl.ExchangeLength(2, 1, 2); n != 8 || !ok {
		t.Error("ExchangeLength", n, ok)
	}
	if n, ok := impl.SlidesOfExchange(2, 1, 2); n != 4 || !ok {
		t.Error("SlidesOfExchange", n, ok)
	}
	if n, ok := impl.JumpsOfExchange(2, 2); n != 4 || !ok {
		t.Error("JumpsOfExchange", n, ok)
	}
	if n, ok := impl.CountExchanges(2, 1, 2); n != 2 || !ok {
		t.Error("CountExchanges", n, ok)
	}
	if n, ok := impl.CountLive(2, 1, 2); n != 16 || !ok {
		t.Error("CountLive", n, ok)
	}
	first := []impl.Move{{From: 0, To: 1}, {From: 2, To: 0}, {From: 1, To: 2}}
	if moves, ok := impl.FirstExchange(1, 1, 1); !sameMoves(moves, first) || !ok {
		t.Error("FirstExchange", moves, ok)
	}
	other := []impl.Move{{From: 2, To: 1}, {From: 0, To: 2}, {From: 1, To: 0}}
	all, ok := impl.AllExchanges(1, 1, 1)
	if len(all) != 2 || !sameMoves(all[0], first) || !sameMoves(all[1], other) || !ok {
		t.Error("AllExchanges", all, ok)
	}
	if moves, ok := impl.LastExchange(1, 1, 1); !sameMoves(moves, other) || !ok {
		t.Error("LastExchange", moves, ok)
	}
	if n, ok := impl.CountExchanges(1, 1, 2); n != 3 || !ok {
		t.Error("CountExchanges of 1, 1 and 2", n, ok)
	}
}
