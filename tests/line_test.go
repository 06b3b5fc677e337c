package tests

import (
	"strings"
	"testing"

	"loop.example/g01271/impl"
)

// Promise 1: chapter 1 on valid arguments.

func TestLimitOfCells(t *testing.T) {
	if impl.MaxCells != 12 {
		t.Error("MaxCells", impl.MaxCells)
	}
}

func TestIsLine(t *testing.T) {
	for _, w := range append(linesUpTo(6), longLines()...) {
		if !impl.IsLine(w) {
			t.Errorf("%q is a line", w)
		}
	}
	for _, w := range noLines() {
		if impl.IsLine(w) {
			t.Errorf("%q is no line", w)
		}
	}
	for b := range 256 {
		w := string([]byte{byte(b)})
		if want := strings.Contains(".FT", w); impl.IsLine(w) != want || impl.IsLine("T"+w+"F") != want {
			t.Errorf("byte %d in a line: want %v", b, want)
		}
	}
}

func TestFirstAndLastLine(t *testing.T) {
	for _, c := range []struct {
		toads, gaps, frogs int
		first, last        string
	}{
		{2, 1, 2, "TT.FF", "FF.TT"},
		{1, 0, 0, "T", "T"},
		{0, 1, 0, ".", "."},
		{0, 0, 1, "F", "F"},
		{2, 0, 1, "TTF", "FTT"},
		{1, 3, 2, "T...FF", "FF...T"},
		{0, 2, 3, "..FFF", "FFF.."},
		{3, 2, 0, "TTT..", "..TTT"},
		{12, 0, 0, "TTTTTTTTTTTT", "TTTTTTTTTTTT"},
		{0, 12, 0, "............", "............"},
		{0, 0, 12, "FFFFFFFFFFFF", "FFFFFFFFFFFF"},
		{4, 4, 4, "TTTT....FFFF", "FFFF....TTTT"},
		{6, 0, 6, "TTTTTTFFFFFF", "FFFFFFTTTTTT"},
	} {
		first, ok := impl.FirstLine(c.toads, c.gaps, c.frogs)
		if first != c.first || !ok {
			t.Errorf("FirstLine of %d, %d and %d: %q %v", c.toads, c.gaps, c.frogs, first, ok)
		}
		if last, ok := impl.LastLine(c.first); last != c.last || !ok {
			t.Errorf("LastLine of %q: %q %v", c.first, last, ok)
		}
	}
	for _, w := range append(linesUpTo(6), longLines()...) {
		n := countsOf(w)
		want := strings.Repeat("F", n[2]) + strings.Repeat(".", n[1]) + strings.Repeat("T", n[0])
		if last, ok := impl.LastLine(w); last != want || !ok {
			t.Errorf("LastLine of %q: %q %v", w, last, ok)
		}
	}
}

func TestCountOf(t *testing.T) {
	if toads, gaps, frogs, ok := impl.CountOf("TT..FT.T."); toads != 4 || gaps != 4 || frogs != 1 || !ok {
		t.Error("CountOf", toads, gaps, frogs, ok)
	}
	for _, w := range append(linesUpTo(6), longLines()...) {
		toads, gaps, frogs, ok := impl.CountOf(w)
		if [3]int{toads, gaps, frogs} != countsOf(w) || !ok {
			t.Errorf("CountOf %q: %d %d %d %v", w, toads, gaps, frogs, ok)
		}
	}
}

func TestMovesOfNamedLines(t *testing.T) {
	for _, c := range []struct {
		line  string
		moves []impl.Move
	}{
		{"TT.FF", []impl.Move{{From: 1, To: 2}, {From: 3, To: 2}}},
		{"T.TFF", []impl.Move{{From: 0, To: 1}, {From: 3, To: 1}}},
		{"T", nil},
		{"F", nil},
		{".", nil},
		{"TF", nil},
		{".T", nil},
		{"F.", nil},
		{"T.", []impl.Move{{From: 0, To: 1}}},
		{".F", []impl.Move{{From: 1, To: 0}}},
		{"TF.", []impl.Move{{From: 0, To: 2}}},
		{".TF", []impl.Move{{From: 2, To: 0}}},
		{"TT.", []impl.Move{{From: 1, To: 2}}},
		{".FF", []impl.Move{{From: 1, To: 0}}},
		{"TFF.", nil},
		{".TTF", nil},
		{"TTFF", nil},
		{"FF.TT", nil},
		{"T..F", []impl.Move{{From: 0, To: 1}, {From: 3, To: 2}}},
		{".F.", []impl.Move{{From: 1, To: 0}}},
		{".T.", []impl.Move{{From: 1, To: 2}}},
		{"TF.TF.", []impl.Move{{From: 0, To: 2}, {From: 3, To: 5}, {From: 4, To: 2}}},
		{"TTTTTTTTTTT.", []impl.Move{{From: 10, To: 11}}},
		{".FFFFFFFFFFF", []impl.Move{{From: 1, To: 0}}},
		{"..........TF", []impl.Move{{From: 11, To: 9}}},
		{"FT..........", []impl.Move{{From: 1, To: 2}}},
	} {
		if moves, ok := impl.MovesOf(c.line); !sameMoves(moves, c.moves) || !ok {
			t.Errorf("MovesOf %q: %v %v", c.line, moves, ok)
		}
		if blocked, ok := impl.IsBlocked(c.line); blocked != (len(c.moves) == 0) || !ok {
			t.Errorf("IsBlocked %q: %v %v", c.line, blocked, ok)
		}
	}
}

func TestMovesOfAllShortLines(t *testing.T) {
	for _, w := range append(linesUpTo(7), longLines()...) {
		var all, toads, frogs []impl.Move
		for _, c := range changesOf(w) {
			all = append(all, c.move)
			if w[c.move.From] == 'T' {
				toads = append(toads, c.move)
			} else {
				frogs = append(frogs, c.move)
			}
		}
		if moves, ok := impl.MovesOf(w); !sameMoves(moves, all) || !ok {
			t.Errorf("MovesOf %q: %v %v", w, moves, ok)
		}
		if moves, ok := impl.ToadMoves(w); !sameMoves(moves, toads) || !ok {
			t.Errorf("ToadMoves %q: %v %v", w, moves, ok)
		}
		if moves, ok := impl.FrogMoves(w); !sameMoves(moves, frogs) || !ok {
			t.Errorf("FrogMoves %q: %v %v", w, moves, ok)
		}
		if blocked, ok := impl.IsBlocked(w); blocked != (len(all) == 0) || !ok {
			t.Errorf("IsBlocked %q: %v %v", w, blocked, ok)
		}
	}
}

// checkMove holds what is said of one move on a line against the change that it makes, nil if it cannot be made.
func checkMove(t *testing.T, w string, m impl.Move, c *change) {
	t.Helper()
	if can, ok := impl.CanMove(w, m); can != (c != nil) || !ok {
		t.Errorf("CanMove %q %v: %v %v", w, m, can, ok)
	}
	behind, made := impl.MakeMove(w, m)
	jump, told := impl.IsJump(w, m)
	if c == nil {
		if behind != "" || made || jump || told {
			t.Errorf("%q %v cannot be made: %q %v, %v %v", w, m, behind, made, jump, told)
		}
		return
	}
	if behind != c.behind || !made {
		t.Errorf("MakeMove %q %v: %q %v", w, m, behind, made)
	}
	if far := m.To - m.From; jump != (far == 2 || far == -2) || !told {
		t.Errorf("IsJump %q %v: %v %v", w, m, jump, told)
	}
}

func TestSingleMoves(t *testing.T) {
	numbers := edgeNumbers()
	for _, w := range append(linesUpTo(5), longLines()...) {
		changes := map[impl.Move]*change{}
		for _, c := range changesOf(w) {
			changes[c.move] = &c
		}
		for _, from := range numbers {
			for _, to := range numbers {
				m := impl.Move{From: from, To: to}
				checkMove(t, w, m, changes[m])
			}
		}
	}
}

func TestIsJump(t *testing.T) {
	for _, c := range []struct {
		line string
		move impl.Move
		jump bool
		ok   bool
	}{
		{"T.TFF", impl.Move{From: 0, To: 1}, false, true},
		{"T.TFF", impl.Move{From: 3, To: 1}, true, true},
		{"TF.", impl.Move{From: 0, To: 2}, true, true},
		{".F", impl.Move{From: 1, To: 0}, false, true},
		{"TT.", impl.Move{From: 0, To: 2}, false, false},
		{"T..", impl.Move{From: 0, To: 2}, false, false},
		{"TF.", impl.Move{From: 2, To: 0}, false, false},
		{"TF.", impl.Move{From: 1, To: 1}, false, false},
	} {
		if jump, ok := impl.IsJump(c.line, c.move); jump != c.jump || ok != c.ok {
			t.Errorf("IsJump %q %v: %v %v", c.line, c.move, jump, ok)
		}
	}
}

// TestMovesShorten checks the words of promise 1: slides shorten the way by one and jumps by two, with a pair less.
func TestMovesShorten(t *testing.T) {
	for _, w := range append(linesUpTo(7), longLines()...) {
		way, _ := impl.WayToGo(w)
		pairs, _ := impl.PairsToPass(w)
		moves, ok := impl.MovesOf(w)
		if !ok {
			t.Errorf("MovesOf %q fails", w)
		}
		for _, m := range moves {
			behind, _ := impl.MakeMove(w, m)
			jump, _ := impl.IsJump(w, m)
			wantWay, wantPairs := way-1, pairs
			if jump {
				wantWay, wantPairs = way-2, pairs-1
			}
			newWay, ok := impl.WayToGo(behind)
			if newWay != wantWay || !ok {
				t.Errorf("way behind %q %v: %d from %d", w, m, newWay, way)
			}
			newPairs, ok := impl.PairsToPass(behind)
			if newPairs != wantPairs || !ok {
				t.Errorf("pairs behind %q %v: %d from %d", w, m, newPairs, pairs)
			}
		}
	}
}

// placesOf returns the sum of all cells with a sign.
func placesOf(w string, sign byte) int {
	sum := 0
	for cell := range len(w) {
		if w[cell] == sign {
			sum += cell
		}
	}
	return sum
}

func TestWayToGoAndPairsToPass(t *testing.T) {
	for _, c := range []struct {
		line       string
		way, pairs int
	}{
		{"TT.FF", 12, 4}, {"T.TFF", 11, 4}, {"FF.TT", 0, 0}, {"TTFF", 8, 4}, {"T", 0, 0}, {".", 0, 0}, {"F", 0, 0},
		{"T..", 2, 0}, {"..F", 2, 0}, {"..T", 0, 0}, {"F..", 0, 0}, {"TF", 2, 1}, {"FT", 0, 0}, {"T.F.T.F", 14, 3},
		{"TTTT....FFFF", 64, 16}, {"TTTTTTFFFFFF", 72, 36}, {"TTTTTTTTTTTT", 0, 0}, {"T...........", 11, 0}, {"...........F", 11, 0},
	} {
		if way, ok := impl.WayToGo(c.line); way != c.way || !ok {
			t.Errorf("WayToGo %q: %d %v", c.line, way, ok)
		}
		if pairs, ok := impl.PairsToPass(c.line); pairs != c.pairs || !ok {
			t.Errorf("PairsToPass %q: %d %v", c.line, pairs, ok)
		}
	}
	for _, w := range append(linesUpTo(7), longLines()...) {
		last, _ := impl.LastLine(w)
		want := placesOf(last, 'T') - placesOf(w, 'T') + placesOf(w, 'F') - placesOf(last, 'F')
		if way, ok := impl.WayToGo(w); way != want || !ok {
			t.Errorf("WayToGo %q: %d %v, want %d", w, way, ok, want)
		}
		want = 0
		for cell := range len(w) {
			if w[cell] == 'T' {
				want += strings.Count(w[cell:], "F")
			}
		}
		if pairs, ok := impl.PairsToPass(w); pairs != want || !ok {
			t.Errorf("PairsToPass %q: %d %v, want %d", w, pairs, ok, want)
		}
	}
}

func TestPlays(t *testing.T) {
	exchange := []impl.Move{{From: 1, To: 2}, {From: 3, To: 1}, {From: 4, To: 3}, {From: 2, To: 4}, {From: 0, To: 2}, {From: 1, To: 0}, {From: 3, To: 1}, {From: 2, To: 3}}
	for _, c := range []struct {
		line   string
		moves  []impl.Move
		behind string
		fails  int
	}{
		{"TT.FF", nil, "TT.FF", -1},
		{"TT.FF", []impl.Move{}, "TT.FF", -1},
		{"TTFF", nil, "TTFF", -1},
		{"TT.FF", exchange, "FF.TT", -1},
		{"TT.FF", exchange[:1], "T.TFF", -1},
		{"TT.FF", exchange[:2], "TFT.F", -1},
		{"TT.FF", exchange[1:], "", 0},
		{"TT.FF", append(exchange[:8:8], impl.Move{From: 0, To: 1}), "", 8},
		{"TT.FF", []impl.Move{{From: 1, To: 2}, {From: 1, To: 2}, {From: 3, To: 1}}, "", 1},
		{"TT.FF", []impl.Move{{From: 1, To: 2}, {From: 3, To: 1}, {From: 1, To: 3}}, "", 2},
		{"T.F", []impl.Move{{From: 0, To: 1}, {From: 2, To: 0}, {From: 1, To: 2}}, "F.T", -1},
		{"T.........F.", []impl.Move{{From: 0, To: 1}, {From: 10, To: 9}, {From: 1, To: 2}}, "..T......F..", -1},
	} {
		if behind, ok := impl.PlayMoves(c.line, c.moves); behind != c.behind || ok != (c.fails < 0) {
			t.Errorf("PlayMoves %q %v: %q %v", c.line, c.moves, behind, ok)
		}
		k, ok := impl.MoveThatFails(c.line, c.moves)
		if ok != (c.fails >= 0) || ok && k != c.fails || !ok && k != 0 {
			t.Errorf("MoveThatFails %q %v: %d %v", c.line, c.moves, k, ok)
		}
	}
}

// TestPlaysUpToTheEnd makes moves, each time another one, until none is left, and tells the beginnings again.
func TestPlaysUpToTheEnd(t *testing.T) {
	for _, first := range append(linesUpTo(6), longLines()...) {
		var moves []impl.Move
		w := first
		for k := 0; ; k++ {
			if behind, ok := impl.PlayMoves(first, moves); behind != w || !ok {
				t.Fatalf("PlayMoves %q %v: %q %v, want %q", first, moves, behind, ok, w)
			}
			if index, ok := impl.MoveThatFails(first, moves); index != 0 || ok {
				t.Fatalf("MoveThatFails %q %v: %d %v", first, moves, index, ok)
			}
			all := changesOf(w)
			if len(all) == 0 {
				break
			}
			c := all[k%len(all)]
			moves = append(moves, c.move)
			w = c.behind
		}
		longer := append(moves, impl.Move{From: 0, To: 1}, impl.Move{From: 1, To: 0})
		if index, ok := impl.MoveThatFails(first, longer); index != len(moves) || !ok {
			t.Errorf("MoveThatFails %q %v: %d %v", first, longer, index, ok)
		}
		if behind, ok := impl.PlayMoves(first, longer); behind != "" || ok {
			t.Errorf("PlayMoves %q %v: %q %v", first, longer, behind, ok)
		}
	}
}

func TestListsOfHundredMoves(t *testing.T) {
	moves := make([]impl.Move, 100)
	moves[0] = impl.Move{From: 1, To: 2}
	moves[1] = impl.Move{From: 3, To: 1}
	if k, ok := impl.MoveThatFails("TT.FF", moves); k != 2 || !ok {
		t.Error("MoveThatFails of 100 moves", k, ok)
	}
	if behind, ok := impl.PlayMoves("TT.FF", moves); behind != "" || ok {
		t.Error("PlayMoves of 100 moves", behind, ok)
	}
}

func TestOtherLine(t *testing.T) {
	for _, c := range [][2]string{
		{"T.TFF", "TTF.F"}, {"T", "F"}, {"F", "T"}, {".", "."}, {"T..", "..F"}, {"TT.FF", "TT.FF"}, {"TTF", "TFF"}, {"TF", "TF"}, {"FT", "FT"},
		{"TTTT.......F", "T.......FFFF"},
	} {
		if other, ok := impl.OtherLine(c[0]); other != c[1] || !ok {
			t.Errorf("OtherLine %q: %q %v", c[0], other, ok)
		}
	}
	turn := strings.NewReplacer("T", "F", "F", "T")
	for _, w := range append(linesUpTo(6), longLines()...) {
		want := ""
		for _, sign := range turn.Replace(w) {
			want = string(sign) + want
		}
		if other, ok := impl.OtherLine(w); other != want || !ok {
			t.Errorf("OtherLine %q: %q %v", w, other, ok)
		}
	}
}

// TestRanksOfShortLines counts up all lines with as many of each in the order of texts.
func TestRanksOfShortLines(t *testing.T) {
	for cells := 1; cells <= 7; cells++ {
		next := map[[3]int]int{}
		for _, w := range textsOf(".FT", cells) {
			n := countsOf(w)
			if rank, ok := impl.RankOfLine(w); rank != next[n] || !ok {
				t.Errorf("RankOfLine %q: %d %v, want %d", w, rank, ok, next[n])
			}
			if line, ok := impl.LineOfRank(n[0], n[1], n[2], next[n]); line != w || !ok {
				t.Errorf("LineOfRank %v %d: %q %v, want %q", n, next[n], line, ok, w)
			}
			next[n]++
		}
		for n, lines := range next {
			if count, ok := impl.CountLines(n[0], n[1], n[2]); count != lines || !ok {
				t.Errorf("CountLines %v: %d %v, want %d", n, count, ok, lines)
			}
			if line, ok := impl.LineOfRank(n[0], n[1], n[2], lines); line != "" || ok {
				t.Errorf("LineOfRank %v %d: %q %v", n, lines, line, ok)
			}
		}
	}
}

func TestRanksOfLongLines(t *testing.T) {
	for _, c := range []struct{ toads, gaps, frogs, lines int }{
		{4, 4, 4, 34650}, {12, 0, 0, 1}, {0, 12, 0, 1}, {0, 0, 12, 1}, {6, 0, 6, 924}, {5, 2, 5, 16632}, {1, 10, 1, 132},
	} {
		if lines, ok := impl.CountLines(c.toads, c.gaps, c.frogs); lines != c.lines || !ok {
			t.Errorf("CountLines %v: %d %v", c, lines, ok)
		}
		before := ""
		for rank := range c.lines {
			w, ok := impl.LineOfRank(c.toads, c.gaps, c.frogs, rank)
			if !ok || w <= before || len(w) != 12 || countsOf(w) != [3]int{c.toads, c.gaps, c.frogs} {
				t.Fatalf("LineOfRank %v %d: %q %v behind %q", c, rank, w, ok, before)
			}
			if r, ok := impl.RankOfLine(w); r != rank || !ok {
				t.Fatalf("RankOfLine %q: %d %v, want %d", w, r, ok, rank)
			}
			before = w
		}
	}
}

func TestRanksAtBothEnds(t *testing.T) {
	for _, c := range []struct {
		line string
		rank int
	}{
		{"T", 0}, {".", 0}, {"F", 0}, {".FFTT", 0}, {"TTFF.", 29}, {"....FFFFTTTT", 0}, {"TTTTFFFF....", 34649}, {"TT.FF", 27},
	} {
		n := countsOf(c.line)
		if rank, ok := impl.RankOfLine(c.line); rank != c.rank || !ok {
			t.Errorf("RankOfLine %q: %d %v", c.line, rank, ok)
		}
		if line, ok := impl.LineOfRank(n[0], n[1], n[2], c.rank); line != c.line || !ok {
			t.Errorf("LineOfRank %v %d: %q %v", n, c.rank, line, ok)
		}
	}
}

func TestExampleOfLines(t *testing.T) {
	if moves, ok := impl.MovesOf("TT.FF"); !ok || !sameMoves(moves, []impl.Move{{From: 1, To: 2}, {From: 3, To: 2}}) {
		t.Error("MovesOf", moves, ok)
	}
	for _, m := range []impl.Move{{From: 1, To: 2}, {From: 3, To: 2}} {
		if jump, ok := impl.IsJump("TT.FF", m); jump || !ok {
			t.Error("IsJump", m, jump, ok)
		}
	}
	if w, ok := impl.MakeMove("TT.FF", impl.Move{From: 1, To: 2}); w != "T.TFF" || !ok {
		t.Error("MakeMove", w, ok)
	}
	if way, ok := impl.WayToGo("TT.FF"); way != 12 || !ok {
		t.Error("WayToGo", way, ok)
	}
	if pairs, ok := impl.PairsToPass("TT.FF"); pairs != 4 || !ok {
		t.Error("PairsToPass", pairs, ok)
	}
	if w, ok := impl.OtherLine("T.TFF"); w != "TTF.F" || !ok {
		t.Error("OtherLine", w, ok)
	}
	if n, ok := impl.CountLines(2, 1, 2); n != 30 || !ok {
		t.Error("CountLines", n, ok)
	}
}
