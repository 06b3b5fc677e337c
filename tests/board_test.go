package tests

import (
	"slices"
	"strings"
	"testing"

	"loop.example/g01271/impl"
)

// Promise 8: chapter 8 on valid arguments.

func TestLimitsOfBoards(t *testing.T) {
	if impl.MaxHalf != 2 || impl.MaxBoardMoves != 200 {
		t.Errorf("MaxHalf is %d, MaxBoardMoves %d", impl.MaxHalf, impl.MaxBoardMoves)
	}
}

func TestTextsThatAreBoards(t *testing.T) {
	for _, b := range append(boardsUpTo(6), bigBoards()...) {
		if !impl.IsBoard(b) {
			t.Errorf("IsBoard %q", b)
		}
	}
	for _, sign := range []string{"T", ".", "F"} {
		for wide := 1; wide <= 14; wide++ {
			for high := 1; high <= 14; high++ {
				valid := wide <= 5 && high <= 5
				b := boardOfOne(sign, wide, high)
				if impl.IsBoard(b) != valid {
					t.Errorf("IsBoard %q: %v", b, !valid)
				}
				w, h, ok := impl.SizeOfBoard(b)
				if !valid && (w != 0 || h != 0 || ok) || valid && (w != wide || h != high || !ok) {
					t.Errorf("SizeOfBoard %q: %d %d %v", b, w, h, ok)
				}
			}
		}
	}
}

func TestSizesOfNamedBoards(t *testing.T) {
	for _, c := range []struct {
		board      string
		wide, high int
	}{
		{"T", 1, 1}, {".", 1, 1}, {"F", 1, 1}, {"T.F", 3, 1}, {"T/./F", 1, 3}, {"TT.FF", 5, 1}, {"T/T/./F/F", 1, 5}, {"T./.F", 2, 2}, {"TTF/T.F", 3, 2}, {"TT/F./TF", 2, 3},
		{"TTTFF/TTTFF/TT.FF/TTFFF/TTFFF", 5, 5}, {"...../.....", 5, 2}, {"../../../../..", 2, 5},
	} {
		if wide, high, ok := impl.SizeOfBoard(c.board); wide != c.wide || high != c.high || !ok {
			t.Errorf("SizeOfBoard %q: %d %d %v, want %d %d", c.board, wide, high, ok, c.wide, c.high)
		}
	}
}

// checkBoardMoves holds the moves of a board against those that are wanted.
func checkBoardMoves(t *testing.T, b string, want []impl.Move) {
	t.Helper()
	if moves, ok := impl.BoardMoves(b); !sameMoves(moves, want) || !ok {
		t.Errorf("BoardMoves %q: %v %v, want %v", b, moves, ok, want)
	}
	if blocked, ok := impl.IsBoardBlocked(b); blocked != (len(want) == 0) || !ok {
		t.Errorf("IsBoardBlocked %q: %v %v, want moves %v", b, blocked, ok, want)
	}
}

func TestMovesOfNamedBoards(t *testing.T) {
	for _, c := range []struct{ board, moves string }{
		// One cell.
		{"T", ""},
		{"F", ""},
		{".", ""},
		// One row.
		{"T.", "0-1"},
		{".F", "1-0"},
		{".T", ""},
		{"F.", ""},
		{"T.F", "0-1 2-1"},
		{"TF.", "0-2"},
		{".TF", "2-0"},
		{"TF.TF", "0-2 4-2"},
		{"TT.FF", "1-2 3-2"},
		{"T...F", "0-1 4-3"},
		{"FF.TT", ""},
		// One column.
		{"T/.", "0-1"},
		{"./F", "1-0"},
		{"./T", ""},
		{"F/.", ""},
		{"T/./F", "0-1 2-1"},
		{"T/F/.", "0-2"},
		{"./T/F", "2-0"},
		{"T/F/./T/F", "0-2 4-2"},
		{"T/T/./F/F", "1-2 3-2"},
		{"F/F/./T/T", ""},
		// Slides along a row and along a column, several from one cell.
		{"T./..", "0-1 0-2"},
		{"../.F", "3-1 3-2"},
		{".../.T./...", "4-5 4-7"},
		{".../.F./...", "4-1 4-3"},
		{"T.T/..F", "0-1 0-3 5-4"},
		// Jumps along a row and along a column, several from one cell.
		{"TF./F../...", "0-2 0-6"},
		{".../..T/.TF", "8-2 8-6"},
		{"TF./...", "0-2 0-3"},
		{".../.TF", "5-2 5-3"},
		{"TF/F./..", "0-4"},
		{"T.F/F.T/.F.", "0-1 0-6 2-1 5-8 7-4 7-6"},
		// Several to one cell, by slides and by jumps.
		{"TTF/T.F/TFF", "1-4 3-4 5-4 7-4"},
		{"TTTTT/TTFTT/TF.TF/TTTTT/TTFTT", "2-12 10-12 14-12 22-12"},
		{"TTTTT/TTTTT/TT.TT/TTTTT/TTTTT", "7-12 11-12"},
		{"FFFFF/FFFFF/FF.FF/FFFFF/FFFFF", "13-12 17-12"},
		// No jump over one of the same kind, over two, or over a gap.
		{"TT./TT.", "1-2 4-5"},
		{"TTT/TTT/TT.", "5-8 7-8"},
		{".FF/FFF/FFF", "1-0 3-0"},
		{"TFF.", ""},
		{"T/F/F/.", ""},
		{".TTF", ""},
		{"./T/T/F", ""},
		{"T..F", "0-1 3-2"},
		{"TFF/F../F..", ""},
		// No move over the end of a row into the next one, and none over the beginning into the one before.
		{".T/..", "1-3"},
		{"../F.", "2-0"},
		{"..T/...", "2-5"},
		{".../F..", "3-0"},
		{"FFT/.FF", "4-3"},
		{"TT./FTT", "1-2"},
		{".FT/F.F", "1-0 3-0 5-4"},
		{"FTF/.FT", "4-3"},
		{"FT./TFT", "1-2"},
		{"..T/F../...", "2-5 3-0"},
		// No move over the walls above and below.
		{"F../...", ""},
		{".../..T", ""},
		{".F./...", "1-0"},
		{".../.T.", "4-5"},
		// Blocked ones: with no gap, of gaps alone, and with gaps to which nobody can come.
		{"TF/FT", ""},
		{"TTT/FFF/TTT", ""},
		{"../..", ""},
		{"FFT/F.T/FTT", ""},
		{"FF/F.", ""},
		{".T/TT", ""},
		{"FFF/F.F/FFT", "5-4 7-4"},
		{"FFFTT/FFFTT/FF.TT/FFTTT/FFTTT", ""},
		{"TFTFT/FTFTF/TFTFT/FTFTF/TFTFT", ""},
		{"...../...../...../...../.....", ""},
		{"TTTTT/TTTTT/TTTTT/TTTTT/TTTTT", ""},
		// 5 rows of 5 cells.
		{"TTTFF/TTTFF/TT.FF/TTFFF/TTFFF", "7-12 11-12 13-12 17-12"},
		{"T..../...../...../...../....F", "0-1 0-5 24-19 24-23"},
		{"....T/...../...../...../F....", "4-9 20-15"},
		{"F..../...../...../...../....T", ""},
		{"...../.TTT./.T.F./.FFF./.....", "7-12 8-9 11-12 11-21 13-3 13-12 16-15 17-12"},
		{"TTTTT/FFFFF/...../TTTTT/FFFFF", "0-10 1-11 2-12 3-13 4-14 20-10 21-11 22-12 23-13 24-14"},
	} {
		checkBoardMoves(t, c.board, movesNamed(c.moves))
	}
}

func TestMovesOfAllSmallBoardsAndSomeBigOnes(t *testing.T) {
	for _, b := range append(boardsUpTo(9), bigBoards()...) {
		checkBoardMoves(t, b, boardMovesOf(b))
	}
}

func TestBoardsOfOneSignAreBlocked(t *testing.T) {
	for _, sign := range []string{"T", ".", "F"} {
		for wide := 1; wide <= 5; wide++ {
			for high := 1; high <= 5; high++ {
				checkBoardMoves(t, boardOfOne(sign, wide, high), nil)
			}
		}
	}
}

func TestOrderOfBoardMoves(t *testing.T) {
	for _, b := range append(boardsUpTo(8), bigBoards()...) {
		moves, _ := impl.BoardMoves(b)
		for k := 1; k < len(moves); k++ {
			if compareMoves(moves[k-1], moves[k]) >= 0 {
				t.Errorf("BoardMoves %q: %v is before %v", b, moves[k-1], moves[k])
			}
		}
	}
}

// checkOnBoard holds what is said of one move against the board behind it, the empty text if it cannot be made.
func checkOnBoard(t *testing.T, b string, m impl.Move, behind string) {
	t.Helper()
	can := behind != ""
	if board, ok := impl.MakeOnBoard(b, m); board != behind || ok != can {
		t.Errorf("MakeOnBoard %q %v: %q %v, want %q", b, m, board, ok, behind)
	}
	if board, ok := impl.PlayOnBoard(b, []impl.Move{m}); board != behind || ok != can {
		t.Errorf("PlayOnBoard %q %v: %q %v, want %q", b, m, board, ok, behind)
	}
	if k, ok := impl.BoardMoveThatFails(b, []impl.Move{m}); k != 0 || ok == can {
		t.Errorf("BoardMoveThatFails %q %v: %d %v, want %v", b, m, k, ok, !can)
	}
}

func checkAllOnBoard(t *testing.T, b string, moves []impl.Move) {
	t.Helper()
	behind := map[impl.Move]string{}
	for _, c := range boardChanges(b) {
		behind[c.move] = c.behind
	}
	for _, m := range moves {
		checkOnBoard(t, b, m, behind[m])
	}
}

// TestSingleMovesOnBoards takes all moves between the cells of boards, and moves of any numbers, equal ones and the least and greatest int among them.
func TestSingleMovesOnBoards(t *testing.T) {
	for _, b := range boardsUpTo(6) {
		checkAllOnBoard(t, b, cellMoves(b))
	}
	for _, b := range bigBoards()[:18] {
		checkAllOnBoard(t, b, cellMoves(b))
	}
	moves := edgeMoves()
	for _, b := range append(boardsUpTo(3), "T./.F", "TTF/T.F/TFF", "...../.TTT./.T.F./.FFF./.....", "TT.FF", "T/T/./F/F") {
		checkAllOnBoard(t, b, moves)
	}
}

func TestNamedMovesOnBoards(t *testing.T) {
	for _, c := range []struct{ board, move, behind string }{
		{"T.", "0-1", ".T"},
		{"T/.", "0-1", "./T"},
		{".F", "1-0", "F."},
		{"./F", "1-0", "F/."},
		{"TTF/T.F/TFF", "1-4", "T.F/TTF/TFF"},
		{"TTF/T.F/TFF", "3-4", "TTF/.TF/TFF"},
		{"TTF/T.F/TFF", "5-4", "TTF/TF./TFF"},
		{"TTF/T.F/TFF", "7-4", "TTF/TFF/T.F"},
		{"TF./F../...", "0-2", ".FT/F../..."},
		{"TF./F../...", "0-6", ".F./F../T.."},
		{".../..T/.TF", "8-2", "..F/..T/.T."},
		{".../..T/.TF", "8-6", ".../..T/FT."},
		{"T..../...../...../...../....F", "24-19", "T..../...../...../....F/....."},
		// Not the other way, not to where somebody is, not from a gap, not askew, not to the same cell.
		{"TTF/T.F/TFF", "4-1", ""},
		{"TTF/T.F/TFF", "0-1", ""},
		{"TTF/T.F/TFF", "0-4", ""},
		{"TTF/T.F/TFF", "8-4", ""},
		{"TTF/T.F/TFF", "4-4", ""},
		{"TTF/T.F/TFF", "0-0", ""},
		{".T/..", "1-0", ""},
		{"../T.", "2-0", ""},
		{".F/..", "1-3", ""},
		{"F./..", "0-1", ""},
		// Not over the end of a row into the next one, by a slide or a jump, and not beside the board.
		{"..T/...", "2-3", ""},
		{".../F..", "3-2", ""},
		{"..T/F..", "2-4", ""},
		{"..T/F..", "3-1", ""},
		{".T/F.", "1-2", ""},
		{"T", "0-1", ""},
		{"F/.", "0-2", ""},
		{"./T", "1-2", ""},
		{"....T", "4-5", ""},
		// Not two cells on over a gap, over one of the same kind or over two.
		{"T..", "0-2", ""},
		{"T/./.", "0-2", ""},
		{"TT.", "0-2", ""},
		{"T/T/.", "0-2", ""},
		{"TFF.", "0-3", ""},
		{"T/F/F/.", "0-3", ""},
	} {
		checkOnBoard(t, c.board, movesNamed(c.move)[0], c.behind)
	}
	for _, m := range []impl.Move{{From: 0, To: -1}, {From: -1, To: 0}, {From: 0, To: -2}, {From: 0, To: -3}, {From: -1, To: -2}} {
		checkOnBoard(t, "F../...", m, "")
		checkOnBoard(t, "T../...", m, "")
	}
}

// checkPlayOnBoard holds what is told of a list of moves against the board behind them, and how many can be made.
func checkPlayOnBoard(t *testing.T, b string, moves []impl.Move, behind string, made int) {
	t.Helper()
	all := made == len(moves)
	if !all {
		behind = ""
	}
	if board, ok := impl.PlayOnBoard(b, moves); board != behind || ok != all {
		t.Errorf("PlayOnBoard %q %v: %q %v, want %q", b, moves, board, ok, behind)
	}
	wanted := made
	if all {
		wanted = 0
	}
	if k, ok := impl.BoardMoveThatFails(b, moves); k != wanted || ok == all {
		t.Errorf("BoardMoveThatFails %q %v: %d %v, want %d %v", b, moves, k, ok, wanted, !all)
	}
}

// playOnBoard makes moves until there is none, each time another one of those that can be made, as step tells; it returns the moves and all boards.
func playOnBoard(b string, step int) ([]impl.Move, []string) {
	var moves []impl.Move
	boards := []string{b}
	for {
		changes := boardChanges(b)
		if len(changes) == 0 {
			return moves, boards
		}
		c := changes[step*(len(moves)+1)%len(changes)]
		moves = append(moves, c.move)
		b = c.behind
		boards = append(boards, b)
	}
}

// TestPlaysOnBoards makes moves until the board is blocked, and tries one that cannot be made at each place.
func TestPlaysOnBoards(t *testing.T) {
	boards := append(boardsUpTo(5), bigBoards()...)
	boards = append(boards, "TTF/T.F/TFF", "TTF/.../TFF", "TT./T.F/.FF", "TTTFF/TT.FF/TTFFF", "TT./TT./..F/.FF")
	for k, b := range boards {
		moves, behind := playOnBoard(b, k%7)
		for made := range behind {
			checkPlayOnBoard(t, b, moves[:made], behind[made], made)
			bad := [5]impl.Move{{}, {From: -1, To: 0}, {From: 25, To: 24}, {From: 2, To: 2}, {From: 1 << 62, To: -1 << 62}}[made%5]
			checkPlayOnBoard(t, b, slices.Concat(moves[:made], []impl.Move{bad}), "", made)
			checkPlayOnBoard(t, b, slices.Concat(moves[:made], []impl.Move{bad}, moves[made:]), "", made)
		}
	}
}

func TestNamedPlaysOnBoards(t *testing.T) {
	for _, c := range []struct {
		board, moves, behind string
		made                 int
	}{
		{"T", "", "T", 0},
		{".", "", ".", 0},
		{"FFT/F.T/FTT", "", "FFT/F.T/FTT", 0},
		{"...../...../...../...../.....", "", "...../...../...../...../.....", 0},
		{"T./..", "0-1 1-3", "../.T", 2},
		{"T./..", "0-2 2-3", "../.T", 2},
		{"TF./F../...", "0-2 2-5 5-8", ".F./F../..T", 3},
		{"TTF/T.F/TFF", "1-4 2-1 5-2", "TFF/TT./TFF", 3},
		{"T..../...../...../...../....F", "0-1 24-19 1-6 19-18", "...../.T.../...../...F./.....", 4},
		// One that cannot be made at the first, a later and the last place.
		{"TTF/T.F/TFF", "4-1 1-4", "", 0},
		{"TTF/T.F/TFF", "1-4 1-4 2-1", "", 1},
		{"TTF/T.F/TFF", "1-4 2-1 2-1", "", 2},
		{"TTF/T.F/TFF", "1-4 2-1 5-2 0-0", "", 3},
		{"T.", "0-1 1-0", "", 1},
		{"FFT/F.T/FTT", "0-1", "", 0},
		{"T", "0-1", "", 0},
		{".T/..", "1-2", "", 0},
		{".T/..", "1-3 3-2", "", 1},
	} {
		checkPlayOnBoard(t, c.board, movesNamed(c.moves), c.behind, c.made)
	}
}

// TestMaxBoardMoves takes as many moves and more. No board has so many that can be made: each shortens the way, and the longest way is 140.
func TestMaxBoardMoves(t *testing.T) {
	if way, ok := impl.WayOnBoard("TTTTT/TTTTF/TTTFF/TTFFF/TFFFF"); way != 140 || !ok {
		t.Errorf("WayOnBoard is %d %v", way, ok)
	}
	first := "TTT../TTT../...../..FFF/..FFF"
	moves, _ := playOnBoard(first, 0)
	for made := 0; made <= len(moves); made += 5 {
		for n := 198; n <= 203; n++ {
			list := slices.Concat(moves[:made], make([]impl.Move, n-made))
			if board, ok := impl.PlayOnBoard(first, list); board != "" || ok {
				t.Errorf("PlayOnBoard of %d and %d moves: %q %v", made, n-made, board, ok)
			}
			wanted := made
			if n > 200 {
				wanted = 0
			}
			if k, ok := impl.BoardMoveThatFails(first, list); k != wanted || ok != (n <= 200) {
				t.Errorf("BoardMoveThatFails of %d and %d moves: %d %v", made, n-made, k, ok)
			}
		}
	}
}

func TestFirstAndLastBoards(t *testing.T) {
	for _, c := range []struct {
		wide, high  int
		first, last string
		length      int
	}{
		{0, 0, ".", ".", 0},
		{1, 0, "T.F", "F.T", 3},
		{2, 0, "TT.FF", "FF.TT", 8},
		{0, 1, "T/./F", "F/./T", 3},
		{1, 1, "TTF/T.F/TFF", "FFT/F.T/FTT", 12},
		{2, 1, "TTTFF/TT.FF/TTFFF", "FFFTT/FF.TT/FFTTT", 27},
		{0, 2, "T/T/./F/F", "F/F/./T/T", 8},
		{1, 2, "TTF/TTF/T.F/TFF/TFF", "FFT/FFT/F.T/FTT/FTT", 23},
		{2, 2, "TTTFF/TTTFF/TT.FF/TTFFF/TTFFF", "FFFTT/FFFTT/FF.TT/FFTTT/FFTTT", 48},
	} {
		if b, ok := impl.FirstBoard(c.wide, c.high); b != c.first || !ok {
			t.Errorf("FirstBoard %d %d: %q %v, want %q", c.wide, c.high, b, ok, c.first)
		}
		if b, ok := impl.LastBoard(c.wide, c.high); b != c.last || !ok {
			t.Errorf("LastBoard %d %d: %q %v, want %q", c.wide, c.high, b, ok, c.last)
		}
		if n, ok := impl.BoardLength(c.wide, c.high); n != c.length || !ok {
			t.Errorf("BoardLength %d %d: %d %v, want %d", c.wide, c.high, n, ok, c.length)
		}
	}
}

func checkExchangeBoard(t *testing.T, wide, high int, want []impl.Move) {
	t.Helper()
	if moves, ok := impl.ExchangeBoard(wide, high); !sameMoves(moves, want) || !ok {
		t.Errorf("ExchangeBoard %d %d: %v %v, want %v", wide, high, moves, ok, want)
	}
}

func TestNamedExchangesOfBoards(t *testing.T) {
	for _, c := range []struct {
		wide, high int
		moves      string
	}{
		{0, 0, ""},
		{1, 0, "0-1 2-0 1-2"},
		{0, 1, "0-1 2-0 1-2"},
		{2, 0, "1-2 3-1 4-3 2-4 0-2 1-0 3-1 2-3"},
		{0, 2, "1-2 3-1 4-3 2-4 0-2 1-0 3-1 2-3"},
		// Row 1, from row 0 to it, row 0, from row 2, row 2, and from row 1.
		{1, 1, "3-4 5-3 4-5  1-4  0-1 2-0 1-2  7-1  6-7 8-6 7-8  4-7"},
		{2, 1, "6-7 8-6 9-8 7-9 5-7 6-5 8-6 7-8  2-7  1-2 3-1 4-3 2-4 0-2 1-0 3-1 2-3  12-2  11-12 13-11 14-13 12-14 10-12 11-10 13-11 12-13  7-12"},
		{1, 2, "6-7 8-6 7-8  4-7  3-4 5-3 4-5  10-4  9-10 11-9 10-11  13-10  12-13 14-12 13-14  7-13 1-7  0-1 2-0 1-2  4-1 10-4 7-10"},
		{2, 2, "11-12 13-11 14-13 12-14 10-12 11-10 13-11 12-13  7-12  6-7 8-6 9-8 7-9 5-7 6-5 8-6 7-8  17-7  16-17 18-16 19-18 17-19 15-17 16-15 18-16 17-18" +
			"  22-17  21-22 23-21 24-23 22-24 20-22 21-20 23-21 22-23  12-22 2-12  1-2 3-1 4-3 2-4 0-2 1-0 3-1 2-3  7-2 17-7 12-17"},
	} {
		checkExchangeBoard(t, c.wide, c.high, movesNamed(c.moves))
	}
}

// TestExchangesOfBoardsAsTold makes the moves as the document tells them.
func TestExchangesOfBoardsAsTold(t *testing.T) {
	for wide := 0; wide <= impl.MaxHalf; wide++ {
		for high := 0; high <= impl.MaxHalf; high++ {
			first, _ := impl.FirstBoard(wide, high)
			told := toldExchange(first, wide, high)
			checkExchangeBoard(t, wide, high, told.moves)
			if last, ok := impl.LastBoard(wide, high); last != told.board || !ok {
				t.Errorf("LastBoard %d %d: %q %v, want %q", wide, high, last, ok, told.board)
			}
		}
	}
}

// TestExchangesOfBoardsLeadToTheLastOne checks the words of promise 8 on what the calls tell alone.
func TestExchangesOfBoardsLeadToTheLastOne(t *testing.T) {
	for wide := 0; wide <= impl.MaxHalf; wide++ {
		for high := 0; high <= impl.MaxHalf; high++ {
			first, _ := impl.FirstBoard(wide, high)
			last, _ := impl.LastBoard(wide, high)
			moves, ok := impl.ExchangeBoard(wide, high)
			if !ok {
				t.Errorf("ExchangeBoard %d %d fails", wide, high)
			}
			checkPlayOnBoard(t, first, moves, last, len(moves))
			length, ok := impl.BoardLength(wide, high)
			if want := high*high + 2*high + (2*high+1)*(wide*wide+2*wide); len(moves) != length || length != want || !ok {
				t.Errorf("BoardLength %d %d: %d %v, want %d of %d moves", wide, high, length, ok, want, len(moves))
			}
			if w, h, ok := impl.SizeOfBoard(first); w != 2*wide+1 || h != 2*high+1 || !ok {
				t.Errorf("SizeOfBoard of FirstBoard %d %d: %d %d %v", wide, high, w, h, ok)
			}
			if other, ok := impl.OtherBoard(first); other != first || !ok {
				t.Errorf("OtherBoard of FirstBoard %d %d: %q %v", wide, high, other, ok)
			}
			checkBoardMoves(t, last, nil)
		}
	}
}

// TestExchangesOfBoardsWithOneRowOrColumnAreThoseOfLines holds them against chapter 2.
func TestExchangesOfBoardsWithOneRowOrColumnAreThoseOfLines(t *testing.T) {
	for half := 0; half <= impl.MaxHalf; half++ {
		moves, ok := impl.FirstExchange(half, 1, half)
		if !ok {
			t.Errorf("FirstExchange of %d fails", half)
		}
		checkExchangeBoard(t, half, 0, moves)
		checkExchangeBoard(t, 0, half, moves)
	}
}

// checkRowsAndColumns holds them against those that are wanted, and asks for the ones beside them.
func checkRowsAndColumns(t *testing.T, b string, rows, columns []string) {
	t.Helper()
	for _, c := range []struct {
		name  string
		line  func(string, int) (string, bool)
		lines []string
	}{{"RowOfBoard", impl.RowOfBoard, rows}, {"ColumnOfBoard", impl.ColumnOfBoard, columns}} {
		for k, want := range c.lines {
			if line, ok := c.line(b, k); line != want || !ok {
				t.Errorf("%s %q %d: %q %v, want %q", c.name, b, k, line, ok, want)
			}
		}
		for _, k := range []int{-1, len(c.lines)} {
			if line, ok := c.line(b, k); line != "" || ok {
				t.Errorf("%s %q %d: %q %v", c.name, b, k, line, ok)
			}
		}
	}
}

func TestRowsAndColumnsOfNamedBoards(t *testing.T) {
	for _, c := range []struct{ board, rows, columns string }{
		{"T", "T", "T"},
		{"T.F", "T.F", "T . F"},
		{"T/./F", "T . F", "T.F"},
		{"TTF/T.F/TFF", "TTF T.F TFF", "TTT T.F FFF"},
		{"TF./F.T", "TF. F.T", "TF F. .T"},
		{"TF/../FT/F.", "TF .. FT F.", "T.FF F.T."},
		{"T...F/.TTF./FF.../T.T.T/..F..", "T...F .TTF. FF... T.T.T ..F..", "T.FT. .TF.. .T.TF .F... F..T."},
	} {
		checkRowsAndColumns(t, c.board, strings.Fields(c.rows), strings.Fields(c.columns))
	}
}

// checkCrossed holds a board against the one with rows and columns taken for each other, both ways.
func checkCrossed(t *testing.T, b, want string) {
	t.Helper()
	if board, ok := impl.CrossBoard(b); board != want || !ok {
		t.Errorf("CrossBoard %q: %q %v, want %q", b, board, ok, want)
	}
	if board, ok := impl.CrossBoard(want); board != b || !ok {
		t.Errorf("CrossBoard %q: %q %v, want %q", want, board, ok, b)
	}
}

// checkOtherBoard holds a board against the one from the other side, both ways.
func checkOtherBoard(t *testing.T, b, want string) {
	t.Helper()
	if board, ok := impl.OtherBoard(b); board != want || !ok {
		t.Errorf("OtherBoard %q: %q %v, want %q", b, board, ok, want)
	}
	if board, ok := impl.OtherBoard(want); board != b || !ok {
		t.Errorf("OtherBoard %q: %q %v, want %q", want, board, ok, b)
	}
}

func checkWayOnBoard(t *testing.T, b string, want int) {
	t.Helper()
	if way, ok := impl.WayOnBoard(b); way != want || !ok {
		t.Errorf("WayOnBoard %q: %d %v, want %d", b, way, ok, want)
	}
}

func TestNamedMirroredBoards(t *testing.T) {
	for _, c := range []struct {
		board, crossed, other string
		way                   int
	}{
		{"T", "T", "F", 0},
		{".", ".", ".", 0},
		{"F", "F", "T", 0},
		{"T.", "T/.", ".F", 1},
		{".F", "./F", "T.", 1},
		{"F.", "F/.", ".T", 0},
		{"T/.", "T.", "./F", 1},
		{"T.F", "T/./F", "T.F", 4},
		{"TF/..", "T./F.", "../TF", 3},
		{"TTF/T.F/TFF", "TTT/T.F/FFF", "TTF/T.F/TFF", 24},
		{"FFT/F.T/FTT", "FFF/F.T/TTT", "FFT/F.T/FTT", 8},
		{"TF./F.T", "TF/F./.T", "F.T/.TF", 5},
		{"T.../..F.", "T./../.F/..", ".T../...F", 7},
		{"T..../...../...../...../.....", "T..../...../...../...../.....", "...../...../...../...../....F", 8},
		{"....T/...../...../...../.....", "...../...../...../...../T....", "...../...../...../...../F....", 4},
		{"...../...../...../...../....T", "...../...../...../...../....T", "F..../...../...../...../.....", 0},
		{"...../...../...../...../....F", "...../...../...../...../....F", "T..../...../...../...../.....", 8},
		{"...../..F../...../...../.....", "...../...../.F.../...../.....", "...../...../...../..T../.....", 3},
		{"TTTTT/TTTTT/TTTTT/TTTTT/TTTTT", "TTTTT/TTTTT/TTTTT/TTTTT/TTTTT", "FFFFF/FFFFF/FFFFF/FFFFF/FFFFF", 100},
		{"...../...../...../...../.....", "...../...../...../...../.....", "...../...../...../...../.....", 0},
		{"TT.FF", "T/T/./F/F", "TT.FF", 14},
	} {
		checkCrossed(t, c.board, c.crossed)
		checkOtherBoard(t, c.board, c.other)
		checkWayOnBoard(t, c.board, c.way)
		checkWayOnBoard(t, c.crossed, c.way)
		checkWayOnBoard(t, c.other, c.way)
	}
}

func TestAllSmallBoardsAndSomeBigOnesMirrored(t *testing.T) {
	for _, b := range append(boardsUpTo(8), bigBoards()...) {
		checkCrossed(t, b, crossed(b))
		checkOtherBoard(t, b, otherOf(b))
		checkWayOnBoard(t, b, wayOnBoardOf(b))
		checkRowsAndColumns(t, b, strings.Split(b, "/"), strings.Split(crossed(b), "/"))
	}
}

// checkMovesAlike checks that two boards have the same moves, as renumbered tells them, and that the boards behind them are mirrored too.
func checkMovesAlike(t *testing.T, b string, mirror func(string) (string, bool), renumbered func(int) int) {
	t.Helper()
	mirrored, _ := mirror(b)
	moves, _ := impl.BoardMoves(b)
	var want []impl.Move
	for _, m := range moves {
		there := impl.Move{From: renumbered(m.From), To: renumbered(m.To)}
		behind, _ := impl.MakeOnBoard(b, m)
		mirroredBehind, ok := mirror(behind)
		if !ok {
			t.Errorf("%q has no mirrored board", behind)
		}
		checkOnBoard(t, mirrored, there, mirroredBehind)
		want = append(want, there)
	}
	slices.SortFunc(want, compareMoves)
	checkBoardMoves(t, mirrored, want)
}

// TestMirroredBoardsMoveAlike checks on what the calls tell alone that boards and their mirrored ones have the same moves.
func TestMirroredBoardsMoveAlike(t *testing.T) {
	for _, b := range append(boardsUpTo(6), bigBoards()...) {
		wide, high, _ := impl.SizeOfBoard(b)
		checkMovesAlike(t, b, impl.CrossBoard, func(cell int) int { return cell%wide*high + cell/wide })
		checkMovesAlike(t, b, impl.OtherBoard, func(cell int) int { return wide*high - 1 - cell })
	}
}

// TestMovesShortenTheWayOnBoards checks that slides shorten it by one, and jumps by two.
func TestMovesShortenTheWayOnBoards(t *testing.T) {
	for _, b := range append(boardsUpTo(6), bigBoards()...) {
		way, _ := impl.WayOnBoard(b)
		wide, _, _ := impl.SizeOfBoard(b)
		moves, _ := impl.BoardMoves(b)
		for _, m := range moves {
			steps := max(m.From, m.To) - min(m.From, m.To)
			if m.From/wide != m.To/wide {
				steps /= wide
			}
			behind, _ := impl.MakeOnBoard(b, m)
			checkWayOnBoard(t, behind, way-steps)
		}
	}
}

// TestBoardsOfOneRowMoveAsLines checks the words of promise 8 against chapter 1, on boards of one row and, crossed, of one column.
func TestBoardsOfOneRowMoveAsLines(t *testing.T) {
	for _, w := range linesUpTo(5) {
		column := strings.Join(strings.Split(w, ""), "/")
		checkCrossed(t, w, column)
		moves, _ := impl.MovesOf(w)
		blocked, _ := impl.IsBlocked(w)
		if blocked != (len(moves) == 0) {
			t.Errorf("IsBlocked %q: %v", w, blocked)
		}
		other, _ := impl.OtherLine(w)
		checkOtherBoard(t, w, other)
		checkRowsAndColumns(t, w, []string{w}, strings.Split(w, ""))
		for _, b := range []string{w, column} {
			checkBoardMoves(t, b, moves)
			for _, m := range cellMoves(w) {
				behind, _ := impl.MakeMove(w, m)
				if b != w {
					behind = strings.Join(strings.Split(behind, ""), "/")
				}
				checkOnBoard(t, b, m, behind)
			}
		}
		play, _ := playOnBoard(w, len(w))
		for made := range len(play) + 1 {
			for _, list := range [][]impl.Move{play[:made], slices.Concat(play[:made], movesNamed("0-0")), play[made:]} {
				checkPlayAsLine(t, w, list)
			}
		}
	}
}

func checkPlayAsLine(t *testing.T, w string, moves []impl.Move) {
	t.Helper()
	line, made := impl.PlayMoves(w, moves)
	if b, ok := impl.PlayOnBoard(w, moves); b != line || ok != made {
		t.Errorf("PlayOnBoard %q %v: %q %v, on the line %q %v", w, moves, b, ok, line, made)
	}
	index, fails := impl.MoveThatFails(w, moves)
	if k, ok := impl.BoardMoveThatFails(w, moves); k != index || ok != fails {
		t.Errorf("BoardMoveThatFails %q %v: %d %v, on the line %d %v", w, moves, k, ok, index, fails)
	}
}

func TestExampleOfBoards(t *testing.T) {
	if b, ok := impl.FirstBoard(1, 1); b != "TTF/T.F/TFF" || !ok {
		t.Errorf("FirstBoard: %q %v", b, ok)
	}
	if b, ok := impl.LastBoard(1, 1); b != "FFT/F.T/FTT" || !ok {
		t.Errorf("LastBoard: %q %v", b, ok)
	}
	if n, ok := impl.BoardLength(1, 1); n != 12 || !ok {
		t.Errorf("BoardLength: %d %v", n, ok)
	}
	checkBoardMoves(t, "TTF/T.F/TFF", []impl.Move{{From: 1, To: 4}, {From: 3, To: 4}, {From: 5, To: 4}, {From: 7, To: 4}})
	checkCrossed(t, "TTF/T.F/TFF", "TTT/T.F/FFF")
	checkWayOnBoard(t, "T.", 1)
	checkWayOnBoard(t, ".F", 1)
}
