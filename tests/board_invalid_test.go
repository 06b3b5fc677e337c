package tests

import (
	"math"
	"slices"
	"strings"
	"testing"

	"loop.example/g01271/impl"
)

// Promise 11 for chapter 8: all arguments are taken without a panic, invalid ones give zero values, and none is changed.

// checkNoBoard checks that nothing is told of a text that is no board.
func checkNoBoard(t *testing.T, b string) {
	t.Helper()
	if impl.IsBoard(b) {
		t.Errorf("IsBoard %q", b)
	}
	if wide, high, ok := impl.SizeOfBoard(b); wide != 0 || high != 0 || ok {
		t.Errorf("SizeOfBoard %q: %d %d %v", b, wide, high, ok)
	}
	if moves, ok := impl.BoardMoves(b); len(moves) != 0 || ok {
		t.Errorf("BoardMoves %q: %v %v", b, moves, ok)
	}
	if blocked, ok := impl.IsBoardBlocked(b); blocked || ok {
		t.Errorf("IsBoardBlocked %q: %v %v", b, blocked, ok)
	}
	if way, ok := impl.WayOnBoard(b); way != 0 || ok {
		t.Errorf("WayOnBoard %q: %d %v", b, way, ok)
	}
	for name, f := range map[string]func(string) (string, bool){"CrossBoard": impl.CrossBoard, "OtherBoard": impl.OtherBoard} {
		if board, ok := f(b); board != "" || ok {
			t.Errorf("%s %q: %q %v", name, b, board, ok)
		}
	}
}

// checkNoLineOfBoard checks that there is neither a row nor a column with an index.
func checkNoLineOfBoard(t *testing.T, b string, row, column int) {
	t.Helper()
	if line, ok := impl.RowOfBoard(b, row); line != "" || ok {
		t.Errorf("RowOfBoard %q %d: %q %v", b, row, line, ok)
	}
	if line, ok := impl.ColumnOfBoard(b, column); line != "" || ok {
		t.Errorf("ColumnOfBoard %q %d: %q %v", b, column, line, ok)
	}
}

// checkNoPlayOnBoard checks that nothing is told of a list of moves, as the board or the list is invalid.
func checkNoPlayOnBoard(t *testing.T, b string, moves []impl.Move) {
	t.Helper()
	if board, ok := impl.PlayOnBoard(b, moves); board != "" || ok {
		t.Errorf("PlayOnBoard %q of %d moves: %q %v", b, len(moves), board, ok)
	}
	if k, ok := impl.BoardMoveThatFails(b, moves); k != 0 || ok {
		t.Errorf("BoardMoveThatFails %q of %d moves: %d %v", b, len(moves), k, ok)
	}
}

func TestTextsThatAreNoBoards(t *testing.T) {
	for _, b := range noBoards() {
		checkNoBoard(t, b)
		for _, k := range []int{0, 1, 2, -1, 5, math.MinInt, math.MaxInt} {
			checkNoLineOfBoard(t, b, k, k)
		}
	}
}

// TestEachByteInABoard takes all bytes as a sign of a board of one cell and among others, and between rows.
func TestEachByteInABoard(t *testing.T) {
	for sign := range 256 {
		text := string([]byte{byte(sign)})
		if valid := strings.Contains(".FT", text); !valid {
			checkNoBoard(t, text)
			checkNoBoard(t, "T"+text+"F/T.F/TFF")
			checkNoBoard(t, "TTF/T.F/TF"+text)
		} else if !impl.IsBoard(text) || !impl.IsBoard("T"+text+"F/T.F/TFF") {
			t.Errorf("IsBoard %q is false", text)
		}
		if text != "/" {
			checkNoBoard(t, "TTF"+text+"T.F"+text+"TFF")
		}
	}
}

// TestTextsWithEachPlaceOfRows takes a "/" at each place of a text: it is a board if all rows have as many cells then.
func TestTextsWithEachPlaceOfRows(t *testing.T) {
	for cells := 1; cells <= 9; cells++ {
		for place := range cells + 1 {
			b := strings.Repeat("T", place) + "/" + strings.Repeat("F", cells-place)
			if 2*place == cells {
				if !impl.IsBoard(b) {
					t.Errorf("IsBoard %q is false", b)
				}
				continue
			}
			checkNoBoard(t, b)
		}
	}
}

// TestMovesOnNoBoards takes moves of any numbers, and lists of them.
func TestMovesOnNoBoards(t *testing.T) {
	moves := edgeMoves()
	for k, b := range noBoards() {
		for _, m := range append(cellMoves("T.F"), moves[k%len(moves)]) {
			if board, ok := impl.MakeOnBoard(b, m); board != "" || ok {
				t.Errorf("MakeOnBoard %q %v: %q %v", b, m, board, ok)
			}
		}
		for _, list := range [][]impl.Move{nil, {}, {{From: 0, To: 1}}, {{From: 1, To: 4}}, moves[:200], moves[:201]} {
			checkNoPlayOnBoard(t, b, list)
		}
	}
	for _, b := range noBoards()[:60] {
		for _, m := range moves {
			if board, ok := impl.MakeOnBoard(b, m); board != "" || ok {
				t.Errorf("MakeOnBoard %q %v: %q %v", b, m, board, ok)
			}
			checkNoPlayOnBoard(t, b, []impl.Move{m})
		}
	}
}

// TestListsOfMoreBoardMoves takes lists of more than MaxBoardMoves moves, of which the first ones or none could be made.
func TestListsOfMoreBoardMoves(t *testing.T) {
	for _, n := range []int{201, 202, 256, 1000, 100000} {
		for _, b := range []string{"T", "T.F", "TTF/T.F/TFF", "T..../...../...../...../....F", "../.."} {
			checkNoPlayOnBoard(t, b, make([]impl.Move, n))
			checkNoPlayOnBoard(t, b, slices.Repeat(movesNamed("0-1"), n))
			checkNoPlayOnBoard(t, b, slices.Repeat(movesNamed("1-4 3-4"), n)[:n])
		}
	}
}

// TestPlaysWithAnyNumbersOnBoards takes moves of any numbers as the first and as a later one.
func TestPlaysWithAnyNumbersOnBoards(t *testing.T) {
	for _, m := range edgeMoves() {
		for _, c := range []struct{ board, before string }{{"T", ""}, {"T./.F", ""}, {"T./.F", "0-1"}, {"TTF/T.F/TFF", "1-4 2-1"}, {"TTTFF/TTTFF/TT.FF/TTFFF/TTFFF", "11-12"}} {
			moves := movesNamed(c.before)
			board, _ := impl.PlayOnBoard(c.board, moves)
			behind, can := impl.MakeOnBoard(board, m)
			made := len(moves)
			if can {
				made++
			}
			checkPlayOnBoard(t, c.board, append(moves, m), behind, made)
		}
	}
}

// TestBadHalves takes all pairs of halves in and out of bounds, the least and greatest int among them.
func TestBadHalves(t *testing.T) {
	halves := append(edgeNumbers(), math.MinInt/2, math.MaxInt/2, 1<<32, 1<<32+1, -1<<32, 1<<62, 1<<63-2)
	for _, wide := range halves {
		for _, high := range halves {
			valid := wide >= 0 && wide <= 2 && high >= 0 && high <= 2
			for name, f := range map[string]func(int, int) (string, bool){"FirstBoard": impl.FirstBoard, "LastBoard": impl.LastBoard} {
				if b, ok := f(wide, high); ok != valid || (b != "") != valid {
					t.Errorf("%s %d %d: %q %v", name, wide, high, b, ok)
				}
			}
			some := valid && (wide > 0 || high > 0)
			if moves, ok := impl.ExchangeBoard(wide, high); ok != valid || (len(moves) != 0) != some {
				t.Errorf("ExchangeBoard %d %d: %v %v", wide, high, moves, ok)
			}
			if n, ok := impl.BoardLength(wide, high); ok != valid || (n != 0) != some {
				t.Errorf("BoardLength %d %d: %d %v", wide, high, n, ok)
			}
		}
	}
}

// TestRowsAndColumnsOutOfBounds takes numbers below 0 and from their number on, which is another one for rows than for columns.
func TestRowsAndColumnsOutOfBounds(t *testing.T) {
	for _, b := range append(boardsUpTo(3), bigBoards()...) {
		wide, high, _ := impl.SizeOfBoard(b)
		for _, k := range append(edgeNumbers(), 1<<32, -1<<32) {
			row, ok := impl.RowOfBoard(b, k)
			if valid := k >= 0 && k < high; ok != valid || len(row) > 0 != valid {
				t.Errorf("RowOfBoard %q %d: %q %v", b, k, row, ok)
			}
			column, ok := impl.ColumnOfBoard(b, k)
			if valid := k >= 0 && k < wide; ok != valid || len(column) > 0 != valid {
				t.Errorf("ColumnOfBoard %q %d: %q %v", b, k, column, ok)
			}
		}
		checkNoLineOfBoard(t, b, high, wide)
		checkNoLineOfBoard(t, b, -1, -1)
		checkNoLineOfBoard(t, b, math.MinInt, math.MinInt)
		checkNoLineOfBoard(t, b, math.MaxInt, math.MaxInt)
	}
}

// TestMovesOnBoardsAreNotChanged gives lists with moves behind their length, which must neither be read nor changed.
func TestMovesOnBoardsAreNotChanged(t *testing.T) {
	exchange, _ := impl.ExchangeBoard(1, 1)
	for _, moves := range [][]impl.Move{nil, movesNamed("1-4"), movesNamed("1-4 2-1 5-2"), movesNamed("1-4 9-9"), exchange, edgeMoves()[:200], edgeMoves()[:201]} {
		for _, b := range []string{"TTF/T.F/TFF", "T", "", "TTF/T.F/TF", "TT.FF", "x"} {
			list := spareRoom(moves)
			board, ok := impl.PlayOnBoard(b, list)
			checkKept(t, "PlayOnBoard", list, moves)
			k, fails := impl.BoardMoveThatFails(b, list)
			checkKept(t, "BoardMoveThatFails", list, moves)
			tight := slices.Clip(slices.Clone(moves))
			if want, made := impl.PlayOnBoard(b, tight); board != want || ok != made {
				t.Errorf("PlayOnBoard %q %v: %q %v with room, %q %v without", b, moves, board, ok, want, made)
			}
			if want, failed := impl.BoardMoveThatFails(b, tight); k != want || fails != failed {
				t.Errorf("BoardMoveThatFails %q %v: %d %v with room, %d %v without", b, moves, k, fails, want, failed)
			}
		}
	}
}

// TestResultsOfBoardsAreNew spoils results with the room behind them, and asks again.
func TestResultsOfBoardsAreNew(t *testing.T) {
	for name, f := range map[string]func() ([]impl.Move, bool){
		"BoardMoves":    func() ([]impl.Move, bool) { return impl.BoardMoves("TTF/T.F/TFF") },
		"ExchangeBoard": func() ([]impl.Move, bool) { return impl.ExchangeBoard(2, 2) },
	} {
		moves, _ := f()
		kept := slices.Clone(moves)
		spoil(moves)
		if again, ok := f(); len(kept) == 0 || !sameMoves(again, kept) || !ok {
			t.Errorf("%s gives %v, then %v", name, kept, again)
		}
	}
	spoilt, _ := impl.ExchangeBoard(2, 2)
	spoil(spoilt)
	if moves, ok := impl.FirstExchange(2, 1, 2); !sameMoves(moves, movesNamed("1-2 3-1 4-3 2-4 0-2 1-0 3-1 2-3")) || !ok {
		t.Errorf("FirstExchange gives %v %v", moves, ok)
	}
}

// TestBoardsAreNotChanged gives boards that are parts of a longer text, of which nothing may be changed.
func TestBoardsAreNotChanged(t *testing.T) {
	text := strings.Repeat("TTF/T.F/TFF/", 3)
	kept := strings.Clone(text)
	for from := range len(text) {
		for to := from; to <= len(text); to++ {
			b := text[from:to]
			impl.IsBoard(b)
			impl.SizeOfBoard(b)
			impl.BoardMoves(b)
			impl.MakeOnBoard(b, impl.Move{From: 1, To: 4})
			impl.PlayOnBoard(b, movesNamed("1-4 2-1"))
			impl.BoardMoveThatFails(b, movesNamed("1-4 2-1"))
			impl.RowOfBoard(b, 0)
			impl.ColumnOfBoard(b, 0)
			impl.CrossBoard(b)
			impl.OtherBoard(b)
			impl.IsBoardBlocked(b)
			impl.WayOnBoard(b)
			if text != kept {
				t.Fatalf("a call with %q changed its text to %q", kept[from:to], text)
			}
		}
	}
}
