package tests

import (
	"slices"
	"strings"

	"loop.example/g01271/impl"
)

// The helpers tell boards again on their texts, where the cell below is by a row and a "/" farther on, and a "/" is a wall, so that they share no idea with the program.

// farBelow tells how far behind a sign the one below it is in the text of a board.
func farBelow(b string) int {
	return strings.Index(b+"/", "/") + 1
}

// cellAt tells which cell a place in the text of a board is.
func cellAt(b string, place int) int {
	return place - strings.Count(b[:place], "/")
}

// rewritten returns a board with some signs, each so far behind the one before, for others. It fails unless the others are there.
func rewritten(b string, place, far int, before, after string) (string, bool) {
	signs := []byte(b)
	for k := range len(before) {
		if place >= len(b) || b[place] != before[k] {
			return "", false
		}
		signs[place] = after[k]
		place += far
	}
	return string(signs), true
}

// boardChanges returns the moves of a board with the boards behind them, ordered by From, then by To.
func boardChanges(b string) []change {
	var all []change
	for place := range len(b) {
		for _, far := range []int{1, farBelow(b)} {
			rewrite := func(before, after string, onward bool) {
				behind, is := rewritten(b, place, far, before, after)
				if !is {
					return
				}
				m := impl.Move{From: cellAt(b, place), To: cellAt(b, place+far*(len(before)-1))}
				if !onward {
					m = impl.Move{From: m.To, To: m.From}
				}
				all = append(all, change{m, behind})
			}
			rewrite("T.", ".T", true)
			rewrite("TF.", ".FT", true)
			rewrite(".F", "F.", false)
			rewrite(".TF", "FT.", false)
		}
	}
	slices.SortFunc(all, func(a, b change) int { return compareMoves(a.move, b.move) })
	return all
}

func boardMovesOf(b string) []impl.Move {
	var moves []impl.Move
	for _, c := range boardChanges(b) {
		moves = append(moves, c.move)
	}
	return moves
}

// inRows cuts signs into rows of so many cells.
func inRows(signs string, wide int) string {
	b := ""
	for k, sign := range signs {
		if k > 0 && k%wide == 0 {
			b += "/"
		}
		b += string(sign)
	}
	return b
}

// boardOfOne returns a board with the same sign in all cells.
func boardOfOne(sign string, wide, high int) string {
	return inRows(strings.Repeat(sign, wide*high), wide)
}

// boardsOf returns all boards of so many rows of so many cells.
func boardsOf(wide, high int) []string {
	var boards []string
	for _, signs := range textsOf(".FT", wide*high) {
		boards = append(boards, inRows(signs, wide))
	}
	return boards
}

// boardsUpTo returns all boards of 1 up to so many cells, of all sizes.
func boardsUpTo(cells int) []string {
	var boards []string
	for wide := 1; wide <= 5; wide++ {
		for high := 1; high <= 5 && wide*high <= cells; high++ {
			boards = append(boards, boardsOf(wide, high)...)
		}
	}
	return boards
}

// mixedBoards returns boards of all sizes, with fewer gaps and with more: the signs are those of numbers that follow a rule.
func mixedBoards() []string {
	var boards []string
	z := 1
	for wide := 1; wide <= 5; wide++ {
		for high := 1; high <= 5; high++ {
			for _, choice := range []string{".FT", ".FTFTFT", "....FT", "TTF", "...T", ".FF", ".TTFFTFFTTFTTFFTFTFF"} {
				signs := ""
				for range wide * high {
					z = (z*1103 + 12345) % 99991
					signs += choice[z%len(choice):][:1]
				}
				boards = append(boards, inRows(signs, wide))
			}
		}
	}
	return boards
}

// bigBoards returns boards of 5 rows of 5 cells: with no gap, of gaps alone, of one kind alone, blocked ones, first and last ones, and others; then mixed ones of all sizes.
func bigBoards() []string {
	return append([]string{
		boardOfOne(".", 5, 5), boardOfOne("T", 5, 5), boardOfOne("F", 5, 5), "TFTFT/FTFTF/TFTFT/FTFTF/TFTFT",
		"TTTFF/TTTFF/TT.FF/TTFFF/TTFFF", "FFFTT/FFFTT/FF.TT/FFTTT/FFTTT",
		"TTTTT/TTFTT/TF.TF/TTTTT/TTFTT", "T..../...../...../...../....F", "F..../...../...../...../....T", "....T/...../...../...../F....",
		"TTTTT/TTTTT/...../FFFFF/FFFFF", "TF.TF/TF.TF/TF.TF/TF.TF/TF.TF", "TTTTT/FFFFF/...../TTTTT/FFFFF", "...../.TTT./.T.F./.FFF./.....",
		"TTTT./TTT../TT.../T..../.....", "...../....F/...FF/..FFF/.FFFF", "TTTTT/TTTTT/TTTT./TTTTT/TTTTT", ".FFFF/FFFFF/FFFFF/FFFFF/FFFFF",
	}, mixedBoards()...)
}

// crossed returns a board with its rows as columns: the first signs of all rows, then the second ones, and so on.
func crossed(b string) string {
	rows := strings.Split(b, "/")
	var columns []string
	for column := range rows[0] {
		text := ""
		for _, row := range rows {
			text += row[column : column+1]
		}
		columns = append(columns, text)
	}
	return strings.Join(columns, "/")
}

// wayOnBoardOf adds up how far all are from the ends of their rows and columns.
func wayOnBoardOf(b string) int {
	way := 0
	for _, line := range append(strings.Split(b, "/"), strings.Split(crossed(b), "/")...) {
		for cell, sign := range line {
			switch sign {
			case 'T':
				way += len(line) - 1 - cell
			case 'F':
				way += cell
			}
		}
	}
	return way
}

// A gapPlay is played on a board with one gap: what is told is who comes into it.
type gapPlay struct {
	board string
	moves []impl.Move
}

func (p *gapPlay) gap() int {
	return strings.Index(p.board, ".")
}

// come lets one of a kind come into the gap, by a slide or else by a jump, along a row or a column, as how far the cells of these are from each other tells.
func (p *gapPlay) come(kind byte, far int) {
	gap := p.gap()
	back := far
	if kind == 'T' {
		back = -far
	}
	from := gap + back
	if p.board[from] != kind {
		from += back
	}
	p.moves = append(p.moves, impl.Move{From: cellAt(p.board, from), To: cellAt(p.board, gap)})
	signs := []byte(p.board)
	signs[gap], signs[from] = signs[from], signs[gap]
	p.board = string(signs)
}

// toldExchange makes the moves that the document tells. Of no, one and two toads, a gap and as many frogs, who comes in FirstExchange is written out.
func toldExchange(first string, wide, high int) gapPlay {
	whoComes := [3]string{"", "TFT", "TFFTTFFT"}
	p := gapPlay{board: first}
	below := farBelow(first)
	seen := map[int]bool{}
	row := func() {
		if at := p.gap() / below; !seen[at] {
			seen[at] = true
			for _, kind := range []byte(whoComes[wide]) {
				p.come(kind, 1)
			}
		}
	}
	row()
	for _, kind := range []byte(whoComes[high]) {
		p.come(kind, below)
		row()
	}
	return p
}

// noBoards returns texts that are no boards.
func noBoards() []string {
	texts := []string{
		// The empty text, and a "/" at the beginning, at the end and beside another one.
		"", "/", "//", "///", "////", "/////", "T/", "/T", "./", "/.", "/T/", "T//F", "//T", "T//", "TTF/T.F/TFF/", "/TTF/T.F/TFF", "TTF//T.F/TFF", "TTF/T.F//TFF", "TTF/T.F/TFF//", "T/F/T/F/", "/T/F/T/F", "T/F/T/F/T/", "/T/F/T/F/T", "TT//FF",
		// Rows of different lengths.
		"T/TT", "TT/T", "TT/TT/T", "TT/T/TT", "T/TT/TT", "TTF/T./TFF", "TTF/T.F/TF", "TT/T.F/TFF", "TTFF/T.F/TFF", "TTF/T.FF/TFF", "TTF/T.F/TFFF", "....././...../...../.....", "...../...../...../...../....", "T/TTTTT", "TT.FF/T",
		// Rows of more than 5 cells.
		"TT..FF", "......", "TTTTTT/FFFFFF", "...../......", "T.....F/T.....F", "TTTT....FFFF", "TTTTTTTTTTTTT", "......././././.", "TTF.T.F.TFF",
		// More than 5 rows.
		"T/T/T/T/T/T", "./././././.", "TT/TT/TT/TT/TT/TT", "...../...../...../...../...../.....", "T/F/T/F/T/F/T", "T/F/T/F/T/FF",
		// Other signs.
		"x", "t", "f", "0", " ", "TTF/TxF/TFF", "ttf/t.f/tff", "TTF/T F/TFF", "TTF/T_F/TFF", "TTF\\T.F\\TFF", "TTF|T.F|TFF", "TTF,T.F,TFF", "TTF\nT.F\nTFF", "TTF/T.F/TFF\n", "TTF/T.F/TFF ", " TTF/T.F/TFF", "TTF/ T.F/TFF", "TTF /T.F/TFF", "TTF/T.F/TF\x00", "TTF/T.F/TFF\x00", "\x00", "T\x00", "TTF/T-F/TFF", "TTF/T\u2024F/TFF", "\u0422\u0422F/T.F", "\u00e9/T.", "\xff/\xff", "T\xff", "TT\u2044FF", "TTF/T.F/TFF/x", "x/TTF/T.F/TFF",
		// Very long texts.
		strings.Repeat("/", 1000), strings.Repeat("T", 1000), strings.Repeat("T/", 1000), strings.Repeat("T/", 1000) + "T", strings.Repeat("TT.FF/", 1000) + "TT.FF", strings.Repeat(".", 256), strings.Repeat(".", 257),
		strings.Repeat("T/", 256) + "T", strings.Repeat("T", 261) + "/T",
	}
	for _, b := range []string{"T", "T.F", "TTF/T.F/TFF", "TTTFF/TTTFF/TT.FF/TTFFF/TTFFF"} {
		for place := range len(b) {
			for _, sign := range []string{"t", "f", "x", " ", "\x00", "\n", "\xff", ",", "\\", "0", "-", "G", "E", "S", "U", "//", "./", "/."} {
				texts = append(texts, b[:place]+sign+b[place+1:])
			}
		}
	}
	return texts
}

// cellMoves returns all moves between the cells of a board, each one to itself and those to one cell beside the board with them.
func cellMoves(b string) []impl.Move {
	cells := len(b) - strings.Count(b, "/")
	var moves []impl.Move
	for from := -1; from <= cells; from++ {
		for to := -1; to <= cells; to++ {
			moves = append(moves, impl.Move{From: from, To: to})
		}
	}
	return moves
}
