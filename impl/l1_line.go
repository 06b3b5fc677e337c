package impl

import (
	"slices"
	"strings"
)

const MaxCells = 12

// maxMoves is the greatest length of a list of moves.
const maxMoves = 100

const (
	gapSign  byte = '.'
	frogSign byte = 'F'
	toadSign byte = 'T'
)

// signsInOrder has the signs in the order in which lines are compared.
const signsInOrder = ".FT"

type Move struct {
	From int
	To   int
}

// A play is a move on a line, whether it can be made there or not.
type play struct {
	Move
	line string
}

// counts tells how many of each of signsInOrder there are.
type counts [len(signsInOrder)]int

// IsLine reports whether a text is a line.
func IsLine(w string) bool {
	if len(w) < 1 || len(w) > MaxCells {
		return false
	}
	for cell := range len(w) {
		if strings.IndexByte(signsInOrder, w[cell]) < 0 {
			return false
		}
	}
	return true
}

// areCounts checks each number before their sum, which could wrap around.
func areCounts(toads int, gaps int, frogs int) bool {
	for _, many := range (counts{gaps, frogs, toads}) {
		if many < 0 || many > MaxCells {
			return false
		}
	}
	cells := toads + gaps + frogs
	return cells >= 1 && cells <= MaxCells
}

// FirstLine returns the line with all toads at the left, all frogs at the right, and the gaps between.
func FirstLine(toads int, gaps int, frogs int) (string, bool) {
	if !areCounts(toads, gaps, frogs) {
		return "", false
	}
	return strings.Repeat("T", toads) + strings.Repeat(".", gaps) + strings.Repeat("F", frogs), true
}

// LastLine returns the line with as many of each, all frogs at the left, all toads at the right, and the gaps between.
func LastLine(w string) (string, bool) {
	toads, gaps, frogs, ok := CountOf(w)
	if !ok {
		return "", false
	}
	return strings.Repeat("F", frogs) + strings.Repeat(".", gaps) + strings.Repeat("T", toads), true
}

// CountOf returns how many toads, gaps and frogs a line has.
func CountOf(w string) (int, int, int, bool) {
	if !IsLine(w) {
		return 0, 0, 0, false
	}
	return strings.Count(w, "T"), strings.Count(w, "."), strings.Count(w, "F"), true
}

// signIn returns 0 for a cell outside the line, so that nothing goes there.
func signIn(w string, cell int) byte {
	if cell < 0 || cell >= len(w) {
		return 0
	}
	return w[cell]
}

// moveFrom returns the move of the animal in a cell, or, if there is none, one that ends where it begins.
// An animal never has two moves, as it jumps only over another one that keeps it from sliding.
func moveFrom(w string, from int) Move {
	step, other := 1, frogSign
	switch signIn(w, from) {
	case toadSign:
	case frogSign:
		step, other = -1, toadSign
	default:
		return Move{from, from}
	}
	next := from + step
	behind := next + step
	switch {
	case signIn(w, next) == gapSign:
		return Move{from, next}
	case signIn(w, next) == other && signIn(w, behind) == gapSign:
		return Move{from, behind}
	}
	return Move{from, from}
}

func (p play) canBeMade() bool {
	return p.From != p.To && p.Move == moveFrom(p.line, p.From)
}

func (p play) isOfToad() bool {
	return p.canBeMade() && p.line[p.From] == toadSign
}

func (p play) isOfFrog() bool {
	return p.canBeMade() && p.line[p.From] == frogSign
}

// isJump requires a move that can be made: then a slide goes one cell, a jump two.
func (p play) isJump() bool {
	return (p.To-p.From)%2 == 0
}

// lineBehind requires a move that can be made.
func (p play) lineBehind() string {
	signs := []byte(p.line)
	signs[p.To] = signs[p.From]
	signs[p.From] = gapSign
	return string(signs)
}

func movesWhere(w string, wanted func(play) bool) ([]Move, bool) {
	if !IsLine(w) {
		return nil, false
	}
	var moves []Move
	for from := range len(w) {
		p := play{moveFrom(w, from), w}
		if wanted(p) {
			moves = append(moves, p.Move)
		}
	}
	return moves, true
}

// MovesOf returns all moves that can be made, in order.
func MovesOf(w string) ([]Move, bool) {
	return movesWhere(w, play.canBeMade)
}

// ToadMoves returns those of toads, in order.
func ToadMoves(w string) ([]Move, bool) {
	return movesWhere(w, play.isOfToad)
}

// FrogMoves returns those of frogs, in order.
func FrogMoves(w string) ([]Move, bool) {
	return movesWhere(w, play.isOfFrog)
}

// CanMove reports whether a move can be made.
func CanMove(w string, m Move) (bool, bool) {
	if !IsLine(w) {
		return false, false
	}
	return play{m, w}.canBeMade(), true
}

// MakeMove returns the line behind a move. It fails if this cannot be made.
func MakeMove(w string, m Move) (string, bool) {
	p := play{m, w}
	if !IsLine(w) || !p.canBeMade() {
		return "", false
	}
	return p.lineBehind(), true
}

// IsJump reports whether a move that can be made is a jump. It fails for others.
func IsJump(w string, m Move) (bool, bool) {
	p := play{m, w}
	if !IsLine(w) || !p.canBeMade() {
		return false, false
	}
	return p.isJump(), true
}

func canPlayOn(w string, moves []Move) bool {
	return IsLine(w) && len(moves) <= maxMoves
}

// playOn makes moves on a line or a board, each by a function that fails if it cannot be made, as long as they can be; it returns what is behind these, and how many they are.
func playOn[L any](line L, moves []Move, makeOne func(L, Move) (L, bool)) (L, int) {
	for k, m := range moves {
		behind, ok := makeOne(line, m)
		if !ok {
			return line, k
		}
		line = behind
	}
	return line, len(moves)
}

// playAll fails if one of the moves cannot be made.
func playAll[L any](line L, moves []Move, makeOne func(L, Move) (L, bool)) (L, bool) {
	behind, made := playOn(line, moves, makeOne)
	if made < len(moves) {
		var none L
		return none, false
	}
	return behind, true
}

// moveThatFails fails if all moves can be made.
func moveThatFails[L any](line L, moves []Move, makeOne func(L, Move) (L, bool)) (int, bool) {
	_, made := playOn(line, moves, makeOne)
	if made == len(moves) {
		return 0, false
	}
	return made, true
}

// PlayMoves returns the line behind all moves, one after the other. It fails if one of them cannot be made.
func PlayMoves(w string, moves []Move) (string, bool) {
	if !canPlayOn(w, moves) {
		return "", false
	}
	return playAll(w, moves, MakeMove)
}

// MoveThatFails returns the index of the first move that cannot be made. It fails if all can.
func MoveThatFails(w string, moves []Move) (int, bool) {
	if !canPlayOn(w, moves) {
		return 0, false
	}
	return moveThatFails(w, moves, MakeMove)
}

func otherSign(sign byte) byte {
	switch sign {
	case toadSign:
		return frogSign
	case frogSign:
		return toadSign
	}
	return sign
}

// withOtherSigns tells a text with toads and frogs exchanged.
func withOtherSigns(text string) string {
	signs := []byte(text)
	for k, sign := range signs {
		signs[k] = otherSign(sign)
	}
	return string(signs)
}

// backwards tells a line from its last cell on, toads and frogs being kept: who moves there takes a move back here.
func backwards(w string) string {
	signs := []byte(w)
	slices.Reverse(signs)
	return string(signs)
}

// OtherLine returns the line from the other side, told backwards with toads and frogs exchanged.
func OtherLine(w string) (string, bool) {
	if !IsLine(w) {
		return "", false
	}
	return backwards(withOtherSigns(w)), true
}

// WayToGo returns how many cells all toads and frogs together have to go from here to the LastLine, each toad as many cells as it is left of its place there, with - if it is to the right, frogs the other way round.
func WayToGo(w string) (int, bool) {
	toads, _, _, ok := CountOf(w)
	if !ok {
		return 0, false
	}
	way, frogPlace, toadPlace := 0, 0, len(w)-toads
	for cell := range len(w) {
		switch w[cell] {
		case toadSign:
			way += toadPlace - cell
			toadPlace++
		case frogSign:
			way += cell - frogPlace
			frogPlace++
		}
	}
	return way, true
}

// PairsToPass returns how many pairs of a toad and a frog somewhere to the right of it there are.
func PairsToPass(w string) (int, bool) {
	if !IsLine(w) {
		return 0, false
	}
	toads, pairs := 0, 0
	for cell := range len(w) {
		switch w[cell] {
		case toadSign:
			toads++
		case frogSign:
			pairs += toads
		}
	}
	return pairs, true
}

// IsBlocked reports whether no move can be made.
func IsBlocked(w string) (bool, bool) {
	moves, ok := MovesOf(w)
	return ok && len(moves) == 0, ok
}

// lines returns how many lines have these counts. Each division is exact: behind it, the number is a product of binomials.
func (c counts) lines() int {
	cells, lines := 0, 1
	for _, many := range c {
		for k := range many {
			cells++
			lines = lines * cells / (k + 1)
		}
	}
	return lines
}

func (c counts) without(sign int) counts {
	c[sign]--
	return c
}

// linesFrom returns how many of the lines begin with a sign, told by its index.
func (c counts) linesFrom(sign int) int {
	if c[sign] == 0 {
		return 0
	}
	return c.without(sign).lines()
}

// RankOfLine returns how many lines with as many of each come before it.
func RankOfLine(w string) (int, bool) {
	toads, gaps, frogs, ok := CountOf(w)
	if !ok {
		return 0, false
	}
	left := counts{gaps, frogs, toads}
	rank := 0
	for cell := range len(w) {
		sign := strings.IndexByte(signsInOrder, w[cell])
		for lesser := range sign {
			rank += left.linesFrom(lesser)
		}
		left = left.without(sign)
	}
	return rank, true
}

// LineOfRank returns the line with a rank, in 0 up to one less than there are lines.
func LineOfRank(toads int, gaps int, frogs int, rank int) (string, bool) {
	lines, ok := CountLines(toads, gaps, frogs)
	if !ok || rank < 0 || rank >= lines {
		return "", false
	}
	left := counts{gaps, frogs, toads}
	signs := make([]byte, toads+gaps+frogs)
	for cell := range signs {
		sign := 0
		for rank >= left.linesFrom(sign) {
			rank -= left.linesFrom(sign)
			sign++
		}
		signs[cell] = signsInOrder[sign]
		left = left.without(sign)
	}
	return string(signs), true
}

// CountLines returns how many lines there are.
func CountLines(toads int, gaps int, frogs int) (int, bool) {
	if !areCounts(toads, gaps, frogs) {
		return 0, false
	}
	return counts{gaps, frogs, toads}.lines(), true
}
