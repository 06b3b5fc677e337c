package tests

import (
	"math"
	"strings"

	"loop.example/g01271/impl"
)

// The helpers play games again on texts, the lines of a sum one by one, out of changesOf alone.

// A gameBook keeps what has been told of sums with the player who moves first.
type gameBook struct {
	wins  map[string]bool
	games map[string]ending
	free  map[string]int
}

func newGameBook() gameBook {
	return gameBook{map[string]bool{}, map[string]ending{}, map[string]int{}}
}

func gameKey(lines []string, toads bool) string {
	if toads {
		return "toads " + strings.Join(lines, " ")
	}
	return "frogs " + strings.Join(lines, " ")
}

// changesBy returns the changes that one player can make in a line.
func changesBy(w string, toads bool) []change {
	var all []change
	for _, c := range changesOf(w) {
		if toads == (w[c.move.From] == 'T') {
			all = append(all, c)
		}
	}
	return all
}

// winsSum tells whether the player who moves first wins.
func (b gameBook) winsSum(lines []string, toads bool) bool {
	key := gameKey(lines, toads)
	if won, ok := b.wins[key]; ok {
		return won
	}
	won := false
	for k, w := range lines {
		for _, c := range changesBy(w, toads) {
			behind := append([]string{}, lines...)
			behind[k] = c.behind
			won = won || !b.winsSum(behind, !toads)
		}
	}
	b.wins[key] = won
	return won
}

func (b gameBook) outcomeOf(lines ...string) string {
	return outcomeOfBoth(b.winsSum(lines, true), b.winsSum(lines, false))
}

// outcomeOfBoth tells the outcome out of whether toads win if they move first, and frogs if they do.
func outcomeOfBoth(toads, frogs bool) string {
	if toads == frogs {
		return map[bool]string{true: "1", false: "2"}[toads]
	}
	return map[bool]string{true: "T", false: "F"}[toads]
}

// bestMoves returns the moves behind which the other player does not win.
func (b gameBook) bestMoves(w string, toads bool) []impl.Move {
	var best []impl.Move
	for _, c := range changesBy(w, toads) {
		if !b.winsSum([]string{c.behind}, !toads) {
			best = append(best, c.move)
		}
	}
	return best
}

// gameMove returns the change by the GameMove, and false if there is no move.
func (b gameBook) gameMove(w string, toads bool) (change, bool) {
	changes := changesBy(w, toads)
	for _, c := range changes {
		if !b.winsSum([]string{c.behind}, !toads) {
			return c, true
		}
	}
	if len(changes) == 0 {
		return change{}, false
	}
	return changes[0], true
}

func (b gameBook) gamePlay(w string, toads bool) []impl.Move {
	var moves []impl.Move
	for {
		c, ok := b.gameMove(w, toads)
		if !ok {
			return moves
		}
		moves = append(moves, c.move)
		w, toads = c.behind, !toads
	}
}

// gamesOf tells how many moves the longest and the shortest game have, and how many games there are.
func (b gameBook) gamesOf(w string, toads bool) ending {
	key := gameKey([]string{w}, toads)
	if e, ok := b.games[key]; ok {
		return e
	}
	changes := changesBy(w, toads)
	e := ending{0, math.MaxInt, 0}
	for _, c := range changes {
		next := b.gamesOf(c.behind, !toads)
		e.longest = max(e.longest, next.longest+1)
		e.shortest = min(e.shortest, next.shortest+1)
		e.plays += next.plays
	}
	if len(changes) == 0 {
		e = ending{0, 0, 1}
	}
	b.games[key] = e
	return e
}

// freeMoves tries all orders in which one player alone can move.
func (b gameBook) freeMoves(w string, toads bool) int {
	key := gameKey([]string{w}, toads)
	if free, ok := b.free[key]; ok {
		return free
	}
	free := 0
	for _, c := range changesBy(w, toads) {
		free = max(free, b.freeMoves(c.behind, toads)+1)
	}
	b.free[key] = free
	return free
}

// allGames returns all games, found by trying each move, in any order of finding.
func allGames(w string, toads bool, made []impl.Move) [][]impl.Move {
	changes := changesBy(w, toads)
	if len(changes) == 0 {
		return [][]impl.Move{append([]impl.Move{}, made...)}
	}
	var games [][]impl.Move
	for _, c := range changes {
		games = append(games, allGames(c.behind, !toads, append(made[:len(made):len(made)], c.move))...)
	}
	return games
}

// otherOf tells a line from the other side.
func otherOf(w string) string {
	other := ""
	for _, sign := range w {
		other = strings.Map(exchanged, string(sign)) + other
	}
	return other
}

func exchanged(sign rune) rune {
	switch sign {
	case 'T':
		return 'F'
	case 'F':
		return 'T'
	}
	return sign
}

// signOfOutcome tells how lines compare whose sum, the second one from the other side, has an outcome.
func signOfOutcome(outcome string) string {
	return map[string]string{"1": "|", "2": "=", "F": "<", "T": ">"}[outcome]
}

// wholeOf returns the number whose line a line is equal to, and false if there is none of a size of at most 4.
func (b gameBook) wholeOf(w string) (int, bool) {
	for n := 0; n <= 4; n++ {
		gaps := strings.Repeat(".", n)
		// From the other side, the line of n is that of -n.
		if b.outcomeOf(w, gaps+"F") == "2" {
			return n, true
		}
		if b.outcomeOf(w, "T"+gaps) == "2" {
			return -n, true
		}
	}
	return 0, false
}

// longSums returns sums of one, two and three lines with MaxPlayed cells together.
func longSums() [][]string {
	sums := [][]string{
		{"TT.FF", "T.TFF"}, {"T..F", "TT...F"}, {"T.F", "TTT.FFF"}, {"T", "TTTT.FFFF"}, {".........", "F"}, {"TTTTTTTTT", "T"},
		{"T...", "...F", ".."}, {"T.F", "T.F", "TT.F"}, {"TT.F", "T.FF", "T."}, {"T.F", "TF.F", ".TF"}, {"TTTT.FFF", "T", "."},
		{"T.......", "F", "F"}, {"TF", "TF.FT", "FT."}, {"T..F", "T..", "..F"}, {"TT..", "F.F", "..F"}, {".", "TT..FF", ".TF"},
		{"F.FFT", "T.TFT"}, {"T.TFF", "T.TFF"}, {"TT.FF", "FF.TT"}, {"....F", "T...."}, {".....", "T.FT."}, {"TFTFTFTF", "T."},
	}
	for _, w := range tenCells() {
		sums = append(sums, []string{w}, []string{w[:5], w[5:]}, []string{w[:3], w[3:7], w[7:]}, []string{w[:8], w[8:9], w[9:]})
	}
	return sums
}
