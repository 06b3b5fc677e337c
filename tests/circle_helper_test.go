package tests

import (
	"sort"
	"strings"

	"loop.example/g01271/impl"
)

// The helpers tell rings again by rewriting texts that begin at each cell in turn, so that they share no idea with the program.

// turned returns a ring with each sign by so many cells farther on.
func turned(w string, by int) string {
	signs := make([]byte, len(w))
	for cell := range len(w) {
		signs[(cell+by)%len(w)] = w[cell]
	}
	return string(signs)
}

// allTurned returns a ring turned by 0, 1, .. cells.
func allTurned(w string) []string {
	var all []string
	for by := range len(w) {
		all = append(all, turned(w, by))
	}
	return all
}

// leastTurned returns the first one of all turned rings in the order of texts.
func leastTurned(w string) string {
	all := allTurned(w)
	sort.Strings(all)
	return all[0]
}

// ringChanges returns the moves of a ring with the rings behind them, ordered by From, then by To.
func ringChanges(w string) []change {
	var all []change
	for first := range len(w) {
		// The text begins with the cell first.
		text := w[first:] + w[:first]
		rewrite := func(before, after string, toRight bool) {
			if !strings.HasPrefix(text, before) {
				return
			}
			near, far := first, (first+len(before)-1)%len(w)
			if !toRight {
				near, far = far, near
			}
			all = append(all, change{impl.Move{From: near, To: far}, turned(after+text[len(before):], first)})
		}
		rewrite("T.", ".T", true)
		rewrite("TF.", ".FT", true)
		rewrite(".F", "F.", false)
		rewrite(".TF", "FT.", false)
	}
	sort.Slice(all, func(i, k int) bool { return compareMoves(all[i].move, all[k].move) < 0 })
	return all
}

func ringMovesOf(w string) []impl.Move {
	var moves []impl.Move
	for _, c := range ringChanges(w) {
		moves = append(moves, c.move)
	}
	return moves
}

// ringBefores tells, of all rings of so many cells, from which ones one move leads there.
func ringBefores(cells int) map[string][]string {
	befores := map[string][]string{}
	for _, w := range textsOf(".FT", cells) {
		for _, c := range ringChanges(w) {
			befores[c.behind] = append(befores[c.behind], w)
		}
	}
	return befores
}

// ringsFrom returns all rings that are reached, in the order of texts.
func ringsFrom(w string) []string {
	depths := map[string]int{}
	var visit func(w string)
	visit = func(w string) {
		if _, seen := depths[w]; seen {
			return
		}
		depths[w] = 0
		for _, c := range ringChanges(w) {
			visit(c.behind)
		}
	}
	visit(w)
	return sortedLines(depths, func(string) bool { return true })
}

// A ringTrial has the first play to each ring, and the number of moves of the first one of at least one move that comes back, or 0.
type ringTrial struct {
	first  map[string][]impl.Move
	around int
}

// tryRing tries all plays from a ring, shorter ones before longer ones and else in order, up to so many moves.
func tryRing(w string, moves int) ringTrial {
	trial := ringTrial{first: map[string][]impl.Move{}}
	var try func(ring string, made []impl.Move, left int)
	try = func(ring string, made []impl.Move, left int) {
		if left > 0 {
			for _, c := range ringChanges(ring) {
				try(c.behind, append(made[:len(made):len(made)], c.move), left-1)
			}
			return
		}
		if _, found := trial.first[ring]; !found {
			trial.first[ring] = append([]impl.Move{}, made...)
		}
		if ring == w && trial.around == 0 {
			trial.around = len(made)
		}
	}
	for many := 0; many <= moves; many++ {
		try(w, nil, many)
	}
	return trial
}

// ringsUpTo returns all rings of 3 up to so many cells.
func ringsUpTo(cells int) []string {
	var rings []string
	for n := 3; n <= cells; n++ {
		rings = append(rings, textsOf(".FT", n)...)
	}
	return rings
}

// nineCells returns rings of MaxRing cells: with no gap, of gaps alone, of one kind alone, blocked ones, ones that are the same turned, and others.
func nineCells() []string {
	return []string{
		"TTTTTFFFF", ".........", "TTTTTTTTT", "FFFFFFFFF", "T........", "........F", "TTTTTTTT.", ".FFFFFFFF", "TTT......", "FFTTFF.TT",
		"FF.TTFFTT", "T.FT.FT.F", "TF.TF.TF.", "TTT...FFF", "FFF...TTT", "T.......F", "F.......T", "TFTF.TFTF", ".FFFTTTTF", "TTTT.FFFF",
	}
}

// longRings returns these, and some of all rings of 7 up to MaxRing cells.
func longRings() []string {
	rings := nineCells()
	for cells := 7; cells <= 9; cells++ {
		for k, w := range textsOf(".FT", cells) {
			if k%211 == 100 {
				rings = append(rings, w)
			}
		}
	}
	return rings
}

// noRings returns texts that are no rings: those that are no lines, and lines of fewer than 3 and of more than MaxRing cells.
func noRings() []string {
	return append(append(noLines(), linesUpTo(2)...),
		"T.F.T.F.T.", "..........", "TTTTTTTTTT", "FFFFFFFFFF", "TTTTT.FFFF", "T.F.T.F.T.F", "...........", "TT.FF.TT.FF.", "............", "TTTTTTTTTTTT", "FFFFFFFFFFFF")
}
