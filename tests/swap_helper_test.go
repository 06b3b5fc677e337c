package tests

import (
	"sort"
	"strings"

	"loop.example/g01271/impl"
)

// The helpers tell exchanges again on texts, out of changesOf alone.

// numbers are those of toads, gaps and frogs.
type numbers struct{ toads, gaps, frogs int }

// swapNumbers returns all numbers that are together in 1..MaxSwap.
func swapNumbers() []numbers {
	var all []numbers
	for cells := 1; cells <= 8; cells++ {
		for toads := 0; toads <= cells; toads++ {
			for gaps := 0; toads+gaps <= cells; gaps++ {
				all = append(all, numbers{toads, gaps, cells - toads - gaps})
			}
		}
	}
	return all
}

func (n numbers) first() string {
	return strings.Repeat("T", n.toads) + strings.Repeat(".", n.gaps) + strings.Repeat("F", n.frogs)
}

func (n numbers) last() string {
	return strings.Repeat("F", n.frogs) + strings.Repeat(".", n.gaps) + strings.Repeat("T", n.toads)
}

// canExchange tells whether there is an exchange, in the document's words.
func (n numbers) canExchange() bool {
	return n.gaps > 0 || n.toads == 0 || n.frogs == 0
}

// A map of lines tells what happens between the first and the last line of some numbers.
type lineMap struct {
	first, last string
	// depth has how many moves lead to each line that is reached from the first one.
	depth map[string]int
	// plays has how many plays lead from each line that is reached to the last one.
	plays map[string]int
}

func mapOf(n numbers) lineMap {
	m := lineMap{n.first(), n.last(), map[string]int{}, map[string]int{}}
	m.visit(m.first, 0)
	return m
}

func (m lineMap) visit(w string, depth int) int {
	if plays, ok := m.plays[w]; ok {
		return plays
	}
	m.depth[w] = depth
	plays := 0
	if w == m.last {
		plays = 1
	}
	for _, c := range changesOf(w) {
		plays += m.visit(c.behind, depth+1)
	}
	m.plays[w] = plays
	return plays
}

// live returns all live lines in the order of texts.
func (m lineMap) live() []string {
	var lines []string
	for w, plays := range m.plays {
		if plays > 0 {
			lines = append(lines, w)
		}
	}
	sort.Strings(lines)
	return lines
}

func (m lineMap) liveMoves(w string) []impl.Move {
	var moves []impl.Move
	for _, c := range changesOf(w) {
		if m.plays[c.behind] > 0 {
			moves = append(moves, c.move)
		}
	}
	return moves
}

// walk goes from the first line to the last one, each time by the first live move or by the last one; it returns the moves and all lines.
func (m lineMap) walk(byLast bool) ([]impl.Move, []string) {
	var moves []impl.Move
	w := m.first
	lines := []string{w}
	for w != m.last {
		var taken *change
		for _, c := range changesOf(w) {
			if m.plays[c.behind] > 0 && (taken == nil || byLast) {
				taken = &c
			}
		}
		moves = append(moves, taken.move)
		w = taken.behind
		lines = append(lines, w)
	}
	return moves, lines
}

// allPlays returns all plays from w to v, found by trying each move, in any order of finding.
func allPlays(w, v string, made []impl.Move) [][]impl.Move {
	var plays [][]impl.Move
	if w == v {
		plays = append(plays, append([]impl.Move{}, made...))
	}
	for _, c := range changesOf(w) {
		plays = append(plays, allPlays(c.behind, v, append(made[:len(made):len(made)], c.move))...)
	}
	return plays
}

// lessMoves orders lists of moves lexicographically.
func lessMoves(a, b []impl.Move) bool {
	for k := range a {
		if k == len(b) {
			return false
		}
		if a[k].From != b[k].From {
			return a[k].From < b[k].From
		}
		if a[k].To != b[k].To {
			return a[k].To < b[k].To
		}
	}
	return len(a) < len(b)
}

// turnedBack tells moves in the other order, each From and To taken for each other.
func turnedBack(moves []impl.Move) []impl.Move {
	back := make([]impl.Move, len(moves))
	for k, m := range moves {
		back[len(moves)-1-k] = impl.Move{From: m.To, To: m.From}
	}
	return back
}

// sampleExchanges returns some exchanges: all of them if they are few, or those that take live moves one after the other in turn.
func sampleExchanges(n numbers) [][]impl.Move {
	m := mapOf(n)
	if m.plays[m.first] == 0 {
		return nil
	}
	if m.plays[m.first] <= 40 {
		return allPlays(m.first, m.last, nil)
	}
	var samples [][]impl.Move
	for step := range 7 {
		var moves []impl.Move
		w := m.first
		for w != m.last {
			live := m.liveMoves(w)
			move := live[(step*(len(moves)+1))%len(live)]
			moves = append(moves, move)
			for _, c := range changesOf(w) {
				if c.move == move {
					w = c.behind
					break
				}
			}
		}
		samples = append(samples, moves)
	}
	return samples
}

func sameTexts(a, b []string) bool {
	if len(a) != len(b) {
		return false
	}
	for i := range a {
		if a[i] != b[i] {
			return false
		}
	}
	return true
}
