package tests

import (
	"math"
	"sort"
	"strings"
	"testing"

	"loop.example/g01271/impl"
)

// The helpers tell reaching again on texts: lines are gone through one by one, out of changesOf alone.

// An ending tells of a line how plays end that begin there.
type ending struct{ longest, shortest, plays int }

// endingOf tells it out of the endings of the lines behind one move; known keeps what has been told.
func endingOf(w string, known map[string]ending) ending {
	if e, ok := known[w]; ok {
		return e
	}
	changes := changesOf(w)
	e := ending{0, math.MaxInt, 0}
	for _, c := range changes {
		next := endingOf(c.behind, known)
		e.longest = max(e.longest, next.longest+1)
		e.shortest = min(e.shortest, next.shortest+1)
		e.plays += next.plays
	}
	if len(changes) == 0 {
		e = ending{0, 0, 1}
	}
	known[w] = e
	return e
}

// depthsFrom tells of each line that is reached how many moves lead there.
func depthsFrom(w string) map[string]int {
	depths := map[string]int{}
	var visit func(w string, depth int)
	visit = func(w string, depth int) {
		if _, seen := depths[w]; seen {
			return
		}
		depths[w] = depth
		for _, c := range changesOf(w) {
			visit(c.behind, depth+1)
		}
	}
	visit(w, 0)
	return depths
}

// playsTo tells how many plays lead from w to v; known keeps what has been told with the same v.
func playsTo(w, v string, known map[string]int) int {
	if plays, ok := known[w]; ok {
		return plays
	}
	plays := 0
	if w == v {
		plays = 1
	}
	for _, c := range changesOf(w) {
		plays += playsTo(c.behind, v, known)
	}
	known[w] = plays
	return plays
}

// firstWay makes the first move each time behind which v is reached still; it requires that v is reached from w.
func firstWay(w, v string, known map[string]int) []impl.Move {
	var moves []impl.Move
	for w != v {
		for _, c := range changesOf(w) {
			if playsTo(c.behind, v, known) > 0 {
				moves = append(moves, c.move)
				w = c.behind
				break
			}
		}
	}
	return moves
}

// sortedLines returns the lines that are wanted, in the order of texts.
func sortedLines(depths map[string]int, wanted func(string) bool) []string {
	var lines []string
	for w := range depths {
		if wanted(w) {
			lines = append(lines, w)
		}
	}
	sort.Strings(lines)
	return lines
}

func isDead(w string) bool {
	return len(changesOf(w)) == 0
}

func lastOf(w string) string {
	n := countsOf(w)
	return numbers{n[0], n[1], n[2]}.last()
}

func wayOf(w string) int {
	last := lastOf(w)
	return placesOf(last, 'T') - placesOf(w, 'T') + placesOf(w, 'F') - placesOf(last, 'F')
}

func pairsOf(w string) int {
	pairs := 0
	for cell := range len(w) {
		if w[cell] == 'T' {
			pairs += strings.Count(w[cell:], "F")
		}
	}
	return pairs
}

// nearestOf returns the first one of the sorted lines with the least way to go.
func nearestOf(lines []string) string {
	nearest := lines[0]
	for _, w := range lines {
		if wayOf(w) < wayOf(nearest) {
			nearest = w
		}
	}
	return nearest
}

// beforesOf tells, of all lines of so many cells, from which lines one move leads there, in the order of texts.
func beforesOf(cells int) map[string][]string {
	befores := map[string][]string{}
	for _, w := range textsOf(".FT", cells) {
		for _, c := range changesOf(w) {
			befores[c.behind] = append(befores[c.behind], w)
		}
	}
	return befores
}

// tenCells returns lines of MaxReach cells: first and last ones, blocked ones, of one kind alone, and others.
func tenCells() []string {
	return []string{
		"TTT....FFF", "TTTTT.FFFF", "TTTT.FFFFF", "T........F", "FFF....TTT", "TTTTTFFFFF", "TTTTTTTTTT", "FFFFFFFFFF", "..........",
		"TTTTT.....", ".....FFFFF", "TTTTTTTTT.", ".........F", ".........T", "F.........", "TFTFTFTFTF", "TF.TF.TF.T", "T.F.T.F.T.",
		".TTFF.TTFF", "TTFFTTFF..", "..FTFTFTFT", ".TTTT.FFFF", "TTTTFFFF..",
	}
}

// checkOrder fails the test unless the lines are increasing.
func checkOrder(t *testing.T, name, w string, lines []string) {
	t.Helper()
	for k := 1; k < len(lines); k++ {
		if lines[k-1] >= lines[k] {
			t.Errorf("%s %q: %q is before %q", name, w, lines[k-1], lines[k])
		}
	}
}
