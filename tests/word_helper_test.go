package tests

import (
	"math"
	"sort"
	"strings"

	"loop.example/g01271/impl"
)

// The helpers tell words again by rewriting texts, so that they share no idea with the program.

// A toldWord has a word that can be played on a line, with its moves, s or j for each of them, and the line behind them.
type toldWord struct {
	word   string
	moves  []impl.Move
	kinds  string
	behind string
}

// longer returns the word with one sign more, after the change that it tells.
func (p toldWord) longer(c change) toldWord {
	kind := "s"
	// Who jumps passes another one.
	if pairsOf(c.behind) < pairsOf(p.behind) {
		kind = "j"
	}
	made := append(p.moves[:len(p.moves):len(p.moves)], c.move)
	return toldWord{p.word + p.behind[c.move.From:c.move.From+1], made, p.kinds + kind, c.behind}
}

// wordsByLength returns all words that can be played on a line, those of 0, 1, 2, .. signs, each list in the order of texts.
func wordsByLength(w string) [][]toldWord {
	var all [][]toldWord
	for level := []toldWord{{behind: w}}; len(level) > 0; {
		all = append(all, level)
		var next []toldWord
		for _, p := range level {
			for _, c := range changesOf(p.behind) {
				next = append(next, p.longer(c))
			}
		}
		sort.Slice(next, func(i, k int) bool { return next[i].word < next[k].word })
		level = next
	}
	return all
}

// wordsOf returns the texts of told words.
func wordsOf(told []toldWord) []string {
	var words []string
	for _, p := range told {
		words = append(words, p.word)
	}
	return words
}

// firstWords returns the first one of the words to each line that is reached.
func firstWords(byLength [][]toldWord) map[string]string {
	first := map[string]string{}
	for _, level := range byLength {
		for _, p := range level {
			if _, known := first[p.behind]; !known {
				first[p.behind] = p.word
			}
		}
	}
	return first
}

// tryPlay returns a play from w to v, with one gap or several ones; failed keeps from where none has been found.
func tryPlay(w, v string, failed map[string]bool) ([]impl.Move, bool) {
	if w == v || failed[w] {
		return nil, w == v
	}
	for _, c := range changesOf(w) {
		if rest, ok := tryPlay(c.behind, v, failed); ok {
			return append([]impl.Move{c.move}, rest...), true
		}
	}
	failed[w] = true
	return nil, false
}

// oneGapLines returns all lines of so many cells with one gap.
func oneGapLines(cells int) []string {
	var lines []string
	for _, animals := range textsOf("FT", cells-1) {
		for gap := range cells {
			lines = append(lines, animals[:gap]+"."+animals[gap:])
		}
	}
	return lines
}

// oneGapLinesUpTo returns those of 1 up to so many cells.
func oneGapLinesUpTo(cells int) []string {
	var lines []string
	for n := 1; n <= cells; n++ {
		lines = append(lines, oneGapLines(n)...)
	}
	return lines
}

// tenCellsOneGap returns lines of MaxReach cells with one gap: first and last ones, blocked ones, of one kind alone, with the most words and the longest ones, and others.
func tenCellsOneGap() []string {
	return []string{
		"TTTTT.FFFF", "TTTT.FFFFF", "FFFFF.TTTT", "TTTTTTTTT.", ".TTTTTTTTT", "TTTT.TTTTT", ".FFFFFFFFF", "FFFFFFFFF.", "F.FFFFFFFF",
		"T.FFFFFFFF", "TTTTTTTT.F", "TTTTTTT.FF", "TT.FFFFFFF", "TTFF.TTFFT", "TFTF.TFTFT", ".TFTFTFTFT", "TFTFTFTFT.", "FTFTF.TFTF", "TTTTFFFFF.", ".TTFFTTFFT", "FFFFTTTT.F",
	}
}

// noOneGapLines returns texts that are no lines, lines of more than MaxReach cells, and lines with no gap or several ones.
func noOneGapLines() []string {
	return append(noReachLines(),
		"T", "F", "TF", "FT", "TT", "TTFF", "TFTF", "TTTTTFFFFF", "TTTTTTTTTT", "FFFFFFFFFF", "TFTFTFTFTF",
		"..", "...", "T..", "..F", ".T.", ".F.", "T..F", "TT..FF", "T.F.", "TF.TF.TF.T", "TTTT..FFFF", ".TTTTTTTT.", "..........", ".........F",
		"TTTTT.FFFFF", "TTTTTT.FFFFF", ".FFFFFFFFFF", "TTTTTTTTTTT.", "T.FFFFFFFFF", "TTTTTTTTT.FF")
}

// noWords returns texts that are no words: with other signs, or with more than MaxWord.
func noWords() []string {
	texts := []string{
		"t", "f", "tf", ".", " ", "x", "s", "j", "T.F", "T F", " T", "F ", "TF\n", "\nTF", "\x00", "TF\x00", "\xff", "T\xffF", "T,F", "-", "0", "\u0422", "T\u0424", "FT\u2024", "\u00e9", "E", "G", "S", "U",
	}
	for _, word := range longWords() {
		texts = append(texts, word+"T", "F"+word, word+word, word+".", strings.Repeat(word, 1000))
		for at := range word {
			texts = append(texts, word[:at]+"."+word[at+1:], word[:at]+"t"+word[at+1:])
		}
	}
	return texts
}

// longWords returns words of MaxWord signs.
func longWords() []string {
	return []string{
		strings.Repeat("T", 40), strings.Repeat("F", 40), strings.Repeat("TF", 20), strings.Repeat("FT", 20), strings.Repeat("FTTF", 10),
		strings.Repeat("F", 39) + "T", strings.Repeat("T", 39) + "F", "F" + strings.Repeat("T", 39), "T" + strings.Repeat("F", 39), "FTFFFTFFFTFFFTFFTFTTFFFTTTTFFFFFTTTTFFFF",
	}
}

// runsTold tells the lengths of the runs of a word, found by writing a blank between signs that differ.
func runsTold(word string) []int {
	var lengths []int
	for _, run := range strings.Fields(strings.ReplaceAll(strings.ReplaceAll(word, "TF", "T F"), "FT", "F T")) {
		lengths = append(lengths, len(run))
	}
	return lengths
}

// otherWordOf exchanges the signs of a word.
func otherWordOf(word string) string {
	return strings.NewReplacer("T", "F", "F", "T").Replace(word)
}

// spareRuns returns a list with the same lengths, and with others behind its length, that a call must leave alone.
func spareRuns(runs []int) []int {
	all := append([]int{}, runs...)
	for k := range 8 {
		all = append(all, k+1)
	}
	return all[:len(runs)]
}

// badExchanged returns numbers of toads and frogs that are not exchanged on lines with one gap; some of their sums wrap around to 2..9.
func badExchanged() [][2]int {
	bad := [][2]int{
		{0, 0}, {0, 1}, {1, 0}, {0, 9}, {9, 0}, {-1, 1}, {1, -1}, {-1, -1}, {-1, 5}, {5, -1}, {10, -1}, {-1, 10}, {-4, -5},
		{9, 1}, {1, 9}, {5, 5}, {8, 2}, {2, 8}, {10, 0}, {0, 10}, {10, 10}, {100, 1},
		{math.MaxInt, math.MinInt + 3}, {math.MinInt + 3, math.MaxInt}, {math.MinInt, math.MinInt}, {math.MaxInt, math.MaxInt}, {math.MinInt, math.MaxInt}, {math.MaxInt, math.MinInt},
	}
	for _, n := range []int{math.MinInt, math.MinInt + 1, math.MinInt32, math.MaxInt32, math.MaxInt - 1, math.MaxInt} {
		for _, other := range []int{0, 1, 2, 4, 8, 9} {
			bad = append(bad, [2]int{n, other}, [2]int{other, n})
		}
	}
	return bad
}
