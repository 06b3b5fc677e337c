package tests

import (
	"regexp"
	"sort"
	"strings"

	"loop.example/g01271/impl"
)

// The helpers tell rules again as patterns of texts, so that they share no idea with the program.

// ruleTexts returns the texts of the eight rules, from the one with no more moves on.
func ruleTexts() []string {
	return []string{"-", "o", "b", "l", "ob", "ol", "bl", "obl"}
}

// ruleNamed returns the rule with a text.
func ruleNamed(text string) impl.Rule {
	return impl.Rule{Own: strings.Contains(text, "o"), Back: strings.Contains(text, "b"), Long: strings.Contains(text, "l")}
}

// numberNamed returns the number that some digits tell.
func numberNamed(digits string) int {
	n := 0
	for _, digit := range digits {
		n = 10*n + int(digit-'0')
	}
	return n
}

// movesNamed returns the moves of a text like "1-2 3-2".
func movesNamed(text string) []impl.Move {
	var moves []impl.Move
	for _, m := range strings.Fields(text) {
		from, to, _ := strings.Cut(m, "-")
		moves = append(moves, impl.Move{From: numberNamed(from), To: numberNamed(to)})
	}
	return moves
}

// A ruleBook has a rule with the texts that move to the right and to the left by it, and keeps what has been told of lines.
type ruleBook struct {
	text    string
	rule    impl.Rule
	toRight *regexp.Regexp
	toLeft  *regexp.Regexp
	known   map[string][]change
}

func newRuleBook(text string) ruleBook {
	r := ruleNamed(text)
	toadOver, frogOver := "F", "T"
	if r.Own {
		toadOver, frogOver = "[FT]", "[FT]"
	}
	many := "?"
	if r.Long {
		many = "*"
	}
	right, left := "T"+toadOver+many+`\.`, `\.`+frogOver+many+"F"
	if r.Back {
		right += "|F" + frogOver + many + `\.`
		left += `|\.` + toadOver + many + "T"
	}
	return ruleBook{text, r, regexp.MustCompile("^(" + right + ")$"), regexp.MustCompile("^(" + left + ")$"), map[string][]change{}}
}

// ruleBooks returns a book for each rule.
func ruleBooks() []ruleBook {
	var books []ruleBook
	for _, text := range ruleTexts() {
		books = append(books, newRuleBook(text))
	}
	return books
}

// changesOf returns the moves of a line with the lines behind them, ordered by From, then by To.
func (b ruleBook) changesOf(w string) []change {
	if all, ok := b.known[w]; ok {
		return all
	}
	var all []change
	for i := range len(w) {
		for j := i + 1; j < len(w); j++ {
			part := w[i : j+1]
			// Both ends of the part are taken for each other, and all between is left.
			behind := w[:i] + part[j-i:] + part[1:j-i] + part[:1] + w[j+1:]
			if b.toRight.MatchString(part) {
				all = append(all, change{impl.Move{From: i, To: j}, behind})
			}
			if b.toLeft.MatchString(part) {
				all = append(all, change{impl.Move{From: j, To: i}, behind})
			}
		}
	}
	sort.Slice(all, func(i, k int) bool { return lessMoves([]impl.Move{all[i].move}, []impl.Move{all[k].move}) })
	b.known[w] = all
	return all
}

func (b ruleBook) movesOf(w string) []impl.Move {
	var moves []impl.Move
	for _, c := range b.changesOf(w) {
		moves = append(moves, c.move)
	}
	return moves
}

// depthsFrom tells of each line that is reached how few moves lead there: all lines behind just so many moves are gone through, until there is no new one.
func (b ruleBook) depthsFrom(w string) map[string]int {
	depths := map[string]int{w: 0}
	level := []string{w}
	for moves := 1; len(level) > 0; moves++ {
		var next []string
		for _, line := range level {
			for _, c := range b.changesOf(line) {
				if _, seen := depths[c.behind]; !seen {
					depths[c.behind] = moves
					next = append(next, c.behind)
				}
			}
		}
		level = next
	}
	return depths
}

// triedPlays tries all plays from a line, shorter ones before longer ones and else in order, until no more lines are found; it returns the first play to each line.
func (b ruleBook) triedPlays(w string) map[string][]impl.Move {
	first := map[string][]impl.Move{}
	var try func(line string, made []impl.Move, left int)
	try = func(line string, made []impl.Move, left int) {
		if _, found := first[line]; left == 0 && !found {
			first[line] = append([]impl.Move{}, made...)
		}
		if left == 0 {
			return
		}
		for _, c := range b.changesOf(line) {
			try(c.behind, append(made[:len(made):len(made)], c.move), left-1)
		}
	}
	for moves, found := 0, -1; len(first) > found; moves++ {
		found = len(first)
		try(w, nil, moves)
	}
	return first
}

// stepsTo tells, of all lines from which v is reached, how few moves lead there, out of which lines lead to which.
func (b ruleBook) stepsTo(v string, lines []string) map[string]int {
	before := map[string][]string{}
	for _, w := range lines {
		for _, c := range b.changesOf(w) {
			before[c.behind] = append(before[c.behind], w)
		}
	}
	return stepsBack(v, before)
}

// stepsBack tells, of all lines from which v is reached, how few moves lead there, out of the lines before each one.
func stepsBack(v string, before map[string][]string) map[string]int {
	steps := map[string]int{v: 0}
	level := []string{v}
	for moves := 1; len(level) > 0; moves++ {
		var next []string
		for _, line := range level {
			for _, w := range before[line] {
				if _, seen := steps[w]; !seen {
					steps[w] = moves
					next = append(next, w)
				}
			}
		}
		level = next
	}
	return steps
}

// firstWay makes the first move each time behind which a step less is left; it requires that the end of the steps is reached from w.
func (b ruleBook) firstWay(w string, steps map[string]int) []impl.Move {
	return firstByStep(w, steps, b.changesOf)
}

// firstByStep makes the first one of the changes of a line each time behind which a step less is left.
func firstByStep(w string, steps map[string]int, changesOf func(string) []change) []impl.Move {
	var moves []impl.Move
	for left := steps[w] - 1; left >= 0; left-- {
		for _, c := range changesOf(w) {
			if many, leads := steps[c.behind]; leads && many == left {
				moves = append(moves, c.move)
				w = c.behind
				break
			}
		}
	}
	return moves
}

// partsOf tells into how many parts lines fall: each one has a part of its own at first, and parts between which a move leads become one.
func (b ruleBook) partsOf(lines []string) int {
	part := map[string]int{}
	members := map[int][]string{}
	for k, w := range lines {
		part[w] = k
		members[k] = []string{w}
	}
	for _, w := range lines {
		for _, c := range b.changesOf(w) {
			kept, gone := part[w], part[c.behind]
			if kept == gone {
				continue
			}
			for _, v := range members[gone] {
				part[v] = kept
			}
			members[kept] = append(members[kept], members[gone]...)
			delete(members, gone)
		}
	}
	return len(members)
}

// linesAlike returns all lines of so many cells, by their numbers of toads, gaps and frogs.
func linesAlike(cells int) map[[3]int][]string {
	alike := map[[3]int][]string{}
	for _, w := range textsOf(".FT", cells) {
		alike[countsOf(w)] = append(alike[countsOf(w)], w)
	}
	return alike
}
