package tests

import (
	"fmt"
	"regexp"
	"slices"
	"strings"

	"loop.example/g01271/impl"
)

// The helpers tell replies again by patterns of lines of text, out of what the helpers of the other chapters tell, so that they share no idea with the program.

// deskNamed returns the desk of a text like "TT.FF FF.TT".
func deskNamed(text string) impl.Desk {
	line, kept, _ := strings.Cut(text, " ")
	return impl.Desk{Line: line, Kept: kept}
}

// A toldReply has the desk behind a line of text, and its reply.
type toldReply struct {
	desk  impl.Desk
	reply string
}

// A textForm is the pattern of a form of lines of text. What is told of them is empty if a function fails: the Line behind them if they have an effect, else the reply.
type textForm struct {
	pattern   *regexp.Regexp
	hasEffect bool
	tell      func(d impl.Desk, parts []string) string
}

// A consoleBook has all forms of lines of text, and keeps what has been told.
type consoleBook struct {
	forms []textForm
	known map[string]toldReply
}

// patternOf returns the pattern of a form, in which N is a number, L a line, S a word and R a RuleText.
func patternOf(form string) *regexp.Regexp {
	parts := strings.NewReplacer("N", `(0|[1-9][0-9]{0,5})`, "L", `([.FT]{1,12})`, "S", `([FT]{0,40})`, "R", `(-|o|b|l|ob|ol|bl|obl)`)
	return regexp.MustCompile(`\A` + parts.Replace(form) + `\z`)
}

func newConsoleBook() consoleBook {
	rules := map[string]ruleBook{}
	for _, book := range ruleBooks() {
		rules[book.text] = book
	}
	b := consoleBook{known: map[string]toldReply{}}
	for form, tell := range effectsTold(rules) {
		b.forms = append(b.forms, textForm{patternOf(form), true, tell})
	}
	for form, tell := range repliesTold(rules) {
		b.forms = append(b.forms, textForm{patternOf(form), false, tell})
	}
	return b
}

// tell tells of a line of text on a desk.
func (b consoleBook) tell(d impl.Desk, text string) toldReply {
	key := fmt.Sprintf("%s %s %s", d.Line, d.Kept, text)
	told, known := b.known[key]
	if !known {
		told = b.tellAnew(d, text)
		b.known[key] = told
	}
	return told
}

func (b consoleBook) tellAnew(d impl.Desk, text string) toldReply {
	switch text {
	case "keep":
		return toldReply{impl.Desk{Line: d.Line, Kept: d.Line}, d.Line}
	case "swap":
		return toldReply{impl.Desk{Line: d.Kept, Kept: d.Line}, d.Kept}
	}
	for _, form := range b.forms {
		match := form.pattern.FindStringSubmatch(text)
		if match == nil {
			continue
		}
		told := form.tell(d, match[1:])
		switch {
		case told == "":
			return toldReply{d, "no"}
		case form.hasEffect:
			return toldReply{impl.Desk{Line: told, Kept: d.Kept}, told}
		}
		return toldReply{d, told}
	}
	return toldReply{d, "what"}
}

// tellScript tells of the lines of a script, one after the other, and which of them failed.
func (b consoleBook) tellScript(lines []string) (impl.Desk, []string, []int) {
	d := impl.Desk{Line: "TT.FF", Kept: "FF.TT"}
	var replies []string
	var failed []int
	for k, line := range lines {
		told := b.tell(d, line)
		if told.reply == "no" || told.reply == "what" {
			failed = append(failed, k+1)
		}
		replies = append(replies, told.reply)
		d = told.desk
	}
	return d, replies, failed
}

// effectsTold tells the Line behind lines of text with an effect, but for those that change Kept.
func effectsTold(rules map[string]ruleBook) map[string]func(d impl.Desk, parts []string) string {
	return map[string]func(d impl.Desk, parts []string) string{
		"line L": func(_ impl.Desk, parts []string) string { return parts[0] },
		"first N N N": func(_ impl.Desk, parts []string) string {
			n := numbers{numberNamed(parts[0]), numberNamed(parts[1]), numberNamed(parts[2])}
			if cells := n.toads + n.gaps + n.frogs; cells < 1 || cells > 12 {
				return ""
			}
			return n.first()
		},
		"move N N": func(d impl.Desk, parts []string) string { return lineAfter(changesOf(d.Line), parts) },
		"play S":   func(d impl.Desk, parts []string) string { return playedTold(d.Line, parts[0]) },
		"other":    func(d impl.Desk, _ []string) string { return otherOf(d.Line) },
		"by R N N": func(d impl.Desk, parts []string) string {
			if len(d.Line) > 10 {
				return ""
			}
			return lineAfter(rules[parts[0]].changesOf(d.Line), parts[1:])
		},
	}
}

// repliesTold tells the replies to lines of text without an effect.
func repliesTold(rules map[string]ruleBook) map[string]func(d impl.Desk, parts []string) string {
	told := map[string]func(d impl.Desk, parts []string) string{
		"show":  func(d impl.Desk, _ []string) string { return d.Line },
		"moves": func(d impl.Desk, _ []string) string { return movesTold(changesOf(d.Line)) },
		"way":   func(d impl.Desk, _ []string) string { return fmt.Sprint(wayOf(d.Line)) },
		"pairs": func(d impl.Desk, _ []string) string { return fmt.Sprint(pairsOf(d.Line)) },
		"rank":  func(d impl.Desk, _ []string) string { return fmt.Sprint(rankTold(d.Line)) },
		"swapword N N": func(_ impl.Desk, parts []string) string {
			return exchangeWordTold(numberNamed(parts[0]), numberNamed(parts[1]))
		},
	}
	// All others are told of lines of at most MaxReach cells.
	for form, tell := range map[string]func(w, v, rule string) string{
		"reached": func(w, _, _ string) string { return fmt.Sprint(len(depthsFrom(w))) },
		"longest": func(w, _, _ string) string { return fmt.Sprint(endingOf(w, map[string]ending{}).longest) },
		"dead":    func(w, _, _ string) string { return strings.Join(sortedLines(depthsFrom(w), isDead), ",") },
		"plays":   func(w, v, _ string) string { return fmt.Sprint(playsTo(w, v, map[string]int{})) },
		"to": func(w, v, _ string) string {
			known := map[string]int{}
			if playsTo(w, v, known) == 0 {
				return ""
			}
			return movesListed(firstWay(w, v, known))
		},
		"free R": func(w, _, rule string) string { return movesTold(rules[rule].changesOf(w)) },
		"far R": func(w, _, rule string) string {
			depths := rules[rule].depthsFrom(w)
			farthest := farthestOf(depths)
			return fmt.Sprintf("%s,%d", farthest, depths[farthest])
		},
	} {
		told[form] = func(d impl.Desk, parts []string) string {
			keptIsAsked := form == "plays" || form == "to"
			if len(d.Line) > 10 || keptIsAsked && len(d.Kept) > 10 {
				return ""
			}
			return tell(d.Line, d.Kept, strings.Join(parts, " "))
		}
	}
	return told
}

// lineAfter returns the line behind the one of some changes whose move has two numbers.
func lineAfter(changes []change, parts []string) string {
	for _, c := range changes {
		if fmt.Sprint(c.move.From) == parts[0] && fmt.Sprint(c.move.To) == parts[1] {
			return c.behind
		}
	}
	return ""
}

func playedTold(w, word string) string {
	if len(w) > 10 || strings.Count(w, ".") != 1 {
		return ""
	}
	for _, sign := range word {
		k := slices.IndexFunc(changesOf(w), func(c change) bool { return w[c.move.From] == byte(sign) })
		if k < 0 {
			return ""
		}
		w = changesOf(w)[k].behind
	}
	return w
}

func movesTold(changes []change) string {
	var moves []impl.Move
	for _, c := range changes {
		moves = append(moves, c.move)
	}
	return movesListed(moves)
}

func movesListed(moves []impl.Move) string {
	if len(moves) == 0 {
		return "-"
	}
	text := ""
	for _, m := range moves {
		text += fmt.Sprintf(",%d-%d", m.From, m.To)
	}
	return text[1:]
}

// rankTold counts the lines before a line, from one to the one before it.
func rankTold(w string) int {
	signs := []byte(w)
	rank := 0
	for toLineBefore(signs) {
		rank++
	}
	return rank
}

// toLineBefore changes the signs of a line to those of the one before it, and returns false if there is none: the last sign that can becomes the next lesser one of those behind it, which then come in the order that is the last one.
func toLineBefore(signs []byte) bool {
	for k := len(signs) - 2; k >= 0; k-- {
		lesser := -1
		for j := k + 1; j < len(signs); j++ {
			if signs[j] < signs[k] && (lesser < 0 || signs[j] > signs[lesser]) {
				lesser = j
			}
		}
		if lesser >= 0 {
			signs[k], signs[lesser] = signs[lesser], signs[k]
			slices.Sort(signs[k+1:])
			slices.Reverse(signs[k+1:])
			return true
		}
	}
	return false
}

func exchangeWordTold(toads, frogs int) string {
	if toads < 1 || frogs < 1 || toads+frogs > 9 {
		return ""
	}
	n := numbers{toads, 1, frogs}
	return firstWords(wordsByLength(n.first()))[n.last()]
}

// A namedReply is a line of text on a desk with its reply, and the desk behind it: the same one if that is empty.
type namedReply struct{ desk, text, reply, behind string }

// allForms returns a line of text of each form, with parts that are right.
func allForms() []string {
	return []string{
		"line T.F", "first 1 1 1", "move 1 2", "play F", "other", "by b 0 1", "keep", "swap", "show", "moves", "way", "pairs", "rank",
		"reached", "longest", "dead", "plays", "to", "free o", "far -", "swapword 1 1",
	}
}

// wrongTexts returns lines of text to which the reply is what, on each desk.
func wrongTexts() []string {
	texts := []string{
		"", " ", "  ", "   ", "x", "fly", "-", "no", "what", "T.F", "TT.FF", "1", "1 2", "L", "desk", "help", "lines", "shows", "sho", "mov", "show;", "show,moves", "keep,swap", "\x00", "\xff", "\u0422.F", "\u00a0show",
		// Lines of toads and frogs, words and RuleTexts that are none.
		"line x", "line T.F.x", "line t.f", "line -", "line T F", "line T,F", "line TTTTTTTTTTTTT", "line .............", "line T.\u0424", "line T.F\x00", "line T.F\r", "line T.F\t",
		"play x", "play t", "play tf", "play -", "play .", "play T.F", "play T F", "play T,F", "play \u0422", "play " + strings.Repeat("T", 41), "play " + strings.Repeat("TF", 21), "play " + strings.Repeat("F", 1000),
		"free x", "free O", "free --", "free bo", "free lo", "free lb", "free lbo", "free oo", "free o,b", "free -o", "free o-", "free own", "free " + strings.Repeat("o", 1000), "free o b",
		"far x", "far B", "far bo", "far lb", "far bb", "far 0", "far -b", "far o l", "by x 0 1", "by bo 0 1", "by L 0 1", "by 0 0 1", "by 0 1 b", "by 0 b 1", "by o b 0 1",
		// What is wrong is told before what fails.
		"first 13 0 x", "first 999999 1000000 1", "move 99 x", "move 1000000 0", "by x 9 9", "by bo 0 0", "by o 0 1000000", "swapword 0 x", "swapword 1000000 1", "line TTTTTTTTTTTTTT",
		// Other signs between parts.
		"move\t1\t2", "move,1,2", "move 1,2", "move 1-2", "move 1\t2", "move\u00a01 2", "line\tT.F", "first 1,1,1", "swapword 1-1",
	}
	for _, form := range allForms() {
		first, behind, _ := strings.Cut(form, " ")
		texts = append(texts,
			// A part too many, and empty ones in front, behind and between.
			form+" x", form+" 1", form+" ", form+"  ", " "+form, "  "+form, " "+form+" ", first+"  "+behind, form+" "+form, form+" T.F", form+"\r", form+"\x00",
			strings.ToUpper(first)+form[len(first):], strings.ToUpper(first[:1])+form[1:], first+"s"+form[len(first):], form[1:], "x"+form)
		if behind == "" {
			continue
		}
		// A part too few.
		parts := strings.Split(behind, " ")
		texts = append(texts, first)
		for k := range len(parts) - 1 {
			texts = append(texts, first+" "+strings.Join(parts[:k+1], " "))
		}
		if first != "play" {
			texts = append(texts, first+" "+strings.Repeat(" ", len(parts)-1))
		}
	}
	return append(texts, textsOfWrongNumbers()...)
}

// wrongNumbers returns texts that are no numbers: with signs, superfluous zeros or other letters, and too great ones.
func wrongNumbers() []string {
	return []string{
		"", "+1", "-1", "+0", "-0", "00", "01", "001", "007", "0000000", "000001", "0999999", "x", "a", "1x", "x1", "1e0", "1e3", "0x1", "0b1", "0o1", "1_0", "1.0", "1.", ".1", "1,0", "0.5", "one", "\u0661", "\uff11", "1\x00", "\x001", "1\r", "\t1", "1\xff", "NaN", "Inf",
		"1000000", "1000001", "9999999", "-999999", "2147483648", "4294967296", "4294967297", "9223372036854775807", "9223372036854775808", "-9223372036854775808", "18446744073709551616", "18446744073709551617", "99999999999999999999", strings.Repeat("9", 400), strings.Repeat("0", 400), strings.Repeat("0", 400) + "1", strings.Repeat("1", 7),
	}
}

// textsOfWrongNumbers puts wrong numbers in the place of each number.
func textsOfWrongNumbers() []string {
	var texts []string
	for _, n := range wrongNumbers() {
		texts = append(texts,
			"first "+n+" 1 1", "first 1 "+n+" 1", "first 1 1 "+n, "first "+n+" "+n+" "+n, "move "+n+" 2", "move 1 "+n, "move "+n+" "+n,
			"by b "+n+" 2", "by b 1 "+n, "swapword "+n+" 1", "swapword 1 "+n, "swapword "+n+" "+n)
	}
	return texts
}

// rightTexts returns lines of text that are understood, with parts that suit short lines and some that suit others.
func rightTexts() []string {
	texts := []string{"other", "keep", "swap", "show", "moves", "way", "pairs", "rank", "reached", "longest", "dead", "plays", "to", "line T", "line ....FFFFTTTT", "first 2 2 2", "first 0 0 0", "swapword 2 1", "swapword 9 1"}
	for signs := 0; signs <= 3; signs++ {
		for _, word := range textsOf("FT", signs) {
			texts = append(texts, "play "+word)
		}
	}
	for _, word := range []string{"FTTFFTTF", "TFFTTFFT", "TFTF", strings.Repeat("TF", 20)} {
		texts = append(texts, "play "+word)
	}
	for _, rule := range ruleTexts() {
		texts = append(texts, "free "+rule, "far "+rule)
	}
	for from := range 6 {
		for to := range 6 {
			texts = append(texts, fmt.Sprintf("move %d %d", from, to))
			for _, rule := range ruleTexts() {
				texts = append(texts, fmt.Sprintf("by %s %d %d", rule, from, to))
			}
		}
	}
	return append(texts, "move 10 11", "move 11 10", "move 9 8", "move 0 999999", "move 999999 999998", "by - 9 8", "by obl 0 9", "by obl 999999 0", "by b 11 10")
}

// someLines returns all lines of up to 3 cells, and some of all greater sizes.
func someLines() []string {
	return append(linesUpTo(3), "T..F", "TF.F", ".TTF", "TTFF", "F..T", "TT.F", "FTF.", "TT.FF", "T.TFF", "TFT.F", "TTF.F", "FF.TT", "TT..FF", "TFTFTF", "T.F.T.F", "TTT.FFF", "FFTT..FT",
		"TTTT.FFFF", "T.......F", "TTTTT.FFFF", "TTTTTFFFFF", "FFFFF.TTTT", "T........F", ".TTFF.TTFF", "TTTTT.FFFFF", "TTTTTFFFFFF", "F.........T", "TTTT....FFFF", "TTTTTT.FFFFF", "............", "TTTTTTFFFFFF")
}

// someDesks returns desks with these lines, and with their last lines in Kept.
func someDesks() []impl.Desk {
	var desks []impl.Desk
	for _, w := range someLines() {
		desks = append(desks, impl.Desk{Line: w, Kept: lastOf(w)})
	}
	return desks
}

// keptDesks returns desks with these lines, and with others in Kept: the same line, one that is seldom reached, one of mostly other numbers, and one that is longer than a called function takes.
func keptDesks() []impl.Desk {
	lines := someLines()
	var desks []impl.Desk
	for k, w := range lines {
		for _, v := range []string{w, otherOf(w), lines[(7*k+5)%len(lines)], "TTTTT.FFFFF"} {
			desks = append(desks, impl.Desk{Line: w, Kept: v})
		}
	}
	return desks
}

// mixedScripts returns the lines of scripts of 0 up to MaxLines lines, chosen by numbers that follow a rule: lines of text that are right, mostly such ones that change the desk and such ones that ask, and some that are wrong.
func mixedScripts() [][]string {
	z := 1
	choose := func(texts []string) string {
		z = (z*1103 + 12345) % 99991
		return texts[z%len(texts)]
	}
	changing := []string{"line T.F", "line TT..F", "line TTT.FFF", "first 3 1 2", "first 1 2 1", "first 2 0 2", "first 5 2 5", "move 1 2", "move 2 1", "move 0 1", "move 3 2", "play F", "play T", "play FT", "play TF", "play ", "other", "keep", "swap", "by o 0 2", "by b 2 1", "by l 0 3", "by obl 4 2"}
	asking := []string{"show", "moves", "way", "pairs", "rank", "reached", "longest", "dead", "plays", "to", "free b", "free ol", "far -", "far b", "swapword 2 3"}
	right, wrong := rightTexts(), shortTexts(wrongTexts())
	var scripts [][]string
	for many := range 51 {
		for range 4 {
			var lines []string
			for len(lines) < many {
				lines = append(lines, choose(changing), choose(asking), choose(changing), choose([]string{choose(right), choose(changing), choose(wrong)}))
			}
			scripts = append(scripts, lines[:many])
		}
	}
	return scripts
}

// shortTexts returns those of at most 40 bytes.
func shortTexts(texts []string) []string {
	return slices.DeleteFunc(texts, func(text string) bool { return len(text) > 40 })
}

// scriptOf returns the script of some lines.
func scriptOf(lines []string) string {
	script := ""
	for _, line := range lines {
		script += line + "\n"
	}
	return script
}
