package tests

import (
	"fmt"
	"slices"
	"strings"
	"testing"

	"loop.example/g01271/impl"
)

// Promise 10: chapter 10 on valid arguments.

func TestLimitsOfScripts(t *testing.T) {
	if impl.MaxScript != 3000 || impl.MaxLines != 50 {
		t.Error("MaxScript and MaxLines", impl.MaxScript, impl.MaxLines)
	}
}

func TestFirstDesk(t *testing.T) {
	if d := impl.FirstDesk(); d != (impl.Desk{Line: "TT.FF", Kept: "FF.TT"}) || !impl.IsDesk(d) {
		t.Errorf("FirstDesk %q, which is a desk: %v", d, impl.IsDesk(d))
	}
}

// TestDesks takes all pairs of short lines, and of lines of MaxCells cells.
func TestDesks(t *testing.T) {
	lines := append(linesUpTo(4), longLines()...)
	for _, w := range lines {
		for _, v := range lines {
			if d := (impl.Desk{Line: w, Kept: v}); !impl.IsDesk(d) {
				t.Errorf("%q is a desk", d)
			}
		}
	}
}

// checkReply holds what is told of a line of text on a desk against what is wanted.
func checkReply(t *testing.T, d impl.Desk, text string, want toldReply) {
	t.Helper()
	if behind, reply, ok := impl.DeskLine(d, text); behind != want.desk || reply != want.reply || !ok {
		t.Errorf("DeskLine %q %.60q: %q %q %v, want %q %q", d, text, behind, reply, ok, want.desk, want.reply)
	}
}

// effectsNamed names the replies to lines of text with an effect.
func effectsNamed() []namedReply {
	return []namedReply{
		{"TT.FF FF.TT", "line T.F", "T.F", "T.F FF.TT"},
		{"TT.FF FF.TT", "line TT.FF", "TT.FF", ""},
		{"TT.FF FF.TT", "line .", ".", ". FF.TT"},
		{"T F", "line F.TTFF", "F.TTFF", "F.TTFF F"},
		{"T F", "line TTTTFFFF....", "TTTTFFFF....", "TTTTFFFF.... F"},
		{"T F", "first 2 1 2", "TT.FF", "TT.FF F"},
		{"T F", "first 1 0 0", "T", ""},
		{"T F", "first 0 1 0", ".", ". F"},
		{"T F", "first 0 0 1", "F", "F F"},
		{"T F", "first 3 2 0", "TTT..", "TTT.. F"},
		{"T F", "first 12 0 0", "TTTTTTTTTTTT", "TTTTTTTTTTTT F"},
		{"T F", "first 0 10 2", "..........FF", "..........FF F"},
		{"T F", "first 0 0 0", "no", ""},
		{"T F", "first 13 0 0", "no", ""},
		{"T F", "first 6 1 6", "no", ""},
		{"T F", "first 999999 0 1", "no", ""},
		{"T F", "first 999999 999999 999999", "no", ""},
		{"TT.FF FF.TT", "move 1 2", "T.TFF", "T.TFF FF.TT"},
		{"TT.FF FF.TT", "move 3 2", "TTF.F", "TTF.F FF.TT"},
		{"T.TFF FF.TT", "move 3 1", "TFT.F", "TFT.F FF.TT"},
		{"TTTTTTTTTTT. T", "move 10 11", "TTTTTTTTTT.T", "TTTTTTTTTT.T T"},
		{"TT.FF FF.TT", "move 2 1", "no", ""},
		{"TT.FF FF.TT", "move 0 2", "no", ""},
		{"TT.FF FF.TT", "move 0 0", "no", ""},
		{"TT.FF FF.TT", "move 5 4", "no", ""},
		{"TT.FF FF.TT", "move 999999 999998", "no", ""},
		{"F.T F.T", "move 0 1", "no", ""},
		{"TTFF T", "move 1 2", "no", ""},
		{"TT.FF FF.TT", "play F", "TTF.F", "TTF.F FF.TT"},
		{"TT.FF FF.TT", "play TT", ".TTFF", ".TTFF FF.TT"},
		{"TT.FF FF.TT", "play FTTFFTTF", "FF.TT", "FF.TT FF.TT"},
		{"T.F F", "play TFT", "F.T", "F.T F"},
		// The empty word, on blocked lines too.
		{"TT.FF FF.TT", "play ", "TT.FF", ""},
		{"F.T T", "play ", "F.T", ""},
		{". T", "play ", ".", ""},
		{"TTTTT.FFFF T", "play ", "TTTTT.FFFF", ""},
		// Words that cannot be played, on lines with no gap, with several gaps, and of more than MaxReach cells too.
		{"TT.FF FF.TT", "play TTT", "no", ""},
		{"TT.FF FF.TT", "play FTTFFTTFF", "no", ""},
		{"TT.FF FF.TT", "play " + strings.Repeat("TF", 20), "no", ""},
		{"F.T T", "play T", "no", ""},
		{"TTFF T", "play ", "no", ""},
		{"T..F T", "play T", "no", ""},
		{"T..F T", "play ", "no", ""},
		{"TTTTT.FFFFF T", "play T", "no", ""},
		{"TTTTT.FFFFF T", "play ", "no", ""},
		{"TT.FF FF.TT", "other", "TT.FF", ""},
		{"T.TFF FF.TT", "other", "TTF.F", "TTF.F FF.TT"},
		{"TTTTTT.FFFF. F.T", "other", ".TTTT.FFFFFF", ".TTTT.FFFFFF F.T"},
		{"TT.FF FF.TT", "by - 1 2", "T.TFF", "T.TFF FF.TT"},
		{"TT.FF FF.TT", "by o 0 2", ".TTFF", ".TTFF FF.TT"},
		{"F.T F.T", "by b 0 1", ".FT", ".FT F.T"},
		{"TFF. T", "by l 0 3", ".FFT", ".FFT T"},
		{".FFT T", "by bl 3 0", "TFF.", "TFF. T"},
		{"TTF. T", "by ol 0 3", ".TFT", ".TFT T"},
		{".TTT T", "by ob 2 0", "TT.T", "TT.T T"},
		{"TFFFFFFFF. T", "by obl 1 9", "T.FFFFFFFF", "T.FFFFFFFF T"},
		{"TT.FF FF.TT", "by - 0 2", "no", ""},
		{"TT.FF FF.TT", "by b 0 2", "no", ""},
		{"TFF. T", "by obl 3 0", "no", ""},
		{"TTFF T", "by obl 0 1", "no", ""},
		{"TT.FF FF.TT", "by obl 999999 2", "no", ""},
		// A line of more than MaxReach cells, with a move that a line can make.
		{"TTTTT.FFFFF T", "by - 4 5", "no", ""},
		{"TTTTT.FFFFF T", "move 4 5", "TTTT.TFFFFF", "TTTT.TFFFFF T"},
		{"TT.FF FF.TT", "keep", "TT.FF", "TT.FF TT.FF"},
		{"TTTTTT.FFFF. F.T", "keep", "TTTTTT.FFFF.", "TTTTTT.FFFF. TTTTTT.FFFF."},
		{"TT.FF FF.TT", "swap", "FF.TT", "FF.TT TT.FF"},
		{"T F", "swap", "F", "F T"},
		{"T T", "swap", "T", ""},
	}
}

// repliesNamed names the replies to lines of text without an effect.
func repliesNamed() []namedReply {
	return []namedReply{
		// An ordinary desk.
		{"TT.FF FF.TT", "show", "TT.FF", ""},
		{"TT.FF FF.TT", "moves", "1-2,3-2", ""},
		{"TT.FF FF.TT", "way", "12", ""},
		{"TT.FF FF.TT", "pairs", "4", ""},
		{"TT.FF FF.TT", "rank", "27", ""},
		{"TT.FF FF.TT", "reached", "23", ""},
		{"TT.FF FF.TT", "longest", "8", ""},
		{"TT.FF FF.TT", "dead", ".TTFF,F.TTF,FF.TT,TFF.T,TTFF.", ""},
		{"TT.FF FF.TT", "plays", "2", ""},
		{"TT.FF FF.TT", "to", "1-2,3-1,4-3,2-4,0-2,1-0,3-1,2-3", ""},
		{"TT.FF FF.TT", "free -", "1-2,3-2", ""},
		{"TT.FF FF.TT", "free o", "0-2,1-2,3-2,4-2", ""},
		{"TT.FF FF.TT", "free b", "1-2,3-2", ""},
		{"F.T F.T", "free b", "0-1,2-1", ""},
		{"TFF. T", "free l", "0-3", ""},
		{"TFF. T", "free bl", "0-3,2-3", ""},
		{"TTF. T", "free ol", "0-3,1-3", ""},
		{".TTT T", "free ob", "1-0,2-0", ""},
		{"TTF. T", "free obl", "0-3,1-3,2-3", ""},
		{"TT.FF FF.TT", "far -", "FF.TT,8", ""},
		{"TT.FF FF.TT", "far b", ".FFTT,8", ""},
		{"TT.FF FF.TT", "far obl", "FF.TT,5", ""},
		{"T.F F.T", "far -", "F.T,3", ""},
		{"TT.FF FF.TT", "swapword 2 2", "FTTFFTTF", ""},
		{"TT.FF FF.TT", "swapword 1 1", "FTF", ""},
		{"TT.FF FF.TT", "swapword 2 1", "FTFTF", ""},
		{"TT.FF FF.TT", "swapword 1 2", "FTFFT", ""},
		{"T T", "swapword 8 1", "FTFTFTFTFTFTFTFTF", ""},
		{"TTTTTTFFFFFF T", "swapword 1 8", "FTFFFTFFFTFFFTFFT", ""},
		{"T T", "swapword 5 4", "FTTFFFTTTTFFFFTTTTTFFFFTTTFFT", ""},
		{"T T", "swapword 5 5", "no", ""},
		{"T T", "swapword 9 0", "no", ""},
		{"T T", "swapword 0 1", "no", ""},
		{"T T", "swapword 0 0", "no", ""},
		{"T T", "swapword 1 9", "no", ""},
		{"T T", "swapword 999999 1", "no", ""},
		// A line with no gap.
		{"TTFF T", "show", "TTFF", ""},
		{"TTFF T", "moves", "-", ""},
		{"TTFF T", "way", "8", ""},
		{"TTFF T", "pairs", "4", ""},
		{"TTFF T", "rank", "5", ""},
		{"TTFF T", "reached", "1", ""},
		{"TTFF T", "longest", "0", ""},
		{"TTFF T", "dead", "TTFF", ""},
		{"TTFF T", "plays", "0", ""},
		{"TTFF T", "to", "no", ""},
		{"TTFF T", "free obl", "-", ""},
		{"TTFF T", "far obl", "TTFF,0", ""},
		{"TTFF TTFF", "plays", "1", ""},
		{"TTFF TTFF", "to", "-", ""},
		{"TTFF FFTT", "plays", "0", ""},
		{"TTFF FFTT", "to", "no", ""},
		// A blocked line, which is its own dead end.
		{"F.T F.T", "moves", "-", ""},
		{"F.T F.T", "way", "0", ""},
		{"F.T F.T", "pairs", "0", ""},
		{"F.T F.T", "rank", "2", ""},
		{"F.T F.T", "reached", "1", ""},
		{"F.T F.T", "longest", "0", ""},
		{"F.T F.T", "dead", "F.T", ""},
		{"F.T F.T", "plays", "1", ""},
		{"F.T F.T", "to", "-", ""},
		{"F.T F.T", "free -", "-", ""},
		{"F.T F.T", "free ol", "-", ""},
		{"F.T F.T", "far -", "F.T,0", ""},
		{".TTF T", "dead", ".TTF", ""},
		{".TTF T", "free l", "3-0", ""},
		// Kept is not reached: it is behind, or has other numbers.
		{"F.T T.F", "plays", "0", ""},
		{"F.T T.F", "to", "no", ""},
		{"T.F T.FF", "plays", "0", ""},
		{"T.F T.FF", "to", "no", ""},
		{"T.F F.T", "plays", "2", ""},
		{"T.F F.T", "to", "0-1,2-0,1-2", ""},
		// Lines of MaxReach cells, and of more.
		{"TTTTT.FFFF FFFF.TTTTT", "reached", "304", ""},
		{"TTTTT.FFFF FFFF.TTTTT", "longest", "29", ""},
		{"TTTTT.FFFF FFFF.TTTTT", "plays", "2", ""},
		{"TTTTT.FFFF FFFF.TTTTT", "rank", "1255", ""},
		{"TFFFFFFFF. T", "free obl", "0-9,1-9,2-9,3-9,4-9,5-9,6-9,7-9,8-9", ""},
		{"TTTTT.FFFFF T", "show", "TTTTT.FFFFF", ""},
		{"TTTTTT.FFFF. F.T", "moves", "5-6,7-6", ""},
		{"TTTTTTTTTT.. T", "moves", "9-10", ""},
		{"TTTTTT.FFFF. F.T", "way", "64", ""},
		{"TTTTTT.FFFF. F.T", "pairs", "24", ""},
		{"TTTTFFFF.... T", "rank", "34649", ""},
		{"TTTTT.FFFFF T", "reached", "no", ""},
		{"TTTTT.FFFFF T", "longest", "no", ""},
		{"TTTTT.FFFFF T", "dead", "no", ""},
		{"TTTTT.FFFFF TTTTT.FFFFF", "plays", "no", ""},
		{"TTTTT.FFFFF TTTTT.FFFFF", "to", "no", ""},
		{"T.F TTTTT.FFFFF", "plays", "no", ""},
		{"T.F TTTTT.FFFFF", "to", "no", ""},
		{"TTTTT.FFFFF T.F", "plays", "no", ""},
		{"TTTTT.FFFFF T.F", "to", "no", ""},
		{"TTTTT.FFFFF T", "free -", "no", ""},
		{"TTTTT.FFFFF T", "far obl", "no", ""},
		{"TTTTTTTTTTTT T", "far -", "no", ""},
		// One cell.
		{"T T", "moves", "-", ""},
		{"T T", "way", "0", ""},
		{"T T", "rank", "0", ""},
		{"T T", "reached", "1", ""},
		{"T T", "dead", "T", ""},
		{"T T", "to", "-", ""},
	}
}

// TestNamedReplies checks the helpers too.
func TestNamedReplies(t *testing.T) {
	b := newConsoleBook()
	for _, c := range append(effectsNamed(), repliesNamed()...) {
		d := deskNamed(c.desk)
		want := toldReply{d, c.reply}
		if c.behind != "" {
			want.desk = deskNamed(c.behind)
		}
		checkReply(t, d, c.text, want)
		if told := b.tell(d, c.text); told != want {
			t.Errorf("%q on %q is told as %q", c.text, d, told)
		}
	}
}

// TestRepliesOnManyDesks takes all that is understood.
func TestRepliesOnManyDesks(t *testing.T) {
	b := newConsoleBook()
	texts := rightTexts()
	for _, d := range someDesks() {
		for _, text := range texts {
			checkReply(t, d, text, b.tell(d, text))
		}
	}
	for _, d := range keptDesks() {
		for _, text := range allForms() {
			checkReply(t, d, text, b.tell(d, text))
		}
	}
}

// TestLinesAndNumbersOfTexts takes all short lines and some of MaxCells cells, and numbers of FirstLine and of ExchangeWord in and around their bounds.
func TestLinesAndNumbersOfTexts(t *testing.T) {
	b := newConsoleBook()
	d := impl.Desk{Line: "T", Kept: "F.T"}
	for _, w := range append(linesUpTo(6), longLines()...) {
		checkReply(t, d, "line "+w, toldReply{impl.Desk{Line: w, Kept: "F.T"}, w})
	}
	for n := range 14 {
		for k := range 14 {
			for i := range 14 {
				text := fmt.Sprintf("first %d %d %d", n, k, i)
				checkReply(t, d, text, b.tell(d, text))
			}
			text := fmt.Sprintf("swapword %d %d", n, k)
			checkReply(t, d, text, b.tell(d, text))
		}
	}
}

// replyOf returns the reply for what a call returns: no if it fails.
func replyOf(text string, ok bool) string {
	if !ok {
		return "no"
	}
	return text
}

func replyOfNumber(n int, ok bool) string {
	return replyOf(fmt.Sprint(n), ok)
}

func replyOfMoves(moves []impl.Move, ok bool) string {
	return replyOf(movesListed(moves), ok)
}

func replyOfLines(lines []string, ok bool) string {
	return replyOf(strings.Join(lines, ","), ok)
}

func replyOfFarthest(line string, moves int, ok bool) string {
	return replyOf(fmt.Sprintf("%s,%d", line, moves), ok)
}

// TestRepliesAreThoseOfTheCalls checks the words of promise 10 on what the calls tell that lines of text name.
func TestRepliesAreThoseOfTheCalls(t *testing.T) {
	for _, d := range someDesks() {
		replies := map[string]string{
			"show": d.Line, "moves": replyOfMoves(impl.MovesOf(d.Line)), "way": replyOfNumber(impl.WayToGo(d.Line)), "pairs": replyOfNumber(impl.PairsToPass(d.Line)), "rank": replyOfNumber(impl.RankOfLine(d.Line)),
			"reached": replyOfNumber(impl.CountReached(d.Line)), "longest": replyOfNumber(impl.LongestPlay(d.Line)), "dead": replyOfLines(impl.DeadEnds(d.Line)),
		}
		effects := map[string]string{"other": replyOf(impl.OtherLine(d.Line))}
		for k, text := range ruleTexts() {
			r := ruleNamed(text)
			replies["free "+text] = replyOfMoves(impl.RuleMoves(d.Line, r))
			replies["far "+text] = replyOfFarthest(impl.FarthestByRule(d.Line, r))
			replies[fmt.Sprintf("swapword %d %d", k, 9-k)] = replyOf(impl.ExchangeWord(k, 9-k))
			effects[fmt.Sprintf("first %d %d %d", k, 1, 2*k)] = replyOf(impl.FirstLine(k, 1, 2*k))
			for from := range 4 {
				m := impl.Move{From: from, To: (from + k) % 4}
				effects[fmt.Sprintf("move %d %d", m.From, m.To)] = replyOf(impl.MakeMove(d.Line, m))
				effects[fmt.Sprintf("by %s %d %d", text, m.From, m.To)] = replyOf(impl.MakeByRule(d.Line, m, r))
			}
		}
		for _, word := range textsOf("FT", 2) {
			effects["play "+word] = replyOf(impl.PlayWord(d.Line, word))
		}
		for text, reply := range replies {
			checkReply(t, d, text, toldReply{d, reply})
		}
		for text, reply := range effects {
			behind := d
			if reply != "no" {
				behind.Line = reply
			}
			checkReply(t, d, text, toldReply{behind, reply})
		}
	}
	for _, d := range append(someDesks(), keptDesks()...) {
		checkReply(t, d, "plays", toldReply{d, replyOfNumber(impl.CountPlays(d.Line, d.Kept))})
		checkReply(t, d, "to", toldReply{d, replyOfMoves(impl.FirstPlay(d.Line, d.Kept))})
	}
}

// TestNoAndWhatChangeNothing checks it on what the calls tell alone, and that the reply to an effect is the Line.
func TestNoAndWhatChangeNothing(t *testing.T) {
	texts := append(rightTexts(), wrongTexts()...)
	replied := map[string]int{}
	for k, d := range append(someDesks(), keptDesks()...) {
		for at := k % 5; at < len(texts); at += 5 {
			behind, reply, ok := impl.DeskLine(d, texts[at])
			if !ok || !impl.IsDesk(behind) {
				t.Errorf("DeskLine %q %.60q: %q %q %v", d, texts[at], behind, reply, ok)
			}
			if reply == "no" || reply == "what" {
				replied[reply]++
				if behind != d {
					t.Errorf("DeskLine %q %.60q: %q %q", d, texts[at], behind, reply)
				}
			} else if behind != d && reply != behind.Line {
				t.Errorf("DeskLine %q %.60q: %q behind %q", d, texts[at], reply, behind)
			}
		}
	}
	if replied["no"] < 1000 || replied["what"] < 1000 {
		t.Error("the replies are too few", replied)
	}
}

// checkScript holds what is told of a script against what is wanted.
func checkScript(t *testing.T, script string, desk impl.Desk, replies []string, failed []int) {
	t.Helper()
	if l, ok := impl.RunScript(script); !slices.Equal(l, replies) || !ok {
		t.Errorf("RunScript %.300q: %q %v, want %q", script, l, ok, replies)
	}
	if d, ok := impl.DeskAfter(script); d != desk || !ok {
		t.Errorf("DeskAfter %.300q: %q %v, want %q", script, d, ok, desk)
	}
	if numbers, ok := impl.FailedLines(script); !slices.Equal(numbers, failed) || !ok {
		t.Errorf("FailedLines %.300q: %v %v, want %v", script, numbers, ok, failed)
	}
}

func TestNamedScripts(t *testing.T) {
	for _, c := range []struct {
		script, desk string
		replies      []string
		failed       []int
	}{
		{"", "TT.FF FF.TT", nil, nil},
		{"show\n", "TT.FF FF.TT", []string{"TT.FF"}, nil},
		{"fly\n", "TT.FF FF.TT", []string{"what"}, []int{1}},
		{"move 0 1\n", "TT.FF FF.TT", []string{"no"}, []int{1}},
		{"swap\n", "FF.TT TT.FF", []string{"FF.TT"}, nil},
		// Empty lines are lines of text too.
		{"\n", "TT.FF FF.TT", []string{"what"}, []int{1}},
		{"\n\n\n", "TT.FF FF.TT", []string{"what", "what", "what"}, []int{1, 2, 3}},
		{"\nmove 1 2\n\n", "T.TFF FF.TT", []string{"what", "T.TFF", "what"}, []int{1, 3}},
		{"move 1 2\n\nshow\n", "T.TFF FF.TT", []string{"T.TFF", "what", "T.TFF"}, []int{2}},
		// A failing line is left out, and those behind it are executed.
		{"move 1 2\nmove 1 2\nmove 3 1\nplay x\nkeep\n", "TFT.F TFT.F", []string{"T.TFF", "no", "TFT.F", "what", "TFT.F"}, []int{2, 4}},
		{"keep\nplay FTTFFTTF\nswap\nplays\nto\nswap\nto\n", "FF.TT TT.FF", []string{"TT.FF", "FF.TT", "TT.FF", "2", "1-2,3-1,4-3,2-4,0-2,1-0,3-1,2-3", "FF.TT", "no"}, []int{7}},
		{"swap\nby b 3 2\nby b 2 3\nby - 3 2\nother\nmoves\nfree b\n", "FF.TT TT.FF", []string{"FF.TT", "FFT.T", "FF.TT", "no", "FF.TT", "-", "1-2,3-2"}, []int{4}},
		{"first 6 1 5\nmoves\nreached\nplay \nmove 5 6\nkeep\nfirst 1 1 1\nplays\nto\n", "T.F TTTTT.TFFFFF", []string{"TTTTTT.FFFFF", "5-6,7-6", "no", "no", "TTTTT.TFFFFF", "TTTTT.TFFFFF", "T.F", "no", "no"}, []int{3, 4, 8, 9}},
		{"line TTFF\nmoves\ndead\nfar obl\nplay \nlongest\nrank\n", "TTFF FF.TT", []string{"TTFF", "-", "TTFF", "TTFF,0", "no", "0", "5"}, []int{5}},
		{"show\r\n show\nshow \n\tshow\nSHOW\n", "TT.FF FF.TT", []string{"what", "what", "what", "what", "what"}, []int{1, 2, 3, 4, 5}},
	} {
		checkScript(t, c.script, deskNamed(c.desk), c.replies, c.failed)
	}
}

func TestExampleOfConsole(t *testing.T) {
	lines := []string{"moves", "way", "plays", "move 1 2", "moves", "play F", "other", "line T.F", "dead", "keep", "to", "by b 0 1", "free -", "move 2 2", "line T.F.x", "fly"}
	replies := []string{"1-2,3-2", "12", "2", "T.TFF", "0-1,3-1", "TFT.F", "T.FTF", "T.F", "F.T", "T.F", "-", ".TF", "2-0", "no", "what", "what"}
	checkScript(t, scriptOf(lines), deskNamed(".TF T.F"), replies, []int{14, 15, 16})
	d := impl.FirstDesk()
	for k, line := range lines {
		behind, reply, ok := impl.DeskLine(d, line)
		if reply != replies[k] || !ok {
			t.Errorf("DeskLine %q %q: %q %v, want %q", d, line, reply, ok, replies[k])
		}
		d = behind
	}
}

func TestMixedScripts(t *testing.T) {
	b := newConsoleBook()
	replied := map[string]int{}
	for _, lines := range mixedScripts() {
		desk, replies, failed := b.tellScript(lines)
		checkScript(t, scriptOf(lines), desk, replies, failed)
		for _, reply := range replies {
			replied[reply]++
		}
	}
	if replied["no"] < 300 || replied["what"] < 300 || replied["-"] < 30 || len(replied) < 200 {
		t.Error("the scripts are too plain", replied["no"], replied["what"], replied["-"], len(replied))
	}
}

// TestScriptsAreTheirLines checks on what the calls tell alone that the lines of a script are executed one after the other, and that failed lines are those whose reply is no or what.
func TestScriptsAreTheirLines(t *testing.T) {
	for _, lines := range mixedScripts() {
		d := impl.FirstDesk()
		var replies []string
		var failed []int
		for k, line := range lines {
			behind, reply, ok := impl.DeskLine(d, line)
			if !ok {
				t.Errorf("DeskLine %q %q fails", d, line)
			}
			if reply == "no" || reply == "what" {
				failed = append(failed, k+1)
			}
			replies = append(replies, reply)
			d = behind
		}
		checkScript(t, scriptOf(lines), d, replies, failed)
	}
}

// TestFirstLinesAlone checks on what the calls tell alone that the first lines of a script have the same replies without the others.
func TestFirstLinesAlone(t *testing.T) {
	scripts := mixedScripts()
	for k := 3; k < len(scripts); k += 9 {
		lines := scripts[k]
		replies, ok := impl.RunScript(scriptOf(lines))
		failed, fine := impl.FailedLines(scriptOf(lines))
		if len(replies) != len(lines) || !ok || !fine {
			t.Fatalf("RunScript %q: %q %v, FailedLines %v %v", lines, replies, ok, failed, fine)
		}
		for many := range lines {
			first := scriptOf(lines[:many])
			if l, ok := impl.RunScript(first); !slices.Equal(l, replies[:many]) || !ok {
				t.Errorf("RunScript %q: %q %v, want %q", first, l, ok, replies[:many])
			}
			before := slices.DeleteFunc(slices.Clone(failed), func(number int) bool { return number > many })
			if l, ok := impl.FailedLines(first); !slices.Equal(l, before) || !ok {
				t.Errorf("FailedLines %q: %v %v, want %v", first, l, ok, before)
			}
		}
	}
}

// TestMostLines takes scripts of MaxLines lines: the same one, and as many changes as can be.
func TestMostLines(t *testing.T) {
	first := impl.FirstDesk()
	checkScript(t, strings.Repeat("show\n", 50), first, slices.Repeat([]string{"TT.FF"}, 50), nil)
	var all []int
	for number := 1; number <= 50; number++ {
		all = append(all, number)
	}
	checkScript(t, strings.Repeat("\n", 50), first, slices.Repeat([]string{"what"}, 50), all)
	checkScript(t, strings.Repeat("move 0 0\n", 50), first, slices.Repeat([]string{"no"}, 50), all)
	checkScript(t, strings.Repeat("swap\n", 49), deskNamed("FF.TT TT.FF"), append(slices.Repeat([]string{"FF.TT", "TT.FF"}, 24), "FF.TT"), nil)
	checkScript(t, strings.Repeat("swap\n", 50), first, slices.Repeat([]string{"FF.TT", "TT.FF"}, 25), nil)
	checkScript(t, "line F.T\n"+strings.Repeat("by b 0 1\nby b 1 0\n", 24)+"fly\n", deskNamed("F.T FF.TT"), append(append([]string{"F.T"}, slices.Repeat([]string{".FT", "F.T"}, 24)...), "what"), []int{50})
}

// TestMostBytes takes scripts of MaxScript bytes, of one line and of several ones, and lines of text of as many.
func TestMostBytes(t *testing.T) {
	first := impl.FirstDesk()
	checkScript(t, strings.Repeat("x", 2999)+"\n", first, []string{"what"}, []int{1})
	checkScript(t, strings.Repeat(" ", 2999)+"\n", first, []string{"what"}, []int{1})
	checkScript(t, "play "+strings.Repeat("T", 2994)+"\n", first, []string{"what"}, []int{1})
	checkScript(t, "keep\n"+strings.Repeat("\xff", 2989)+"\nswap\n", deskNamed("TT.FF TT.FF"), []string{"TT.FF", "what", "TT.FF"}, []int{2})
	checkScript(t, strings.Repeat("swap\n", 49)+strings.Repeat("y", 2754)+"\n", deskNamed("FF.TT TT.FF"), append(append(slices.Repeat([]string{"FF.TT", "TT.FF"}, 24), "FF.TT"), "what"), []int{50})
	lines := slices.Repeat([]string{"first " + strings.Repeat("0", 49) + " 1 1"}, 50)
	if script := scriptOf(lines); len(script) != 3000 {
		t.Fatalf("the script has %d bytes", len(script))
	}
	_, replies, failed := newConsoleBook().tellScript(lines)
	checkScript(t, scriptOf(lines), first, replies, failed)
	for _, d := range someDesks() {
		for _, text := range []string{strings.Repeat("x", 3000), strings.Repeat(" ", 3000), "show" + strings.Repeat(" ", 2996), "line " + strings.Repeat("T", 2995), "move 1 " + strings.Repeat("2", 2993), "free " + strings.Repeat("o", 2995), strings.Repeat("\x00", 3000)} {
			if len(text) != 3000 {
				t.Fatalf("%.60q has %d bytes", text, len(text))
			}
			checkReply(t, d, text, toldReply{d, "what"})
		}
	}
}
