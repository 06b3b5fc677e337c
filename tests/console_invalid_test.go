package tests

import (
	"slices"
	"strings"
	"testing"

	"loop.example/g01271/impl"
)

// Promise 11 for chapter 10: all arguments are taken without a panic, invalid ones give zero values, and none is changed.

// noDesks returns desks whose Line, Kept or both are no lines.
func noDesks() []impl.Desk {
	desks := []impl.Desk{{}}
	for _, w := range noLines() {
		desks = append(desks, impl.Desk{Line: w, Kept: "T.F"}, impl.Desk{Line: "T.F", Kept: w}, impl.Desk{Line: w, Kept: w}, impl.Desk{Line: "TTTTTTTTTTTT", Kept: w}, impl.Desk{Line: w, Kept: ""})
	}
	return desks
}

func checkNotExecuted(t *testing.T, d impl.Desk, text string) {
	t.Helper()
	if behind, reply, ok := impl.DeskLine(d, text); behind != (impl.Desk{}) || reply != "" || ok {
		t.Errorf("DeskLine %.60q %.60q: %.60q %.60q %v", d, text, behind, reply, ok)
	}
}

// TestNoDesks takes also lines of text that ask for nothing of the desk, or that would make it a desk.
func TestNoDesks(t *testing.T) {
	texts := append(allForms(), "", "fly", "move 0 0", "line x", "play ", "show\n", strings.Repeat("x", 3001))
	for _, d := range noDesks() {
		if impl.IsDesk(d) {
			t.Errorf("IsDesk %.60q", d)
		}
		for _, text := range texts {
			checkNotExecuted(t, d, text)
		}
	}
}

// TestTextsThatAreNoLineOfText takes a newline in all places of lines of text, and texts of more than MaxScript bytes.
func TestTextsThatAreNoLineOfText(t *testing.T) {
	texts := []string{"\n", "\n\n", "show\n", "\nshow", "show\nshow\n", " \n", strings.Repeat("\n", 3000), strings.Repeat("x", 2999) + "\n"}
	for _, form := range allForms() {
		for at := range len(form) + 1 {
			texts = append(texts, form[:at]+"\n"+form[at:])
		}
		texts = append(texts, form+strings.Repeat(" ", 3001-len(form)), strings.Repeat(form+" ", 1001), form+strings.Repeat("\x00", 100000), scriptOf([]string{form, form}))
	}
	for _, sign := range []string{"x", " ", "T", "0", "\n", "\x00", "\xff", "-"} {
		texts = append(texts, strings.Repeat(sign, 3001), strings.Repeat(sign, 3002), strings.Repeat(sign, 1000000))
	}
	texts = append(texts, "line "+strings.Repeat("T", 2996), "play "+strings.Repeat("T", 2996), "move 1 "+strings.Repeat("0", 2994), strings.Repeat("move 1 2 ", 334))
	for _, text := range texts {
		for _, d := range []impl.Desk{impl.FirstDesk(), {Line: "T", Kept: "F"}, {Line: "TTTTTTFFFFFF", Kept: "............"}} {
			checkNotExecuted(t, d, text)
		}
	}
}

// TestLinesOfTextThatAreWrong takes lines of text with parts that are none, too many and too few, on desks of all kinds, and one after the other as scripts.
func TestLinesOfTextThatAreWrong(t *testing.T) {
	texts := wrongTexts()
	desks := append(someDesks(), keptDesks()...)
	for k, text := range texts {
		for _, d := range []impl.Desk{impl.FirstDesk(), {Line: "F.T", Kept: "T.F"}, {Line: "TTFF", Kept: "T"}, {Line: "TTTTTTFFFFFF", Kept: "TTTTT.FFFFF"}, desks[k%len(desks)]} {
			checkReply(t, d, text, toldReply{d, "what"})
		}
		checkScript(t, "keep\n"+text+"\nswap\n"+text+"\n", deskNamed("TT.FF TT.FF"), []string{"TT.FF", "what", "TT.FF", "what"}, []int{2, 4})
	}
}

// TestEachByteInALineOfText puts each byte in all places of lines of text, and in the place of each of their bytes.
func TestEachByteInALineOfText(t *testing.T) {
	b := newConsoleBook()
	d := impl.Desk{Line: "TT.F", Kept: "F.TT"}
	for _, form := range append(allForms(), "", " ", "play ", "first 10 1 1") {
		for value := range 256 {
			for at := range len(form) + 1 {
				texts := []string{form[:at] + string([]byte{byte(value)}) + form[at:]}
				if at < len(form) {
					texts = append(texts, form[:at]+string([]byte{byte(value)})+form[at+1:])
				}
				for _, text := range texts {
					if value == '\n' {
						checkNotExecuted(t, d, text)
					} else {
						checkReply(t, d, text, b.tell(d, text))
					}
				}
			}
		}
	}
}

// TestShortLinesOfText takes all short texts of some signs behind the first part, so that all blanks, numbers and parts are tried.
func TestShortLinesOfText(t *testing.T) {
	b := newConsoleBook()
	d := impl.Desk{Line: "T..F", Kept: "T.F"}
	for signs := 0; signs <= 5; signs++ {
		for _, text := range textsOf(" 01T-", signs) {
			for _, first := range []string{"move", "line", "by", "far"} {
				checkReply(t, d, first+text, b.tell(d, first+text))
			}
			checkReply(t, d, "first 1"+text, b.tell(d, "first 1"+text))
		}
	}
}

func checkNoScript(t *testing.T, s string) {
	t.Helper()
	if replies, ok := impl.RunScript(s); len(replies) != 0 || ok {
		t.Errorf("RunScript %.60q: %.300q %v", s, replies, ok)
	}
	if d, ok := impl.DeskAfter(s); d != (impl.Desk{}) || ok {
		t.Errorf("DeskAfter %.60q: %q %v", s, d, ok)
	}
	if numbers, ok := impl.FailedLines(s); len(numbers) != 0 || ok {
		t.Errorf("FailedLines %.60q: %v %v", s, numbers, ok)
	}
}

func TestTextsThatAreNoScripts(t *testing.T) {
	for _, s := range []string{
		// Not ended by a newline.
		"x", " ", "show", "show ", "show\nshow", "\nshow", "\n ", "show\n ", "show\n\x00", "show\r", "show\n\r", "\n\nx", "show\\n", strings.Repeat("show\n", 49) + "show", strings.Repeat("\n", 49) + "x", strings.Repeat("x", 3000), "show\n" + strings.Repeat("x", 2995),
		// Other ends of lines.
		"show\r", "show\x85", "show\u2028", "show\x0b", "show\x0c", "show\x00",
		// One line more than MaxLines, and many more.
		strings.Repeat("\n", 51), strings.Repeat("show\n", 51), strings.Repeat("x\n", 51), strings.Repeat("\n", 52), strings.Repeat("swap\n", 100), strings.Repeat("\n", 3000), strings.Repeat("swap\n", 600), strings.Repeat("show\n", 50) + "x", strings.Repeat("show\n", 50) + " ",
		// One byte more than MaxScript, and many more.
		strings.Repeat("x", 3000) + "\n", strings.Repeat(" ", 3000) + "\n", "show\n" + strings.Repeat("x", 2995) + "\n", strings.Repeat("x", 2999) + "\n\n", strings.Repeat("x", 3001), strings.Repeat("\n", 3001), strings.Repeat(strings.Repeat("x", 59)+"\n", 50) + "\n", strings.Repeat(strings.Repeat("y", 59)+"\n", 49) + strings.Repeat("y", 60) + "\n", "line " + strings.Repeat("T", 2995) + "\n",
		strings.Repeat("show\n", 1000000), strings.Repeat("\n", 1000000), strings.Repeat("\x00", 1000000), strings.Repeat("x", 1000000) + "\n",
	} {
		checkNoScript(t, s)
	}
}

// TestScriptsWithoutTheirEnd cuts scripts: they are scripts just behind a newline, and in front of all.
func TestScriptsWithoutTheirEnd(t *testing.T) {
	scripts := mixedScripts()
	for k := 1; k < len(scripts); k += 20 {
		script := scriptOf(scripts[k])
		for many := range len(script) + 1 {
			part := script[:many]
			if many > 0 && script[many-1] != '\n' {
				checkNoScript(t, part)
			} else if replies, ok := impl.RunScript(part); len(replies) != strings.Count(part, "\n") || !ok {
				t.Errorf("RunScript %q: %q %v", part, replies, ok)
			}
		}
	}
}

// TestEachByteInAScript puts each byte in some places of a script, where it is its end too.
func TestEachByteInAScript(t *testing.T) {
	b := newConsoleBook()
	for value := range 256 {
		sign := string([]byte{byte(value)})
		for _, script := range []string{sign, sign + "\n", "show" + sign + "\n", "show\n" + sign, sign + "show\n", "play T" + sign + "T\nmoves\n", "line T" + sign + "F\nmoves\n"} {
			if !strings.HasSuffix(script, "\n") {
				checkNoScript(t, script)
				continue
			}
			lines := strings.Split(strings.TrimSuffix(script, "\n"), "\n")
			desk, replies, failed := b.tellScript(lines)
			checkScript(t, script, desk, replies, failed)
		}
	}
}

// TestScriptsAreNotChanged gives desks and texts that are parts of longer ones, of which nothing may be changed.
func TestScriptsAreNotChanged(t *testing.T) {
	texts, lines := strings.Repeat("line T.F\nplay TFT\nfar b\nkeep\n", 4), strings.Repeat("TT.FF", 4)
	keptTexts, keptLines := strings.Clone(texts), strings.Clone(lines)
	for from := range texts {
		for to := from; to <= len(texts); to += 1 + from%3 {
			part := texts[from:to]
			impl.RunScript(part)
			impl.DeskAfter(part)
			impl.FailedLines(part)
			if to <= len(lines) {
				d := impl.Desk{Line: lines[from:to], Kept: lines[from:to]}
				impl.IsDesk(d)
				impl.DeskLine(d, part)
				impl.DeskLine(d, "other")
			}
			if texts != keptTexts || lines != keptLines {
				t.Fatalf("a call changed its texts to %q and %q", texts, lines)
			}
		}
	}
}

// TestResultsOfScriptsAreNew spoils results with the room behind them, and asks again.
func TestResultsOfScriptsAreNew(t *testing.T) {
	b := newConsoleBook()
	scripts := mixedScripts()
	for k := 0; k < len(scripts); k += 7 {
		desk, replies, failed := b.tellScript(scripts[k])
		script := scriptOf(scripts[k])
		told, _ := impl.RunScript(script)
		other, _ := impl.RunScript(script)
		numbers, _ := impl.FailedLines(script)
		others, _ := impl.FailedLines(script)
		spoilNumbers(numbers)
		told = told[:cap(told)]
		for at := range told {
			told[at] = "spoilt"
		}
		if !slices.Equal(other, replies) || !slices.Equal(others, failed) {
			t.Errorf("results of %q share memory: %q %v", script, other, others)
		}
		checkScript(t, script, desk, replies, failed)
	}
}

// TestNothingIsKeptBetweenScripts executes others in between: each script begins with the FirstDesk.
func TestNothingIsKeptBetweenScripts(t *testing.T) {
	for range 3 {
		checkScript(t, "swap\nline T\nkeep\n", deskNamed("T T"), []string{"FF.TT", "T", "T"}, nil)
		checkScript(t, "", impl.Desk{Line: "TT.FF", Kept: "FF.TT"}, nil, nil)
		checkScript(t, "show\n", impl.Desk{Line: "TT.FF", Kept: "FF.TT"}, []string{"TT.FF"}, nil)
		checkReply(t, deskNamed("T F"), "swap", toldReply{deskNamed("F T"), "F"})
		if d := impl.FirstDesk(); d != deskNamed("TT.FF FF.TT") {
			t.Errorf("FirstDesk %q", d)
		}
	}
}
