package tests

import (
	"math"
	"slices"
	"strings"
	"testing"

	"loop.example/g01271/impl"
)

// Promise 11 for chapter 5: all arguments are taken without a panic, invalid ones give zero values, and none is changed.

// checkNotRuled checks that nothing is told of a line by any rule.
func checkNotRuled(t *testing.T, w, rule string) {
	t.Helper()
	r := ruleNamed(rule)
	if moves, ok := impl.RuleMoves(w, r); len(moves) != 0 || ok {
		t.Errorf("RuleMoves %q %q: %v %v", w, rule, moves, ok)
	}
	if n, ok := impl.CountReachedByRule(w, r); n != 0 || ok {
		t.Errorf("CountReachedByRule %q %q: %d %v", w, rule, n, ok)
	}
	if line, n, ok := impl.FarthestByRule(w, r); line != "" || n != 0 || ok {
		t.Errorf("FarthestByRule %q %q: %q %d %v", w, rule, line, n, ok)
	}
	if both, ok := impl.BothWays(w, r); both || ok {
		t.Errorf("BothWays %q %q: %v %v", w, rule, both, ok)
	}
}

func TestNoLinesByRules(t *testing.T) {
	for _, w := range noReachLines() {
		for _, rule := range ruleTexts() {
			checkNotRuled(t, w, rule)
		}
	}
}

// checkNotMade checks that nothing is told of a move.
func checkNotMade(t *testing.T, w string, m impl.Move, rule string) {
	t.Helper()
	r := ruleNamed(rule)
	if can, ok := impl.CanByRule(w, m, r); can || ok {
		t.Errorf("CanByRule %q %v %q: %v %v", w, m, rule, can, ok)
	}
	if line, ok := impl.MakeByRule(w, m, r); line != "" || ok {
		t.Errorf("MakeByRule %q %v %q: %q %v", w, m, rule, line, ok)
	}
}

// TestMovesOfNoLinesByRules takes moves with numbers in and around a line, the least and greatest ones, and those that could be made if the text were a line.
func TestMovesOfNoLinesByRules(t *testing.T) {
	moves := edgeMoves()
	for _, w := range noReachLines() {
		for _, rule := range []string{"-", "obl"} {
			for _, m := range moves {
				checkNotMade(t, w, m, rule)
			}
			for _, list := range [][]impl.Move{nil, {}, {{From: 0, To: 1}}, {{From: 4, To: 5}}, moves[:100], moves[:101]} {
				if line, ok := impl.PlayByRule(w, list, ruleNamed(rule)); line != "" || ok {
					t.Errorf("PlayByRule %q of %d moves %q: %q %v", w, len(list), rule, line, ok)
				}
			}
		}
	}
}

// checkNoPairByRule checks that nothing is told of two lines.
func checkNoPairByRule(t *testing.T, w, v, rule string) {
	t.Helper()
	r := ruleNamed(rule)
	if n, ok := impl.ShortestByRule(w, v, r); n != 0 || ok {
		t.Errorf("ShortestByRule %q %q %q: %d %v", w, v, rule, n, ok)
	}
	if moves, ok := impl.FirstShortest(w, v, r); len(moves) != 0 || ok {
		t.Errorf("FirstShortest %q %q %q: %v %v", w, v, rule, moves, ok)
	}
	if is, ok := impl.ReachByRule(w, v, r); is || ok {
		t.Errorf("ReachByRule %q %q %q: %v %v", w, v, rule, is, ok)
	}
}

// TestInvalidPairsByRules takes texts of which the first one, the second one or both are invalid, and the same twice.
func TestInvalidPairsByRules(t *testing.T) {
	bad := noReachLines()
	for k, w := range bad {
		for _, rule := range ruleTexts() {
			for _, v := range []string{"T.F", "T", ".", "TTTTTTTTT."} {
				checkNoPairByRule(t, w, v, rule)
				checkNoPairByRule(t, v, w, rule)
			}
			checkNoPairByRule(t, w, w, rule)
			checkNoPairByRule(t, w, bad[(k+1)%len(bad)], rule)
		}
	}
}

// TestListsOfMoreMovesByRule takes lists of more than 100 moves, of which all or none could be made.
func TestListsOfMoreMovesByRule(t *testing.T) {
	for _, n := range []int{101, 102, 1000, 100000} {
		for _, rule := range ruleTexts() {
			for _, moves := range [][]impl.Move{make([]impl.Move, n), slices.Repeat(movesNamed("1-0 0-1"), n)[:n], slices.Repeat(movesNamed("0-1 1-0"), n)[:n]} {
				if line, ok := impl.PlayByRule("T.", moves, ruleNamed(rule)); line != "" || ok {
					t.Errorf("PlayByRule of %d moves %q: %q %v", n, rule, line, ok)
				}
			}
		}
	}
}

func TestPlaysWithAnyNumbersByRule(t *testing.T) {
	for _, rule := range ruleTexts() {
		for _, m := range edgeMoves() {
			can, _ := impl.CanByRule("TF.TF", m, ruleNamed(rule))
			line, ok := impl.PlayByRule("TF.TF", []impl.Move{m}, ruleNamed(rule))
			if ok != can || (line == "") == can {
				t.Errorf("PlayByRule %v %q: %q %v, but it can be made: %v", m, rule, line, ok, can)
			}
		}
		for _, m := range []impl.Move{{From: math.MinInt, To: math.MaxInt}, {From: math.MaxInt, To: math.MinInt}, {From: 0, To: math.MinInt}, {From: math.MaxInt, To: 1}} {
			if line, ok := impl.PlayByRule("T.F", []impl.Move{{From: 0, To: 1}, m}, ruleNamed(rule)); line != "" || ok {
				t.Errorf("PlayByRule with %v %q: %q %v", m, rule, line, ok)
			}
		}
	}
}

// TestBadRuleCounts takes numbers below 0, all 0, of more than 8 together, and the least and greatest ones, of which some wrap around to a sum in 1..8.
func TestBadRuleCounts(t *testing.T) {
	bad := append(badSwapNumbers(),
		numbers{7, 1, 1}, numbers{0, 9, 0}, numbers{3, 4, 2}, numbers{-1, 8, 1}, numbers{8, 8, -8}, numbers{-8, 8, 8},
		numbers{math.MaxInt, math.MaxInt, 9}, numbers{9, math.MaxInt, math.MaxInt}, numbers{math.MinInt, 5, math.MinInt}, numbers{math.MaxInt, math.MinInt, 5})
	for _, n := range bad {
		for _, rule := range ruleTexts() {
			for name, f := range map[string]func(int, int, int, impl.Rule) (int, bool){
				"FewestToExchange": impl.FewestToExchange, "CountStuck": impl.CountStuck, "PartsByRule": impl.PartsByRule,
			} {
				if told, ok := f(n.toads, n.gaps, n.frogs, ruleNamed(rule)); told != 0 || ok {
					t.Errorf("%s %v %q: %d %v", name, n, rule, told, ok)
				}
			}
		}
	}
}

func checkNoRuleText(t *testing.T, s string) {
	t.Helper()
	if rule, ok := impl.ParseRule(s); rule != (impl.Rule{}) || ok {
		t.Errorf("ParseRule %.40q: %v %v", s, rule, ok)
	}
}

// TestTextsThatAreNoRule takes all short texts of letters in any order, twice, or unknown, and some others.
func TestTextsThatAreNoRule(t *testing.T) {
	checkNoRuleText(t, "")
	for n := 1; n <= 4; n++ {
		for _, s := range textsOf("obl-x ", n) {
			if !slices.Contains(ruleTexts(), s) {
				checkNoRuleText(t, s)
			}
		}
	}
	for _, s := range []string{
		"O", "B", "L", "OBL", "Obl", "o,b", "obl\n", "\nobl", "obl\x00", "\x00", "\xff", "o\xff", "\u2212", "\u2013", "\u043e", "obl\u0301", "--", "own", "back", "long", "0", "o b l", "oblobl",
		strings.Repeat("o", 1000), strings.Repeat("obl", 1000), strings.Repeat("-", 1000), "obl" + strings.Repeat(" ", 1000),
	} {
		checkNoRuleText(t, s)
	}
}

// TestMovesByRuleAreNotChanged gives lists with moves behind their length, which must neither be read nor changed.
func TestMovesByRuleAreNotChanged(t *testing.T) {
	for _, moves := range [][]impl.Move{nil, movesNamed("1-2"), movesNamed("0-2 3-0 1-3 4-1 2-4"), movesNamed("1-2 9-9"), edgeMoves()[:100], edgeMoves()[:101]} {
		for _, w := range []string{"TT.FF", "T", "", "TT.FFTT.FFT", "x"} {
			for _, rule := range ruleTexts() {
				list := spareRoom(moves)
				line, ok := impl.PlayByRule(w, list, ruleNamed(rule))
				checkKept(t, "PlayByRule", list, moves)
				if want, made := impl.PlayByRule(w, slices.Clip(slices.Clone(moves)), ruleNamed(rule)); line != want || ok != made {
					t.Errorf("PlayByRule %q %v %q: %q %v with room, %q %v without", w, moves, rule, line, ok, want, made)
				}
			}
		}
	}
}

// TestResultsByRulesAreNew spoils results with the room behind them, and asks again.
func TestResultsByRulesAreNew(t *testing.T) {
	for _, rule := range ruleTexts() {
		r := ruleNamed(rule)
		for name, f := range map[string]func() ([]impl.Move, bool){
			"RuleMoves":     func() ([]impl.Move, bool) { return impl.RuleMoves("TT.FF", r) },
			"FirstShortest": func() ([]impl.Move, bool) { return impl.FirstShortest("TT.FF", "FF.TT", r) },
		} {
			moves, _ := f()
			kept := slices.Clone(moves)
			spoil(moves)
			if again, ok := f(); len(kept) == 0 || !sameMoves(again, kept) || !ok {
				t.Errorf("%s %q gives %v, then %v", name, rule, kept, again)
			}
		}
	}
}

// TestRuledLinesAreNotChanged gives lines that are parts of a longer text, of which nothing may be changed.
func TestRuledLinesAreNotChanged(t *testing.T) {
	text := strings.Repeat("TTFF.", 3)
	kept := strings.Clone(text)
	r := ruleNamed("obl")
	for from := range len(text) {
		for to := from; to <= min(from+11, len(text)); to++ {
			w := text[from:to]
			impl.RuleMoves(w, r)
			impl.CanByRule(w, impl.Move{From: 0, To: 1}, r)
			impl.MakeByRule(w, impl.Move{From: 0, To: 1}, r)
			impl.ShortestByRule(w, w, r)
			impl.FirstShortest(w, w, r)
			impl.CountReachedByRule(w, r)
			impl.ReachByRule(w, w, r)
			impl.FarthestByRule(w, r)
			impl.BothWays(w, r)
			impl.PlayByRule(w, movesNamed("0-1"), r)
			impl.ParseRule(w)
			if text != kept {
				t.Fatalf("a call with %q changed its text to %q", kept[from:to], text)
			}
		}
	}
}
