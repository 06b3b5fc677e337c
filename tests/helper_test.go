package tests

import (
	"math"
	"sort"
	"strings"
	"testing"

	"loop.example/g01271/impl"
)

// The helpers tell lines and moves again by rewriting texts, so that they share no idea with the program.

// textsOf returns all texts of so many of the signs, in the order of texts.
func textsOf(signs string, cells int) []string {
	texts := []string{""}
	for range cells {
		var longer []string
		for _, t := range texts {
			for _, s := range signs {
				longer = append(longer, t+string(s))
			}
		}
		texts = longer
	}
	sort.Strings(texts)
	return texts
}

// linesUpTo returns all lines of 1 up to so many cells.
func linesUpTo(cells int) []string {
	var lines []string
	for n := 1; n <= cells; n++ {
		lines = append(lines, textsOf(".FT", n)...)
	}
	return lines
}

// longLines returns some lines of MaxCells cells.
func longLines() []string {
	return []string{
		"TTTT....FFFF", "FFFF....TTTT", "TTTTTTTTTTTT", "FFFFFFFFFFFF", "............",
		"TTTTTT.FFFFF", "TFTFTF.TFTFT", "T..........F", ".TF.TF.TF.TF", "TF.TF.TF.TF.",
		"TTFF.TTFF.TT", "FT.FT.FT.FT.", "T.F.T.F.T.F.", "FFFFTTTT....", "....TTTTFFFF",
		"TFTFTFTFTFTF", "TTFFTTFFTTFF", ".TTTTTTTTTTT", "FFFFFFFFFFF.", "TTTTTTFFFFFF",
	}
}

type change struct {
	move   impl.Move
	behind string
}

// changesOf returns the moves of a line with the lines behind them, ordered by From, then by To.
func changesOf(w string) []change {
	var all []change
	rewrite := func(before, after string, fromLeft bool) {
		for i := 0; i+len(before) <= len(w); i++ {
			if w[i:i+len(before)] != before {
				continue
			}
			m := impl.Move{From: i, To: i + len(before) - 1}
			if !fromLeft {
				m = impl.Move{From: m.To, To: m.From}
			}
			all = append(all, change{m, w[:i] + after + w[i+len(before):]})
		}
	}
	rewrite("T.", ".T", true)
	rewrite("TF.", ".FT", true)
	rewrite(".F", "F.", false)
	rewrite(".TF", "FT.", false)
	sort.Slice(all, func(i, j int) bool {
		a, b := all[i].move, all[j].move
		return a.From < b.From || a.From == b.From && a.To < b.To
	})
	return all
}

// sameMoves reports whether two lists are equal, an empty one and nil being so.
func sameMoves(a, b []impl.Move) bool {
	if len(a) != len(b) {
		return false
	}
	for i := range a {
		if a[i] != b[i] {
			return false
		}
	}
	return true
}

func countsOf(w string) [3]int {
	return [3]int{strings.Count(w, "T"), strings.Count(w, "."), strings.Count(w, "F")}
}

// edgeNumbers returns numbers in and around a line, and the least and greatest ones.
func edgeNumbers() []int {
	numbers := []int{math.MinInt, math.MinInt + 1, math.MinInt + 2, math.MinInt32, -13, math.MaxInt32, math.MaxInt - 2, math.MaxInt - 1, math.MaxInt}
	for n := -3; n <= 14; n++ {
		numbers = append(numbers, n)
	}
	return numbers
}

// noLines returns texts that are no lines.
func noLines() []string {
	return []string{
		"", " ", "x", "t", "f", "tt.ff", "TT_FF", "TT FF", "T.F ", " T.F", "T.F\n", "T.F\x00", "\x00", "T,F", "T/F", "T-F", "0",
		"TT.FF.TT.FF.T", ".............", "TTTTTTTTTTTTT", "FFFFFFFFFFFFF", "T.\xff", "\xff", "T.\u0424", "\u0422.F", "T\u2024F", "T\u00b7F",
		"G.U", "E.S", "T..\u00e9", strings.Repeat("T.F", 1000), strings.Repeat(".", 256), strings.Repeat(".", 257), "TT.FFTT.FFT\u0422",
	}
}

// spareRoom returns a list with the same moves, and with others behind its length, that a call must leave alone.
func spareRoom(moves []impl.Move) []impl.Move {
	all := append([]impl.Move{}, moves...)
	for k := range 8 {
		all = append(all, impl.Move{From: -100 - k, To: 100 + k})
	}
	return all[:len(moves)]
}

// checkKept fails the test if a call changed a list made by spareRoom.
func checkKept(t *testing.T, name string, list, moves []impl.Move) {
	t.Helper()
	if want := spareRoom(moves); !sameMoves(list[:len(moves)+8], want[:len(moves)+8]) {
		t.Errorf("%s changed its moves %v", name, moves)
	}
}
