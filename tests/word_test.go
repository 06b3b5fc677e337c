package tests

import (
	"maps"
	"slices"
	"strings"
	"testing"

	"loop.example/g01271/impl"
)

// Promise 7: chapter 7 on valid arguments.

func TestLimitsOfWords(t *testing.T) {
	if impl.MaxWord != 40 || impl.MaxWords != 300 {
		t.Error("MaxWord and MaxWords", impl.MaxWord, impl.MaxWords)
	}
}

func TestTextsThatAreWords(t *testing.T) {
	words := longWords()
	for signs := 0; signs <= 9; signs++ {
		words = append(words, textsOf("FT", signs)...)
	}
	for _, s := range words {
		if !impl.IsWord(s) || len(s) > 40 {
			t.Errorf("no word %q of %d signs", s, len(s))
		}
	}
	for _, s := range longWords() {
		if len(s) != impl.MaxWord || !impl.IsWord(s[1:]) {
			t.Errorf("%q has %d signs", s, len(s))
		}
	}
}

// checkWordPlayed checks what is told of a word that can be played, and that its moves tell the word again.
func checkWordPlayed(t *testing.T, w string, p toldWord) {
	t.Helper()
	moves, ok := impl.MovesOfWord(w, p.word)
	if !sameMoves(moves, p.moves) || !ok {
		t.Errorf("MovesOfWord %q %q: %v %v, want %v", w, p.word, moves, ok, p.moves)
	}
	if line, ok := impl.PlayWord(w, p.word); line != p.behind || !ok {
		t.Errorf("PlayWord %q %q: %q %v, want %q", w, p.word, line, ok, p.behind)
	}
	if kinds, ok := impl.KindsOfWord(w, p.word); kinds != p.kinds || !ok {
		t.Errorf("KindsOfWord %q %q: %q %v, want %q", w, p.word, kinds, ok, p.kinds)
	}
	if can, ok := impl.CanPlay(w, p.word); !can || !ok {
		t.Errorf("CanPlay %q %q: %v %v", w, p.word, can, ok)
	}
	if k, ok := impl.SignThatFails(w, p.word); k != 0 || ok {
		t.Errorf("SignThatFails %q %q: %d %v", w, p.word, k, ok)
	}
	if word, ok := impl.WordOfMoves(w, p.moves); word != p.word || !ok {
		t.Errorf("WordOfMoves %q %v: %q %v, want %q", w, p.moves, word, ok, p.word)
	}
}

// checkSignFails checks what is told of a word of which the sign with an index is the first one that cannot be played.
func checkSignFails(t *testing.T, w, word string, fails int) {
	t.Helper()
	if k, ok := impl.SignThatFails(w, word); k != fails || !ok {
		t.Errorf("SignThatFails %q %q: %d %v, want %d", w, word, k, ok, fails)
	}
	if can, ok := impl.CanPlay(w, word); can || !ok {
		t.Errorf("CanPlay %q %q: %v %v", w, word, can, ok)
	}
	checkWordNotPlayed(t, w, word)
}

// checkWordNotPlayed checks that no moves, line and kinds are told.
func checkWordNotPlayed(t *testing.T, w, word string) {
	t.Helper()
	if moves, ok := impl.MovesOfWord(w, word); len(moves) != 0 || ok {
		t.Errorf("MovesOfWord %q %q: %v %v", w, word, moves, ok)
	}
	if line, ok := impl.PlayWord(w, word); line != "" || ok {
		t.Errorf("PlayWord %q %q: %q %v", w, word, line, ok)
	}
	if kinds, ok := impl.KindsOfWord(w, word); kinds != "" || ok {
		t.Errorf("KindsOfWord %q %q: %q %v", w, word, kinds, ok)
	}
}

func TestWordsThatArePlayed(t *testing.T) {
	for _, w := range append(oneGapLinesUpTo(9), tenCellsOneGap()...) {
		for _, level := range wordsByLength(w) {
			for _, p := range level {
				checkWordPlayed(t, w, p)
			}
		}
	}
}

// TestWordsThatAreNotPlayed puts a sign that cannot be played behind each word that can be, alone and with others behind it.
func TestWordsThatAreNotPlayed(t *testing.T) {
	for _, w := range append(oneGapLinesUpTo(6), tenCellsOneGap()...) {
		byLength := wordsByLength(w)
		for length, level := range byLength {
			longer := map[string]bool{}
			if length+1 < len(byLength) {
				for _, p := range byLength[length+1] {
					longer[p.word] = true
				}
			}
			for _, p := range level {
				for _, word := range []string{p.word + "F", p.word + "T"} {
					if !longer[word] {
						checkSignFails(t, w, word, length)
						checkSignFails(t, w, word+strings.Repeat("FTT", 20)[:impl.MaxWord-len(word)], length)
					}
				}
			}
		}
	}
}

func TestNamedWordsThatArePlayed(t *testing.T) {
	for _, c := range []struct{ line, word, moves, kinds, behind string }{
		{"T.F", "TFT", "0-1 2-0 1-2", "sjs", "F.T"},
		{"T.F", "FTF", "2-1 0-2 1-0", "sjs", "F.T"},
		{"T.F", "T", "0-1", "s", ".TF"},
		{"TF.", "TF", "0-2 1-0", "js", "F.T"},
		{".TF", "FT", "2-0 1-2", "js", "F.T"},
		{"TT.FF", "FTTFFTTF", "3-2 1-3 0-1 2-0 4-2 3-4 1-3 2-1", "sjsjjsjs", "FF.TT"},
		{"TT.FF", "FF", "3-2 4-3", "ss", "TTFF."},
		{"TF.TF", "TF", "0-2 1-0", "js", "F.TTF"},
		// The empty word, on blocked lines too, is played without a move.
		{"T.F", "", "", "", "T.F"},
		{".", "", "", "", "."},
		{"F.T", "", "", "", "F.T"},
		{".TTF", "", "", "", ".TTF"},
		{"FFFFF.TTTT", "", "", "", "FFFFF.TTTT"},
		// One kind and the gap.
		{"T.", "T", "0-1", "s", ".T"},
		{".F", "F", "1-0", "s", "F."},
		{"TT.", "TT", "1-2 0-1", "ss", ".TT"},
		{".FF", "FF", "1-0 2-1", "ss", "FF."},
		{"T.T", "T", "0-1", "s", ".TT"},
		// MaxReach cells.
		{"TTTTTTTTT.", "TTTTTTTTT", "8-9 7-8 6-7 5-6 4-5 3-4 2-3 1-2 0-1", "sssssssss", ".TTTTTTTTT"},
		{".FFFFFFFFF", "FFFFFFFFF", "1-0 2-1 3-2 4-3 5-4 6-5 7-6 8-7 9-8", "sssssssss", "FFFFFFFFF."},
		{"TTTTT.FFFF", "TFFTTT", "4-5 6-4 7-6 5-7 3-5 2-3", "sjsjjs", "TT.TFTFTFF"},
		{".TFTFTFTFT", "FFFF", "2-0 4-2 6-4 8-6", "jjjj", "FTFTFTFT.T"},
	} {
		checkWordPlayed(t, c.line, toldWord{c.word, movesNamed(c.moves), c.kinds, c.behind})
	}
}

func TestNamedWordsThatAreNotPlayed(t *testing.T) {
	for _, c := range []struct {
		line, word string
		fails      int
	}{
		{"T.F", "TT", 1}, {"T.F", "FF", 1}, {"T.F", "TFTF", 3}, {"T.F", "TFTT", 3}, {"T.F", "TFF", 2},
		// From the first sign on.
		{".", "T", 0}, {".", "F", 0}, {"F.T", "T", 0}, {"F.T", "FT", 0}, {".TTF", "F", 0}, {".TTF", "TF", 0}, {"TFF.", "TT", 0}, {"T.", "F", 0}, {".F", "TF", 0}, {".T", "T", 0}, {"F.", "F", 0}, {"TF.", "F", 0},
		// One kind and the gap.
		{"T.", "TT", 1}, {"TT.", "TTT", 2}, {"TT.", "TF", 1}, {".FF", "FFF", 2}, {".FF", "FT", 1}, {"T.T", "TT", 1},
		// From a later sign on.
		{"TT.FF", "FTTFFTTFF", 8}, {"TT.FF", "FTTFFTTT", 7}, {"TT.FF", "TTT", 2}, {"TT.FF", "FFF", 2}, {"TF.TF", "TFT", 2}, {"TF.F", "TFTF", 2},
		// MaxReach cells.
		{"TTTTTTTTT.", "TTTTTTTTTT", 9}, {".FFFFFFFFF", "FFFFFFFFFT", 9}, {"FFFFF.TTTT", "F", 0}, {"TTTTT.FFFF", "TTTTTT", 5}, {".TTTTTTTTT", "T", 0},
		// Words of MaxWord signs.
		{"T.F", strings.Repeat("T", 40), 1}, {"T.F", strings.Repeat("TFT", 13) + "F", 3}, {".", strings.Repeat("F", 40), 0}, {"TTTTTTTTT.", strings.Repeat("T", 40), 9},
		{"TTTT.FFFFF", "FTTFFFTTTTFFFFFTTTTFFFFTTTFFT" + strings.Repeat("F", 11), 29}, {"TTTT.FFFFF", "FTTFFFTTTTFFFFFTTTTFFFFTTTFTT" + strings.Repeat("F", 11), 27},
	} {
		checkSignFails(t, c.line, c.word, c.fails)
	}
}

// TestNothingIsPlayedBehindTheLongestWords asks for words of MaxWord signs, none of which any line with one gap plays.
func TestNothingIsPlayedBehindTheLongestWords(t *testing.T) {
	for _, w := range tenCellsOneGap() {
		byLength := wordsByLength(w)
		longest := byLength[len(byLength)-1]
		for _, p := range longest {
			checkWordPlayed(t, w, p)
			for _, rest := range longWords() {
				checkSignFails(t, w, (p.word + rest)[:impl.MaxWord], len(p.word))
			}
		}
	}
}

// TestWordsArePlayedAsTheirMoves checks the words of promise 7 on what the calls tell alone.
func TestWordsArePlayedAsTheirMoves(t *testing.T) {
	for _, w := range append(oneGapLinesUpTo(6), tenCellsOneGap()...) {
		longest, _ := impl.LongestPlay(w)
		for signs := 0; signs <= longest; signs++ {
			words, _ := impl.AllWordsOf(w, signs)
			for _, s := range words {
				checkSamePlay(t, w, s)
			}
		}
	}
}

// checkSamePlay checks a word against its moves, these against chapter 1, and the OtherWord on the OtherLine.
func checkSamePlay(t *testing.T, w, s string) {
	t.Helper()
	moves, _ := impl.MovesOfWord(w, s)
	if word, ok := impl.WordOfMoves(w, moves); word != s || !ok {
		t.Errorf("%q: %q has the moves %v, which have %q", w, s, moves, word)
	}
	behind, played := impl.PlayWord(w, s)
	if line, ok := impl.PlayMoves(w, moves); line != behind || !ok || !played {
		t.Errorf("%q: behind %q is %q %v, behind its moves %q %v", w, s, behind, played, line, ok)
	}
	kinds, _ := impl.KindsOfWord(w, s)
	if len(kinds) != len(s) || len(moves) != len(s) {
		t.Fatalf("%q: %q has %d kinds and %d moves", w, s, len(kinds), len(moves))
	}
	line := w
	for k, m := range moves {
		if jump, ok := impl.IsJump(line, m); jump != (kinds[k] == 'j') || jump == (kinds[k] == 's') || !ok {
			t.Errorf("%q: of %q %v on %q is told as %q", w, s, m, line, kinds[k:k+1])
		}
		line, _ = impl.MakeMove(line, m)
	}
	otherLine, _ := impl.OtherLine(w)
	otherWord, _ := impl.OtherWord(s)
	otherBehind, _ := impl.OtherLine(behind)
	if line, ok := impl.PlayWord(otherLine, otherWord); line != otherBehind || !ok {
		t.Errorf("PlayWord %q %q: %q %v, want %q", otherLine, otherWord, line, ok, otherBehind)
	}
	if told, ok := impl.KindsOfWord(otherLine, otherWord); told != kinds || !ok {
		t.Errorf("KindsOfWord %q %q: %q %v, want %q", otherLine, otherWord, told, ok, kinds)
	}
}

// wordOfMovesOn tells the word of moves that can be made, out of the lines on the way, or false if one cannot be.
func wordOfMovesOn(w string, moves []impl.Move) (string, bool) {
	p := toldWord{behind: w}
	for _, m := range moves {
		all := changesOf(p.behind)
		k := slices.IndexFunc(all, func(c change) bool { return c.move == m })
		if k < 0 {
			return "", false
		}
		p = p.longer(all[k])
	}
	return p.word, true
}

func checkWordOfMoves(t *testing.T, w string, moves []impl.Move, want string, made bool) {
	t.Helper()
	if word, ok := impl.WordOfMoves(w, moves); word != want || ok != made {
		t.Errorf("WordOfMoves %q %v: %q %v, want %q %v", w, moves, word, ok, want, made)
	}
}

// TestWordsOfMovesOnAnyLines takes all plays on short lines with any number of gaps, and each move behind them, whether it can be made or not.
func TestWordsOfMovesOnAnyLines(t *testing.T) {
	var moves []impl.Move
	for from := -1; from <= 4; from++ {
		for to := -1; to <= 4; to++ {
			moves = append(moves, impl.Move{From: from, To: to})
		}
	}
	for _, w := range linesUpTo(4) {
		for _, level := range wordsByLength(w) {
			for _, p := range level {
				checkWordOfMoves(t, w, p.moves, p.word, true)
				for _, m := range moves {
					list := append(slices.Clone(p.moves), m)
					word, made := wordOfMovesOn(w, list)
					checkWordOfMoves(t, w, list, word, made)
				}
			}
		}
	}
}

// TestWordsOfMovesThatStop takes plays of which one move is left out, made twice, or turned back.
func TestWordsOfMovesThatStop(t *testing.T) {
	for _, w := range []string{"T.F", "TT.FF", "TTT.FF", "T..F", "TT..FF", "TTTTT.FFFF", "TTTT....FFFF", ".TF.TF.TF.TF"} {
		all := lastFirstPlay(w)
		for k := range all {
			without := slices.Delete(slices.Clone(all), k, k+1)
			twice := slices.Insert(slices.Clone(all), k, all[k])
			back := slices.Clone(all)
			back[k] = impl.Move{From: all[k].To, To: all[k].From}
			for _, moves := range [][]impl.Move{without, twice, back} {
				moves = moves[:min(len(moves), impl.MaxWord)]
				word, made := wordOfMovesOn(w, moves)
				checkWordOfMoves(t, w, moves, word, made)
			}
		}
	}
}

// lastFirstPlay makes the first and the last move in turn until there is none.
func lastFirstPlay(w string) []impl.Move {
	var made []impl.Move
	for all := changesOf(w); len(all) > 0; all = changesOf(w) {
		c := all[len(made)%2*(len(all)-1)]
		made = append(made, c.move)
		w = c.behind
	}
	return made
}

func TestNamedWordsOfMoves(t *testing.T) {
	for _, c := range []struct {
		line, moves, word string
		made              bool
	}{
		{"T.F", "0-1 2-0 1-2", "TFT", true},
		{"TT.FF", "1-2 3-1", "TF", true},
		// No moves, on lines with no gap too.
		{"T.F", "", "", true}, {".", "", "", true}, {"TF", "", "", true}, {"T", "", "", true}, {"TTFF", "", "", true}, {"TTTTTTFFFFFF", "", "", true}, {"............", "", "", true}, {"F.T", "", "", true},
		// Several gaps.
		{"T..F", "0-1 1-2 3-1 2-3 1-0", "TTFTF", true}, {"T..F", "0-1 3-2 1-3 2-1 1-0", "TFTFF", true}, {"..F", "2-1 1-0", "FF", true}, {"TT..", "1-2 2-3 0-1 1-2", "TTTT", true}, {"T.F.", "0-1 1-3 2-1", "TTF", true},
		// More than MaxReach cells, with one gap and with more.
		{"TTTTT.FFFFF", "4-5 6-4 7-6", "TFF", true}, {"TTTTTTTTTTT.", "", "", true}, {"T..........F", "0-1 1-2 2-3", "TTT", true}, {"TF.TF.TF.TF.", "0-2 4-2 3-5 2-3", "", false},
		// One of the moves cannot be made.
		{"TF", "0-1", "", false}, {"TTFF", "1-2", "", false}, {"T.F", "0-2", "", false}, {"T.F", "1-0", "", false}, {"T.F", "0-0", "", false}, {"T.F", "2-1 0-1", "", false}, {"T.F", "0-1 2-0 1-2 2-1", "", false},
		{"T.F", "0-1 0-1", "", false}, {"T.F", "0-1 2-0 2-0", "", false}, {"T..F", "0-2", "", false}, {"T..F", "1-2 0-1", "", false}, {".", "0-0", "", false}, {"F.T", "0-1", "", false},
	} {
		checkWordOfMoves(t, c.line, movesNamed(c.moves), c.word, c.made)
	}
}

// TestWordsOfMaxWordMoves takes plays of more than MaxWord moves that can all be made: their words are told up to MaxWord moves.
func TestWordsOfMaxWordMoves(t *testing.T) {
	for w, length := range map[string]int{"TTTT....FFFF": 48, "TTT......FFF": 45} {
		moves, _ := tryPlay(w, lastOf(w), map[string]bool{})
		if len(moves) != length {
			t.Fatalf("%q is exchanged by %d moves, want %d", w, len(moves), length)
		}
		for n := range length + 1 {
			word, made := wordOfMovesOn(w, moves[:n])
			if n > impl.MaxWord {
				word, made = "", false
			}
			checkWordOfMoves(t, w, moves[:n], word, made)
		}
	}
}

// checkWords checks what is told of all words of a line.
func checkWords(t *testing.T, w string, byLength [][]toldWord) {
	t.Helper()
	for signs := range impl.MaxWord + 1 {
		var want []string
		if signs < len(byLength) {
			want = wordsOf(byLength[signs])
		}
		// More numbers of signs than the next one behind the longest words, and the greatest one, tell nothing new.
		if signs <= len(byLength) || signs == impl.MaxWord {
			checkAllWords(t, w, signs, want)
		}
	}
	longest := byLength[len(byLength)-1]
	if s, ok := impl.LongestWord(w); s != longest[0].word || !ok {
		t.Errorf("LongestWord %q: %q %v, want %q", w, s, ok, longest[0].word)
	}
}

func checkAllWords(t *testing.T, w string, signs int, want []string) {
	t.Helper()
	if words, ok := impl.AllWordsOf(w, signs); !sameTexts(words, want) || !ok {
		t.Errorf("AllWordsOf %q %d: %q %v, want %q", w, signs, words, ok, want)
	}
	if n, ok := impl.CountWordsOf(w, signs); n != len(want) || !ok {
		t.Errorf("CountWordsOf %q %d: %d %v, want %d", w, signs, n, ok, len(want))
	}
}

func TestAllWordsOfLines(t *testing.T) {
	for _, w := range append(oneGapLinesUpTo(9), tenCellsOneGap()...) {
		checkWords(t, w, wordsByLength(w))
	}
}

// TestNoLineHasMoreWordsThanMaxWords goes through all lines with one gap: there are at most 62 words of as many signs, so that the limit of MaxWords is met nowhere, and at most 29 signs.
func TestNoLineHasMoreWordsThanMaxWords(t *testing.T) {
	most, longest := 0, 0
	for cells := 1; cells <= impl.MaxReach; cells++ {
		for _, w := range oneGapLines(cells) {
			length, _ := impl.LongestPlay(w)
			for signs := range length + 1 {
				n, ok := impl.CountWordsOf(w, signs)
				if n < 1 || n > impl.MaxWords || !ok {
					t.Errorf("CountWordsOf %q %d: %d %v", w, signs, n, ok)
				}
				most = max(most, n)
			}
			longest = max(longest, length)
		}
	}
	if most != 62 || longest != 29 {
		t.Errorf("at most %d words, and %d signs", most, longest)
	}
}

func TestNamedNumbersOfWords(t *testing.T) {
	for _, c := range []struct {
		line   string
		counts []int
	}{
		{"T.F", []int{1, 2, 2, 2}},
		{"TT.FF", []int{1, 2, 4, 4, 6, 8, 2, 2, 2}},
		{"TT.F", []int{1, 2, 3, 3, 3, 3}},
		{"TF.F", []int{1, 2, 1, 1, 1}},
		{"TF.TF", []int{1, 2, 2}},
		// The empty word alone: the gap alone, and blocked lines.
		{".", []int{1}}, {".T", []int{1}}, {"F.", []int{1}}, {"F.T", []int{1}}, {".TTF", []int{1}}, {"TFF.", []int{1}}, {"FFFFF.TTTT", []int{1}}, {".TTTTTTTTT", []int{1}},
		// One kind and the gap.
		{"T.", []int{1, 1}}, {"T.T", []int{1, 1}}, {"TTTTTTTTT.", []int{1, 1, 1, 1, 1, 1, 1, 1, 1, 1}}, {".FFFFFFFFF", []int{1, 1, 1, 1, 1, 1, 1, 1, 1, 1}},
		// MaxReach cells: no line has more words of as many signs than 62, nor longer ones than of 29 signs.
		{"T.FFFFFFFF", []int{1, 2, 3, 4, 5, 7, 9, 12, 15, 19, 23, 29, 34, 42, 47, 55, 55, 55}},
		{"TTTTTTT.FF", []int{1, 2, 4, 5, 8, 12, 12, 17, 22, 26, 33, 42, 47, 56, 62, 62, 31, 20, 11, 7, 6, 2, 2, 2}},
		{"TTTTT.FFFF", []int{1, 2, 4, 6, 10, 15, 19, 26, 32, 36, 34, 38, 24, 20, 22, 16, 18, 17, 14, 15, 12, 10, 9, 9, 7, 4, 4, 2, 2, 2}},
	} {
		for signs := range impl.MaxWord + 1 {
			want := 0
			if signs < len(c.counts) {
				want = c.counts[signs]
			}
			if n, ok := impl.CountWordsOf(c.line, signs); n != want || !ok {
				t.Errorf("CountWordsOf %q %d: %d %v, want %d", c.line, signs, n, ok, want)
			}
			if words, ok := impl.AllWordsOf(c.line, signs); len(words) != want || !ok {
				t.Errorf("AllWordsOf %q %d: %d %v, want %d", c.line, signs, len(words), ok, want)
			}
		}
	}
}

func TestNamedListsOfWords(t *testing.T) {
	for _, c := range []struct {
		line  string
		signs int
		words string
	}{
		{"T.F", 1, "F T"}, {"T.F", 2, "FT TF"}, {"T.F", 3, "FTF TFT"}, {"T.F", 4, ""}, {"TT.F", 5, "FTFTF FTTFT TFTTF"}, {"TT.FF", 2, "FF FT TF TT"}, {"TT.FF", 3, "FTF FTT TFF TFT"}, {"TT.FF", 8, "FTTFFTTF TFFTTFFT"},
		{"TF.TF", 2, "FT TF"}, {"TF.F", 4, "TFFT"}, {".TF", 2, "FT"}, {"TF.", 2, "TF"}, {"TTTTTTTTT.", 9, "TTTTTTTTT"}, {"TTTTTTTTT.", 10, ""}, {"TTTTTTTTT.", 40, ""},
		{"TTTTTTT.FF", 23, "FTTFFTTTTFFTTTTFFTTTFFT TFFTTTFFTTTTFFTTTTFFTTF"},
	} {
		checkAllWords(t, c.line, c.signs, strings.Fields(c.words))
	}
	for _, w := range []string{"T.F", ".", "F.T", "TTTTT.FFFF"} {
		checkAllWords(t, w, 0, []string{""})
		checkAllWords(t, w, impl.MaxWord, nil)
	}
}

func TestNamedLongestWords(t *testing.T) {
	for _, c := range []struct{ line, word string }{
		// Of several longest ones the first one.
		{"T.F", "FTF"}, {"TT.FF", "FTTFFTTF"}, {"TT.F", "FTFTF"}, {"TF.TF", "FT"}, {"FTF.TF", "FT"}, {"T.FFFFFFFF", "FTFFFTFFFTFFFTFFT"}, {"TTTTT.FFFF", "FTTFFFTTTTFFFFTTTTTFFFFTTTFFT"}, {"TTTTTTT.FF", "FTTFFTTTTFFTTTTFFTTTFFT"},
		// One alone.
		{"TF.F", "TFFT"}, {"T.", "T"}, {".F", "F"}, {"T.T", "T"}, {"TTTTTTTTT.", "TTTTTTTTT"}, {".FFFFFFFFF", "FFFFFFFFF"}, {"TF.", "TF"}, {".TF", "FT"},
		{".", ""}, {"F.T", ""}, {".TTF", ""}, {"FFFFF.TTTT", ""},
	} {
		if s, ok := impl.LongestWord(c.line); s != c.word || !ok {
			t.Errorf("LongestWord %q: %q %v, want %q", c.line, s, ok, c.word)
		}
	}
}

// checkWordBetween checks the first word between two lines, or that there is none.
func checkWordBetween(t *testing.T, w, v, want string, found bool) {
	t.Helper()
	if s, ok := impl.WordBetween(w, v); s != want || ok != found {
		t.Errorf("WordBetween %q %q: %q %v, want %q %v", w, v, s, ok, want, found)
	}
}

// TestWordsBetweenAllShortLines takes all pairs of lines with one gap, also of other numbers of cells.
func TestWordsBetweenAllShortLines(t *testing.T) {
	lines := oneGapLinesUpTo(5)
	for _, w := range lines {
		first := firstWords(wordsByLength(w))
		for _, v := range lines {
			word, found := first[v]
			checkWordBetween(t, w, v, word, found)
		}
	}
}

// TestWordsBetweenLongerLines takes all lines that are reached, and the same from the other side, which are not but for lines without a move between them.
func TestWordsBetweenLongerLines(t *testing.T) {
	lines := append(oneGapLines(6), "TTT.FFF", "TTF.TFF", "TTTT.FFFF", "TTTTT.FFFF", "TTTTTTT.FF", "TT.FFFFFFF", "TTFF.TTFFT", "TFTF.TFTFT", "TTTTTTTTT.", "FFFFF.TTTT")
	for _, w := range lines {
		for v, word := range firstWords(wordsByLength(w)) {
			checkWordBetween(t, w, v, word, true)
			if v != w {
				checkWordBetween(t, v, w, "", false)
			}
		}
	}
}

func TestNamedWordsBetween(t *testing.T) {
	for _, c := range []struct {
		w, v, word string
		found      bool
	}{
		{"T.F", "F.T", "FTF", true}, {"T.F", ".FT", "FT", true}, {"T.F", "FT.", "TF", true}, {"TF.", "F.T", "TF", true}, {"TT.FF", "FF.TT", "FTTFFTTF", true}, {"TT.FF", "TTFF.", "FF", true}, {"TT.F", "F.TT", "FTFTF", true},
		{"TTTTTTTTT.", ".TTTTTTTTT", "TTTTTTTTT", true}, {"TTTTTTTTT.", "TTTTT.TTTT", "TTTT", true}, {"TTTT.FFFFF", "FFFFF.TTTT", "FTTFFFTTTTFFFFFTTTTFFFFTTTFFT", true},
		// The same line: no sign.
		{"T.F", "T.F", "", true}, {".", ".", "", true}, {"F.T", "F.T", "", true}, {".TTF", ".TTF", "", true}, {"TTTTT.FFFF", "TTTTT.FFFF", "", true},
		// No word leads back, out of a blocked line, or to a line that is not reached.
		{"F.T", "T.F", "", false}, {".TF", "T.F", "", false}, {".TTF", "F.TT", "", false}, {"TF.TF", "FF.TT", "", false}, {"FT.", "TF.", "", false}, {"T.F", "TF.T", "", false}, {".TTTTTTTTT", "TTTTTTTTT.", "", false},
		// Other numbers of toads, gaps and frogs.
		{"T.F", "T.T", "", false}, {"T.F", ".", "", false}, {".", "T.", "", false}, {"T.", ".F", "", false}, {"TT.FF", "TT.F", "", false}, {"TT.F", "F.TTT", "", false}, {"TTTTT.FFFF", "FFFFF.TTTT", "", false},
	} {
		checkWordBetween(t, c.w, c.v, c.word, c.found)
	}
}

// TestFirstWordsAreTheFirstOnesThatAreTold checks the words of promise 7 on what the calls tell alone: words are in order, and of those that lead to a line the first one is the word between.
func TestFirstWordsAreTheFirstOnesThatAreTold(t *testing.T) {
	for _, w := range append(oneGapLinesUpTo(6), tenCellsOneGap()...) {
		longest, _ := impl.LongestPlay(w)
		first := map[string]string{}
		var words []string
		for signs := range longest + 1 {
			words, _ = impl.AllWordsOf(w, signs)
			checkOrder(t, "AllWordsOf", w, words)
			for _, s := range words {
				v, _ := impl.PlayWord(w, s)
				if _, known := first[v]; !known {
					first[v] = s
				}
				if len(s) != signs {
					t.Errorf("AllWordsOf %q %d has %q", w, signs, s)
				}
			}
		}
		if s, ok := impl.LongestWord(w); s != words[0] || !ok {
			t.Errorf("LongestWord %q: %q %v, want %q", w, s, ok, words[0])
		}
		reached, _ := impl.ReachedFrom(w)
		if told := slices.Sorted(maps.Keys(first)); !sameTexts(told, reached) {
			t.Errorf("words of %q lead to %q, want %q", w, told, reached)
		}
		for v, s := range first {
			checkWordBetween(t, w, v, s, true)
		}
	}
}

func TestExchangeWordsOfAllNumbers(t *testing.T) {
	for toads := 1; toads <= 8; toads++ {
		for frogs := 1; toads+frogs <= 9; frogs++ {
			n := numbers{toads, 1, frogs}
			want := firstWords(wordsByLength(n.first()))[n.last()]
			checkExchangeWord(t, toads, frogs, want)
		}
	}
}

// checkExchangeWord checks the word, how many signs are told, and that it exchanges all.
func checkExchangeWord(t *testing.T, toads, frogs int, want string) {
	t.Helper()
	s, ok := impl.ExchangeWord(toads, frogs)
	if s != want || !ok {
		t.Errorf("ExchangeWord %d %d: %q %v, want %q", toads, frogs, s, ok, want)
	}
	if n, ok := impl.ExchangeMoves(toads, frogs); n != len(want) || !ok {
		t.Errorf("ExchangeMoves %d %d: %d %v, want %d", toads, frogs, n, ok, len(want))
	}
	n := numbers{toads, 1, frogs}
	if line, ok := impl.PlayWord(n.first(), s); line != n.last() || !ok {
		t.Errorf("PlayWord %q %q: %q %v, want %q", n.first(), s, line, ok, n.last())
	}
	if kinds, ok := impl.KindsOfWord(n.first(), s); strings.Count(kinds, "j") != toads*frogs || !ok {
		t.Errorf("KindsOfWord %q %q: %q %v, want %d jumps", n.first(), s, kinds, ok, toads*frogs)
	}
	// On the other side there are as many toads as frogs here.
	other, _ := impl.OtherWord(s)
	if line, ok := impl.PlayWord(otherOf(n.first()), other); line != otherOf(n.last()) || !ok {
		t.Errorf("PlayWord %q %q: %q %v, want %q", otherOf(n.first()), other, line, ok, otherOf(n.last()))
	}
}

func TestNamedExchangeWords(t *testing.T) {
	for _, c := range []struct {
		toads, frogs int
		word         string
	}{
		{1, 1, "FTF"}, {1, 2, "FTFFT"}, {2, 1, "FTFTF"}, {2, 2, "FTTFFTTF"}, {3, 3, "FTTFFFTTTFFFTTF"},
		// 9 together.
		{1, 8, "FTFFFTFFFTFFFTFFT"}, {8, 1, "FTFTFTFTFTFTFTFTF"}, {2, 7, "FTTFFFTTFFFFTTFFFFTTFFT"}, {4, 5, "FTTFFFTTTTFFFFFTTTTFFFFTTTFFT"}, {5, 4, "FTTFFFTTTTFFFFTTTTTFFFFTTTFFT"},
	} {
		checkExchangeWord(t, c.toads, c.frogs, c.word)
	}
}

// checkRuns checks the runs of a word, that they tell it again, and, beginning with the other sign, the OtherWord.
func checkRuns(t *testing.T, s string, want []int) {
	t.Helper()
	runs, ok := impl.RunsOfWord(s)
	if !slices.Equal(runs, want) || !ok {
		t.Errorf("RunsOfWord %q: %v %v, want %v", s, runs, ok, want)
	}
	// No runs are the empty word, whichever sign it begins with.
	toad := strings.HasPrefix(s, "T")
	if word, ok := impl.WordOfRuns(want, toad); word != s || !ok {
		t.Errorf("WordOfRuns %v %v: %q %v, want %q", want, toad, word, ok, s)
	}
	other := otherWordOf(s)
	if word, ok := impl.WordOfRuns(want, !toad); word != other || !ok {
		t.Errorf("WordOfRuns %v %v: %q %v, want %q", want, !toad, word, ok, other)
	}
	if word, ok := impl.OtherWord(s); word != other || !ok {
		t.Errorf("OtherWord %q: %q %v, want %q", s, word, ok, other)
	}
	if runs, ok := impl.RunsOfWord(other); !slices.Equal(runs, want) || !ok {
		t.Errorf("RunsOfWord %q: %v %v, want %v", other, runs, ok, want)
	}
}

func TestRunsOfAllShortWordsAndSomeLongOnes(t *testing.T) {
	words := longWords()
	for signs := 0; signs <= 9; signs++ {
		words = append(words, textsOf("FT", signs)...)
	}
	for _, s := range words {
		checkRuns(t, s, runsTold(s))
	}
}

func TestNamedRuns(t *testing.T) {
	for _, c := range []struct {
		word string
		runs []int
	}{
		{"FTTFFTTF", []int{1, 2, 2, 2, 1}}, {"FTF", []int{1, 1, 1}}, {"TTTFF", []int{3, 2}}, {"TFFFFT", []int{1, 4, 1}},
		// No runs, one run, and runs of 1.
		{"", nil}, {"T", []int{1}}, {"F", []int{1}}, {"TTTT", []int{4}}, {"FFFFFFF", []int{7}}, {"TFTF", []int{1, 1, 1, 1}}, {"FT", []int{1, 1}},
		// MaxWord together.
		{strings.Repeat("T", 40), []int{40}}, {strings.Repeat("F", 40), []int{40}}, {strings.Repeat("TF", 20), slices.Repeat([]int{1}, 40)}, {strings.Repeat("FFT", 13) + "T", append(slices.Repeat([]int{2, 1}, 12), 2, 2)},
		{strings.Repeat("T", 39) + "F", []int{39, 1}}, {"F" + strings.Repeat("T", 39), []int{1, 39}}, {strings.Repeat("T", 20) + strings.Repeat("F", 20), []int{20, 20}},
	} {
		checkRuns(t, c.word, c.runs)
	}
}

func TestNamedOtherWords(t *testing.T) {
	for _, c := range []struct{ word, other string }{
		{"", ""}, {"T", "F"}, {"F", "T"}, {"TFT", "FTF"}, {"FTTFFTTF", "TFFTTFFT"}, {"TTTF", "FFFT"}, {strings.Repeat("T", 40), strings.Repeat("F", 40)}, {strings.Repeat("TTF", 13) + "T", strings.Repeat("FFT", 13) + "F"},
	} {
		for s, want := range map[string]string{c.word: c.other, c.other: c.word} {
			if other, ok := impl.OtherWord(s); other != want || !ok {
				t.Errorf("OtherWord %q: %q %v, want %q", s, other, ok, want)
			}
		}
	}
}

// TestWordsAreToldAgainAlike asks the same again and again: what is told must not depend on who is faster, the one who sends signs or the one who plays them.
func TestWordsAreToldAgainAlike(t *testing.T) {
	for range 300 {
		checkSignFails(t, "T.F", strings.Repeat("T", 40), 1)
		checkSignFails(t, ".", strings.Repeat("F", 40), 0)
		checkWordPlayed(t, "T.F", toldWord{"FTF", movesNamed("2-1 0-2 1-0"), "sjs", "F.T"})
		checkAllWords(t, "TT.F", 5, []string{"FTFTF", "FTTFT", "TFTTF"})
	}
}

func TestExampleOfWords(t *testing.T) {
	checkExchangeWord(t, 2, 2, "FTTFFTTF")
	checkRuns(t, "FTTFFTTF", []int{1, 2, 2, 2, 1})
	if kinds, ok := impl.KindsOfWord("TT.FF", "FTTFFTTF"); kinds != "sjsjjsjs" || !ok {
		t.Errorf("KindsOfWord: %q %v", kinds, ok)
	}
	checkAllWords(t, "T.F", 3, []string{"FTF", "TFT"})
	for signs := 4; signs <= impl.MaxWord; signs++ {
		checkAllWords(t, "T.F", signs, nil)
	}
	checkSignFails(t, "T.F", "TT", 1)
}
