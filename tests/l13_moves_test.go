package tests

import (
	"regexp"
	"strconv"
	"strings"
	"testing"

	"loop.example/roundturns/impl"
)

// plainMoves goes down the tree to the fraction of a turn, by asking at each fraction between on which side it is.
func plainMoves(turn impl.Turn) string {
	lowUp, lowDown, highUp, highDown := 0, 1, 1, 1
	moves := ""
	for {
		up, down := lowUp+highUp, lowDown+highDown
		switch side := turn.Step*down - up*turn.Size; {
		case side < 0:
			moves += "L"
			highUp, highDown = up, down
		case side > 0:
			moves += "R"
			lowUp, lowDown = up, down
		default:
			return moves
		}
	}
}

// plainTold has the turn of each word that tells one.
func plainTold() map[string]impl.Turn {
	told := map[string]impl.Turn{}
	for _, turn := range allTurns() {
		told[plainMoves(turn)] = turn
	}
	return told
}

// eachTold calls for each word that tells a turn.
func eachTold(call func(moves string, turn impl.Turn)) {
	for _, turn := range allTurns() {
		call(plainMoves(turn), turn)
	}
}

// beyondTold are the words with one letter more than one that tells a turn that tell none themselves.
func beyondTold() []string {
	told := plainTold()
	var words []string
	eachTold(func(moves string, _ impl.Turn) {
		for _, more := range []string{moves + "L", moves + "R"} {
			if _, ok := told[more]; !ok && len(more) <= impl.MaxMoves {
				words = append(words, more)
			}
		}
	})
	return words
}

// longMoves are words of as many letters as there may be, and of one letter less.
func longMoves() []string {
	words := []string{
		strings.Repeat("L", impl.MaxMoves), strings.Repeat("R", impl.MaxMoves),
		strings.Repeat("LR", impl.MaxMoves/2), strings.Repeat("RL", impl.MaxMoves/2),
		strings.Repeat("L", impl.MaxMoves-1) + "R", strings.Repeat("R", impl.MaxMoves-1) + "L",
		"L" + strings.Repeat("R", impl.MaxMoves-1), "R" + strings.Repeat("L", impl.MaxMoves-1),
		strings.Repeat("L", 29) + strings.Repeat("R", 29), strings.Repeat("LLR", 19) + "R",
	}
	for _, turn := range []impl.Turn{fifths, golden, sevens} {
		words = append(words, strings.NewReplacer("0", "L", "1", "R").Replace(plainLetters(turn)[:impl.MaxMoves]))
	}
	for _, word := range words {
		words = append(words, word[1:])
	}
	return words
}

// shortMoves are all words of at most 12 letters.
func shortMoves() []string {
	return wordsWith("LR", 12)
}

// someMoves are short words and long ones, those that tell turns, and those that tell none.
func someMoves() []string {
	words := append(shortMoves(), longMoves()...)
	words = append(words, beyondTold()...)
	eachTold(func(moves string, _ impl.Turn) {
		words = append(words, moves)
	})
	return words
}

// notMoves are texts with other bytes than L and R, and those that are too long.
func notMoves() []string {
	texts := append(strangeTexts(), longTexts()...)
	texts = append(texts, shortWords()[1:]...)
	texts = append(texts,
		"l", "r", "K", "M", "Q", "S", "\xcc", "\xd2", "LX", "XL", "LXR", "xx", ".", "L.", ".R", "L1", "R1L2R1", "LLr", "lR", " LR", "LR ", "L R", "LR\n", "\x00", "LR\x00", "L\xff",
		"\uff2c", "\uff32", "L\u0332", "LÉ",
		strings.Repeat("L", impl.MaxMoves-1)+"X", "x"+strings.Repeat("R", impl.MaxMoves-1),
		strings.Repeat("L", impl.MaxMoves+1), strings.Repeat("R", impl.MaxMoves+1), strings.Repeat("LR", impl.MaxMoves/2)+"L",
		strings.Repeat("L", impl.MaxMoves)+"X", strings.Repeat("LR", impl.MaxMoves), strings.Repeat("L", impl.MaxSize), strings.Repeat("R", 100000),
	)
	for _, word := range []string{"L", "RLLR", plainMoves(sevens), longMoves()[2]} {
		for place := range word {
			for _, other := range []string{"l", "r", "X", "0", " ", "\x00", "\x8c"} {
				texts = append(texts, word[:place]+other+word[place+1:])
			}
		}
	}
	return texts
}

// otherMoves is a word with L for R, and R for L.
func otherMoves(moves string) string {
	other := ""
	for _, letter := range moves {
		if letter == 'L' {
			other += "R"
		} else {
			other += "L"
		}
	}
	return other
}

var aRun = regexp.MustCompile("L+|R+")

// plainRuns writes down each run as its letter and how many it has.
func plainRuns(moves string) string {
	if moves == "" {
		return "."
	}
	return aRun.ReplaceAllStringFunc(moves, func(run string) string {
		return run[:1] + strconv.Itoa(len(run))
	})
}

var aRunText = regexp.MustCompile("([LR])([0-9]{1,2})")

// plainRead takes from a text what looks like runs, and asks whether what it would be written as is the text.
func plainRead(text string) (string, bool) {
	moves := ""
	for _, parts := range aRunText.FindAllStringSubmatch(text, impl.MaxMoves) {
		many, _ := strconv.Atoi(parts[2])
		moves += strings.Repeat(parts[1], many)
	}
	if len(moves) > impl.MaxMoves || plainRuns(moves) != text {
		return "", false
	}
	return moves, true
}

// changedTexts are a text with one sign more, one less, or another one, at each place.
func changedTexts(text string) []string {
	var texts []string
	for place := range len(text) + 1 {
		for _, sign := range []string{"", "L", "R", "0", "1", "9", ".", "x"} {
			texts = append(texts, text[:place]+sign+text[place:])
			if place < len(text) {
				texts = append(texts, text[:place]+sign+text[place+1:])
			}
		}
	}
	return texts
}

// noRuns are texts that no moves are written as.
func noRuns() []string {
	texts := []string{
		"", "..", "...", ".L1", ".R1", "L", "R", "LL", "LR", "0", "1", "58", "1L", "1L1", "0L1", "01L1", "L1R", "L1L", "R1LR1", "LR1", "L1.R1", "L.1", "L1,R1",
		"L0", "R0", "L00", "L01", "R01", "L001", "L010", "L1R0", "L1R01", "L0R1", "L01R1", "R2L0R2", "L2R00",
		"L1L1", "R1R1", "L2L3", "R1R2", "L1R1R1", "R1L1L1R1", "L29L29",
		"L59", "R59", "L60", "L99", "L100", "L580", "R058", "L58R1", "R1L58", "L57R2", "L30R29", "L29R29L1", "L1R1L57", "L1R57L1",
		"L9223372036854775807", "L9223372036854775808", "L18446744073709551617", "R4294967297", "R4294967298", "L1R18446744073709551617", "L257", "L513",
		"L-1", "L+1", "L1.0", "L1e1", "L0x1", "L 1", "L1 ", " L1", "L1 R1", "L1\n", "\nL1", "L1\x00", "\x00", "\x00L1", "L\x001", "L\xb1", "\xcc1", "L\uff11", "\uff2c1", "L\u0661", "L/", "L:", "L1/", "L1:",
		"l1", "r1", "x1", "X2", "M1", "K1", "L1r1", "R1l2R1", "RLLR", "L1R1x", "x", "L1x1",
		strings.Repeat("L1R1", 29) + "L1", strings.Repeat("L1R1", 100000), "L1" + strings.Repeat("0", 100000), "L" + strings.Repeat("0", 100000) + "1", strings.Repeat("L1", 58),
	}
	return append(texts, strangeTexts()...)
}

func wantMoves(t *testing.T, text string, want bool) {
	t.Helper()
	wantHolds(t, "MovesOk", text, impl.MovesOk(text), want)
}

func wantMoveTurn(t *testing.T, moves string, want impl.Turn, wantOk bool) {
	t.Helper()
	if got, ok := impl.MoveTurn(moves); got != want || ok != wantOk {
		t.Fatalf("MoveTurn of %q is %v, %v, want %v, %v", moves, got, ok, want, wantOk)
	}
}

func wantNoMoveTurn(t *testing.T, moves string) {
	t.Helper()
	wantMoveTurn(t, moves, impl.Turn{}, false)
}

func wantMovesFor(t *testing.T, turn impl.Turn, want string, wantOk bool) {
	t.Helper()
	if got, ok := impl.MovesFor(turn); got != want || ok != wantOk {
		t.Fatalf("MovesFor of %v is %q, %v, want %q, %v", turn, got, ok, want, wantOk)
	}
}

func wantWord(t *testing.T, what string, moves string, got string, want string) {
	t.Helper()
	if got != want {
		t.Fatalf("%s of %q is %q, want %q", what, moves, got, want)
	}
}

func wantBack(t *testing.T, moves string, want string) {
	t.Helper()
	wantWord(t, "BackMoves", moves, impl.BackMoves(moves), want)
}

func wantOther(t *testing.T, moves string, want string) {
	t.Helper()
	wantWord(t, "OtherMoves", moves, impl.OtherMoves(moves), want)
}

func wantRuns(t *testing.T, moves string, want string) {
	t.Helper()
	wantWord(t, "RunsText", moves, impl.RunsText(moves), want)
}

func wantRead(t *testing.T, text string, want string, wantOk bool) {
	t.Helper()
	if got, ok := impl.ReadRuns(text); got != want || ok != wantOk {
		t.Fatalf("ReadRuns of %q is %q, %v, want %q, %v", text, got, ok, want, wantOk)
	}
}

func wantNoneRead(t *testing.T, text string) {
	t.Helper()
	wantRead(t, text, "", false)
}

// movesOf are the moves of a turn that tells its word.
func movesOf(t *testing.T, turn impl.Turn) string {
	t.Helper()
	moves, ok := impl.MovesFor(turn)
	if !ok {
		t.Fatalf("MovesFor of %v tells no word", turn)
	}
	return moves
}

// turnOf is the turn of moves that tell one.
func turnOf(t *testing.T, moves string) impl.Turn {
	t.Helper()
	turn, ok := impl.MoveTurn(moves)
	if !ok {
		t.Fatalf("MoveTurn of %q tells no turn", moves)
	}
	return turn
}

func TestPromise76AllWordsOfBothLetters(t *testing.T) {
	for _, moves := range someMoves() {
		wantMoves(t, moves, true)
	}
}

func TestPromise76MovesAreTakenOneByOne(t *testing.T) {
	for _, moves := range someMoves() {
		for many := len(moves) - 1; many >= 0; many-- {
			wantMoves(t, moves[:many], true)
		}
	}
}

func TestPromise76NoMovesAndOneLetter(t *testing.T) {
	wantMoves(t, "", true)
	for letter := range 256 {
		word := string([]byte{byte(letter)})
		wantMoves(t, word, word == "L" || word == "R")
	}
}

func TestPromise76AsManyAsThereMayBe(t *testing.T) {
	if impl.MaxMoves != 58 {
		t.Fatalf("MaxMoves is %d, want 58", impl.MaxMoves)
	}
	for _, letter := range []string{"L", "R"} {
		for many := range 2 * impl.MaxMoves {
			wantMoves(t, strings.Repeat(letter, many), many <= impl.MaxMoves)
		}
	}
	for _, moves := range longMoves() {
		wantMoves(t, moves+"L", len(moves) < impl.MaxMoves)
		wantMoves(t, "R"+moves, len(moves) < impl.MaxMoves)
	}
}

func TestPromise76OtherTexts(t *testing.T) {
	for _, text := range notMoves() {
		wantMoves(t, text, false)
	}
	for _, text := range []string{"x", "LX", "L1", ".", "LRl"} {
		for _, moves := range shortMoves() {
			wantMoves(t, moves+text, false)
			wantMoves(t, text+moves, false)
		}
	}
}

func TestPromise77WordsOfMovesTellTurns(t *testing.T) {
	told := plainTold()
	for _, moves := range someMoves() {
		want, ok := told[moves]
		wantMoveTurn(t, moves, want, ok)
	}
}

func TestPromise77ToldTurnsHaveTheseMoves(t *testing.T) {
	for _, moves := range someMoves() {
		if turn, ok := impl.MoveTurn(moves); ok {
			wantHolds(t, "TurnOk of the turn", moves, impl.TurnOk(turn), true)
			wantMovesFor(t, turn, moves, true)
		}
	}
}

func TestPromise77FromBehindTheyTellTheOppositeTurn(t *testing.T) {
	for _, moves := range someMoves() {
		turn, ok := impl.MoveTurn(moves)
		wantMoveTurn(t, impl.BackMoves(moves), impl.OppositeOf(turn), ok)
	}
	eachTold(func(moves string, turn impl.Turn) {
		wantMoveTurn(t, turnedText(moves), impl.Turn{Size: turn.Size, Step: timeOfOne(turn)}, true)
	})
}

func TestPromise77ExchangedTheyTellTheTurnTheOtherWay(t *testing.T) {
	for _, moves := range someMoves() {
		turn, ok := impl.MoveTurn(moves)
		wantMoveTurn(t, impl.OtherMoves(moves), impl.BackTurn(turn), ok)
	}
	eachTold(func(moves string, turn impl.Turn) {
		wantMoveTurn(t, otherMoves(moves), impl.Turn{Size: turn.Size, Step: turn.Size - turn.Step}, true)
	})
}

func TestPromise77NoMovesAndOneLetter(t *testing.T) {
	wantMoveTurn(t, "", two, true)
	wantMoveTurn(t, "L", impl.Turn{Size: 3, Step: 1}, true)
	wantMoveTurn(t, "R", impl.Turn{Size: 3, Step: 2}, true)
}

func TestPromise77StepsOfOne(t *testing.T) {
	ones, others := stepsOfOne()
	for many, turn := range ones {
		wantMoveTurn(t, strings.Repeat("L", many), turn, true)
		wantMoveTurn(t, strings.Repeat("R", many), others[many], true)
	}
	wantMoveTurn(t, strings.Repeat("L", impl.MaxMoves), impl.Turn{Size: impl.MaxSize, Step: 1}, true)
	wantMoveTurn(t, strings.Repeat("R", impl.MaxMoves), impl.Turn{Size: impl.MaxSize, Step: impl.MaxSize - 1}, true)
}

func TestPromise77TooManyPoints(t *testing.T) {
	for _, moves := range beyondTold() {
		wantNoMoveTurn(t, moves)
		// No move makes fewer points of too many.
		left := impl.MaxMoves - len(moves)
		for many := range left + 1 {
			wantNoMoveTurn(t, moves+strings.Repeat("L", many)+strings.Repeat("R", left-many))
		}
	}
	for _, moves := range longMoves() {
		if strings.Contains(moves, "LR") || strings.Contains(moves, "RL") {
			wantNoMoveTurn(t, moves)
		}
	}
	wantMoveTurn(t, "L"+strings.Repeat("R", 28), impl.Turn{Size: 59, Step: 29}, true)
	wantNoMoveTurn(t, "L"+strings.Repeat("R", 29))
	wantMoveTurn(t, "LRLRLRL", impl.Turn{Size: 55, Step: 21}, true)
	wantNoMoveTurn(t, "LRLRLRLR")
	wantNoMoveTurn(t, "RLRLRLRL")
}

func TestPromise77KnownTurns(t *testing.T) {
	wantMoveTurn(t, "RLLR", fifths, true)
	wantMoveTurn(t, "LRRL", impl.Turn{Size: 12, Step: 5}, true)
	wantMoveTurn(t, "RLRLRLR", golden, true)
	wantMoveTurn(t, "LLLLLLLRLRR", sevens, true)
	wantMoveTurn(t, "RRLRLLLLLLL", impl.Turn{Size: 60, Step: 43}, true)
	wantMoveTurn(t, "RLLRRLLL", impl.Turn{Size: 53, Step: 31}, true)
	wantMoveTurn(t, "LLR", impl.Turn{Size: 7, Step: 2}, true)
	wantMoveTurn(t, "RLL", impl.Turn{Size: 7, Step: 4}, true)
	wantMoveTurn(t, "RRL", impl.Turn{Size: 7, Step: 5}, true)
	wantMoveTurn(t, "LLRRLL", impl.Turn{Size: 24, Step: 7}, true)
}

func TestPromise77OtherTexts(t *testing.T) {
	for _, text := range notMoves() {
		wantNoMoveTurn(t, text)
	}
}

func TestPromise78EachTurnHasItsWord(t *testing.T) {
	eachTold(func(moves string, turn impl.Turn) {
		wantMovesFor(t, turn, moves, true)
		wantMoveTurn(t, movesOf(t, turn), turn, true)
	})
}

func TestPromise78NoWordTellsTwoTurns(t *testing.T) {
	turns := map[string]impl.Turn{}
	for _, turn := range allTurns() {
		moves := movesOf(t, turn)
		wantMoves(t, moves, true)
		if before, ok := turns[moves]; ok {
			t.Fatalf("%v and %v have both the moves %q", before, turn, moves)
		}
		turns[moves] = turn
	}
}

func TestPromise78OneLessThanRowsOfTheRule(t *testing.T) {
	for _, turn := range allTurns() {
		wantNumber(t, "the number of moves", turn, len(movesOf(t, turn)), len(impl.NearRule(turn))-1)
	}
}

func TestPromise78RunsAreQuotients(t *testing.T) {
	for _, turn := range allTurns() {
		var lengths []int
		for _, run := range aRun.FindAllString("L"+movesOf(t, turn), -1) {
			lengths = append(lengths, len(run))
		}
		lengths[len(lengths)-1]++
		wantList(t, "QuotientsOf", turn, impl.QuotientsOf(turn), lengths)
		wantList(t, "the quotients", turn, plainQuotients(turn), lengths)
	}
}

func TestPromise78TheLeastAndTheGreatestSize(t *testing.T) {
	wantMovesFor(t, two, "", true)
	wantMovesFor(t, impl.Turn{Size: 3, Step: 1}, "L", true)
	wantMovesFor(t, impl.Turn{Size: 3, Step: 2}, "R", true)
	wantMovesFor(t, impl.Turn{Size: 60, Step: 1}, strings.Repeat("L", 58), true)
	wantMovesFor(t, impl.Turn{Size: 60, Step: 59}, strings.Repeat("R", 58), true)
}

func TestPromise78StepsOfOne(t *testing.T) {
	ones, others := stepsOfOne()
	for many, turn := range ones {
		wantMovesFor(t, turn, strings.Repeat("L", many), true)
		wantMovesFor(t, others[many], strings.Repeat("R", many), true)
	}
}

func TestPromise78KnownMoves(t *testing.T) {
	wantMovesFor(t, fifths, "RLLR", true)
	wantMovesFor(t, impl.Turn{Size: 12, Step: 5}, "LRRL", true)
	wantMovesFor(t, impl.Turn{Size: 7, Step: 3}, "LRR", true)
	wantMovesFor(t, golden, "RLRLRLR", true)
	wantMovesFor(t, sevens, "LLLLLLLRLRR", true)
	wantMovesFor(t, impl.Turn{Size: 60, Step: 53}, "RRRRRRRLRLL", true)
	wantMovesFor(t, impl.Turn{Size: 60, Step: 29}, "LRRRRRRRRRRRRRRL", true)
	wantMovesFor(t, impl.Turn{Size: 59, Step: 2}, strings.Repeat("L", 28)+"R", true)
}

func TestPromise78BadTurns(t *testing.T) {
	for _, turn := range badTurns() {
		wantMovesFor(t, turn, "", false)
	}
}

func TestPromise79MovesFromBehind(t *testing.T) {
	for _, moves := range someMoves() {
		wantBack(t, moves, turnedText(moves))
	}
}

func TestPromise79FromBehindTwice(t *testing.T) {
	for _, moves := range someMoves() {
		back := impl.BackMoves(moves)
		wantMoves(t, back, true)
		wantBack(t, back, moves)
	}
}

func TestPromise79ExchangedFirstOrThen(t *testing.T) {
	for _, moves := range someMoves() {
		want := turnedText(otherMoves(moves))
		wantBack(t, impl.OtherMoves(moves), want)
		wantOther(t, impl.BackMoves(moves), want)
	}
}

func TestPromise79NoMovesAndOneLetter(t *testing.T) {
	for _, moves := range []string{"", "L", "R"} {
		wantBack(t, moves, moves)
	}
}

func TestPromise79KnownWords(t *testing.T) {
	wantBack(t, "LR", "RL")
	wantBack(t, "LLR", "RLL")
	wantBack(t, "RLLR", "RLLR")
	wantBack(t, "LLLLLLLRLRR", "RRLRLLLLLLL")
	wantBack(t, "L"+strings.Repeat("R", 57), strings.Repeat("R", 57)+"L")
	wantBack(t, strings.Repeat("LR", 29), strings.Repeat("RL", 29))
}

func TestPromise79OtherTexts(t *testing.T) {
	for _, text := range notMoves() {
		wantBack(t, text, "")
	}
}

func TestPromise80MovesExchanged(t *testing.T) {
	for _, moves := range someMoves() {
		wantOther(t, moves, otherMoves(moves))
	}
}

func TestPromise80ExchangedTwice(t *testing.T) {
	for _, moves := range someMoves() {
		other := impl.OtherMoves(moves)
		wantMoves(t, other, true)
		wantOther(t, other, moves)
		if len(other) != len(moves) {
			t.Fatalf("OtherMoves of %q has %d letters", moves, len(other))
		}
	}
}

func TestPromise80NoMovesAndOneLetter(t *testing.T) {
	wantOther(t, "", "")
	wantOther(t, "L", "R")
	wantOther(t, "R", "L")
}

func TestPromise80KnownWords(t *testing.T) {
	wantOther(t, "LLR", "RRL")
	wantOther(t, "RLLR", "LRRL")
	wantOther(t, strings.Repeat("L", 58), strings.Repeat("R", 58))
	wantOther(t, strings.Repeat("LR", 29), strings.Repeat("RL", 29))
}

func TestPromise80OtherTexts(t *testing.T) {
	for _, text := range notMoves() {
		wantOther(t, text, "")
	}
}

func TestPromise81TextsOfRuns(t *testing.T) {
	for _, moves := range someMoves() {
		wantRuns(t, moves, plainRuns(moves))
	}
}

func TestPromise81TextsOfRunsAreRead(t *testing.T) {
	for _, moves := range someMoves() {
		wantRead(t, impl.RunsText(moves), moves, true)
		wantRead(t, plainRuns(moves), moves, true)
	}
}

func TestPromise81NoMovesAndOneLetter(t *testing.T) {
	wantRuns(t, "", ".")
	wantRuns(t, "L", "L1")
	wantRuns(t, "R", "R1")
	wantRead(t, ".", "", true)
	wantRead(t, "L1", "L", true)
	wantRead(t, "R1", "R", true)
}

func TestPromise81OneRun(t *testing.T) {
	for _, letter := range []string{"L", "R"} {
		for many := 1; many <= impl.MaxMoves; many++ {
			moves, text := strings.Repeat(letter, many), letter+strconv.Itoa(many)
			wantRuns(t, moves, text)
			wantRead(t, text, moves, true)
		}
	}
}

func TestPromise81TwoRuns(t *testing.T) {
	for first := 1; first < impl.MaxMoves; first++ {
		for second := 1; first+second <= impl.MaxMoves; second++ {
			moves := strings.Repeat("R", first) + strings.Repeat("L", second)
			text := "R" + strconv.Itoa(first) + "L" + strconv.Itoa(second)
			wantRuns(t, moves, text)
			wantRead(t, text, moves, true)
		}
	}
}

func TestPromise81ManyRuns(t *testing.T) {
	wantRuns(t, strings.Repeat("LR", 29), strings.Repeat("L1R1", 29))
	wantRead(t, strings.Repeat("L1R1", 29), strings.Repeat("LR", 29), true)
	wantRuns(t, strings.Repeat("RL", 28)+"R", strings.Repeat("R1L1", 28)+"R1")
	wantRead(t, strings.Repeat("R1L1", 28)+"R1", strings.Repeat("RL", 28)+"R", true)
}

func TestPromise81KnownTexts(t *testing.T) {
	for _, row := range [][]string{
		{"RLLR", "R1L2R1"}, {"LLLLLLLRLRR", "L7R1L1R2"}, {"RLLRRLLL", "R1L2R2L3"},
		{"L" + strings.Repeat("R", 14) + "L", "L1R14L1"}, {strings.Repeat("L", 28) + "R", "L28R1"},
		{strings.Repeat("L", 10) + strings.Repeat("R", 20) + strings.Repeat("L", 28), "L10R20L28"},
	} {
		wantRuns(t, row[0], row[1])
		wantRead(t, row[1], row[0], true)
	}
}

func TestPromise81OtherTexts(t *testing.T) {
	for _, text := range notMoves() {
		wantRuns(t, text, "")
	}
}

func TestPromise82ShortTexts(t *testing.T) {
	for _, text := range append(wordsWith("LR.01258x", 5), wordsWith("LR012", 6)...) {
		want, ok := plainRead(text)
		wantRead(t, text, want, ok)
	}
}

func TestPromise82TextsThatAreChanged(t *testing.T) {
	var texts []string
	eachTold(func(moves string, _ impl.Turn) {
		texts = append(texts, plainRuns(moves))
	})
	for _, moves := range longMoves() {
		texts = append(texts, plainRuns(moves))
	}
	for _, text := range texts {
		for _, changed := range changedTexts(text) {
			want, ok := plainRead(changed)
			wantRead(t, changed, want, ok)
		}
	}
}

func TestPromise82ReadTextsAreTextsOfTheirMoves(t *testing.T) {
	texts := append(wordsWith("LR.12", 5), noRuns()...)
	for _, moves := range someMoves() {
		texts = append(texts, plainRuns(moves))
	}
	for _, text := range texts {
		if moves, ok := impl.ReadRuns(text); ok {
			wantRuns(t, moves, text)
		}
	}
}

func TestPromise82ADotBehind(t *testing.T) {
	for _, moves := range someMoves() {
		wantNoneRead(t, impl.RunsText(moves)+".")
	}
	wantNoneRead(t, "..")
	wantNoneRead(t, "L1.")
	wantNoneRead(t, "R1L2R1.")
}

func TestPromise82NumbersWithNoughtsAhead(t *testing.T) {
	for many := range impl.MaxMoves + 1 {
		number := strconv.Itoa(many)
		wantNoneRead(t, "L0"+number)
		wantNoneRead(t, "R00"+number)
		wantNoneRead(t, "R1L0"+number)
	}
}

func TestPromise82NumbersThatAreTooGreat(t *testing.T) {
	for many := impl.MaxMoves + 1; many <= 1000; many++ {
		number := strconv.Itoa(many)
		wantNoneRead(t, "L"+number)
		wantNoneRead(t, "R"+number)
		wantNoneRead(t, "L1R"+number)
	}
	for many := 1; many <= impl.MaxMoves; many++ {
		first, second := strconv.Itoa(many), strconv.Itoa(impl.MaxMoves+1-many)
		wantNoneRead(t, "L"+first+"R"+second)
		wantNoneRead(t, "R"+first+"L"+second)
	}
}

func TestPromise82RunsOfTheSameLetter(t *testing.T) {
	for first := 1; first < impl.MaxMoves; first++ {
		for second := 1; first+second <= impl.MaxMoves; second++ {
			for _, letter := range []string{"L", "R"} {
				wantNoneRead(t, letter+strconv.Itoa(first)+letter+strconv.Itoa(second))
			}
		}
	}
}

func TestPromise82OtherTexts(t *testing.T) {
	for _, text := range noRuns() {
		wantNoneRead(t, text)
	}
	for sign := range 256 {
		text := string([]byte{byte(sign)})
		wantRead(t, text, "", text == ".")
		if sign < '0' || sign > '9' {
			wantNoneRead(t, "L"+text)
			wantNoneRead(t, "L1"+text)
			wantNoneRead(t, "R1L"+text)
		}
		if text != "L" && text != "R" {
			wantNoneRead(t, text+"1")
			wantNoneRead(t, text+"L1")
		}
	}
}

func TestPromise83ScalesAreToldByMoves(t *testing.T) {
	for _, turn := range allTurns() {
		moves, scales := movesOf(t, turn), impl.ScaleSizes(turn)
		wantNumber(t, "the number of scales", turn, len(scales), len(moves)+1)
		for many, scale := range scales {
			wantNumber(t, "the points of the first moves", turn, turnOf(t, moves[:many]).Size, scale)
		}
	}
}

func TestPromise83WalkedScalesAreToldByWalkedMoves(t *testing.T) {
	eachTold(func(moves string, turn impl.Turn) {
		for many, scale := range plainScales(turn) {
			wantNumber(t, "the points of the first moves", turn, turnOf(t, moves[:many]).Size, scale)
		}
	})
}

func TestPromise83TheFirstScaleAndTheLastOne(t *testing.T) {
	for _, turn := range allTurns() {
		moves := movesOf(t, turn)
		wantNumber(t, "the points of no moves", turn, turnOf(t, moves[:0]).Size, 2)
		wantTurn(t, "the turn of all moves", turn, turnOf(t, moves), turn)
		if len(moves) > 0 {
			wantNumber(t, "the points of one move", turn, turnOf(t, moves[:1]).Size, 3)
		}
	}
}

func TestPromise83StepsOfOne(t *testing.T) {
	ones, others := stepsOfOne()
	for place, turn := range ones {
		for many := range place + 1 {
			wantTurn(t, "the turn of the first moves", turn, turnOf(t, movesOf(t, turn)[:many]), ones[many])
			wantTurn(t, "the turn of the first moves", others[place], turnOf(t, movesOf(t, others[place])[:many]), others[many])
			wantNumber(t, "the scale", turn, impl.ScaleSizes(turn)[many], many+2)
		}
	}
}

func TestPromise83KnownScales(t *testing.T) {
	for many, want := range []impl.Turn{two, {Size: 3, Step: 2}, {Size: 5, Step: 3}, {Size: 7, Step: 4}, fifths} {
		wantMoveTurn(t, "RLLR"[:many], want, true)
		wantNumber(t, "the scale", fifths, impl.ScaleSizes(fifths)[many], want.Size)
	}
	for many, want := range []int{2, 3, 5, 8, 13, 21, 34, 55} {
		wantNumber(t, "the points of the first moves", golden, turnOf(t, movesOf(t, golden)[:many]).Size, want)
	}
	for many, want := range []int{2, 3, 4, 5, 6, 7, 8, 9, 17, 26, 43, 60} {
		wantNumber(t, "the points of the first moves", sevens, turnOf(t, movesOf(t, sevens)[:many]).Size, want)
	}
}

func TestPromise83BadTurns(t *testing.T) {
	for _, turn := range badTurns() {
		wantMovesFor(t, turn, "", false)
		wantScales(t, turn)
	}
}
