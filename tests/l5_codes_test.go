package tests

import (
	"math"
	"slices"
	"strings"
	"testing"

	"loop.example/roundturns/impl"
)

// plainLetters tells a letter for each walked point, more than once round: whether one step on it is over 0.
func plainLetters(turn impl.Turn) string {
	points := walk(turn)
	letters := ""
	for len(letters) < turn.Size+impl.MaxSize {
		letter := "0"
		if points[len(letters)%turn.Size]+turn.Step >= turn.Size {
			letter = "1"
		}
		letters += letter
	}
	return letters
}

// plainOnes counts the ones of a word letter by letter.
func plainOnes(word string) int {
	ones := 0
	for _, letter := range word {
		if letter == '1' {
			ones++
		}
	}
	return ones
}

// plainBalanced holds each two parts of the same length of a word against each other.
func plainBalanced(word string) bool {
	for long := range len(word) + 1 {
		for from := range len(word) - long + 1 {
			for other := range len(word) - long + 1 {
				if plainOnes(word[from:from+long]) > plainOnes(word[other:other+long])+1 {
					return false
				}
			}
		}
	}
	return true
}

// plainParts gathers the words of so many letters that begin at the times of a turn.
func plainParts(turn impl.Turn, many int) map[string]bool {
	letters := plainLetters(turn)
	parts := map[string]bool{}
	for from := range turn.Size {
		parts[letters[from:from+many]] = true
	}
	return parts
}

// wordsWith makes all words of at most so many of some letters.
func wordsWith(letters string, most int) []string {
	words := []string{""}
	for at := 0; at < len(words); at++ {
		if len(words[at]) == most {
			break
		}
		for _, letter := range []byte(letters) {
			words = append(words, words[at]+string(letter))
		}
	}
	return words
}

// shortWords are all words of at most 12 letters.
func shortWords() []string {
	return wordsWith("01", 12)
}

// strangeTexts are texts with other bytes than 0 and 1.
func strangeTexts() []string {
	return []string{
		"x", "2", "/", " ", "\n", "\x00", "\x01", "\x30\xff", "-1", "+1", "1\n", " 0", "0 ", "0 1", "0.1", "012", "2222", "O1", "0l",
		"xx1x1", "0010l", "00x01", "0x0", "1x1", "x01", "01x", "\xb0\xb1", "\xff", "0\x801",
		"\uff10\uff11", "0\u0661", "\u2070", "é01",
		strings.Repeat("0", impl.MaxSize-1) + "2", "2" + strings.Repeat("0", impl.MaxSize-1), strings.Repeat("x", impl.MaxSize),
	}
}

// longTexts are words of 0 and 1 but for their length.
func longTexts() []string {
	most := impl.MaxSize
	return []string{
		strings.Repeat("0", most+1), strings.Repeat("1", most+1), strings.Repeat("0", most) + "1", strings.Repeat("01", most/2) + "0",
		strings.Repeat("01", most), strings.Repeat("0", 100000),
	}
}

// turnedText is a text from its last byte to its first one.
func turnedText(word string) string {
	letters := []byte(word)
	slices.Reverse(letters)
	return string(letters)
}

// otherLetters is a word with 1 for 0, and 0 for 1.
func otherLetters(word string) string {
	return strings.NewReplacer("0", "1", "1", "0").Replace(word)
}

// otherLetterAt is a word with the other letter at a place.
func otherLetterAt(word string, place int) string {
	return word[:place] + otherLetters(word[place:place+1]) + word[place+1:]
}

// eachBadLetters calls with turns that are none, and with numbers of letters that are none of those in 0..Size.
func eachBadLetters(call func(turn impl.Turn, many int)) {
	for _, turn := range allTurns() {
		for _, many := range outside(turn.Size + 1) {
			call(turn, many)
		}
	}
	for _, turn := range badTurns() {
		for _, many := range []int{-1, 0, 1, 2, 4, 12, turn.Size, math.MaxInt, math.MinInt} {
			call(turn, many)
		}
	}
}

func wantText(t *testing.T, what string, of impl.Turn, got string, want string) {
	t.Helper()
	if got != want {
		t.Fatalf("%s of %v is %q, want %q", what, of, got, want)
	}
}

func wantHolds(t *testing.T, what string, word string, got bool, want bool) {
	t.Helper()
	if got != want {
		t.Fatalf("%s of %q is %v, want %v", what, word, got, want)
	}
}

func wantTurnOfCode(t *testing.T, word string, want impl.Turn, wantOk bool) {
	t.Helper()
	if got, ok := impl.TurnOfCode(word); got != want || ok != wantOk {
		t.Fatalf("TurnOfCode of %q is %v, %v, want %v, %v", word, got, ok, want, wantOk)
	}
}

func wantNoTurnOfCode(t *testing.T, word string) {
	t.Helper()
	wantTurnOfCode(t, word, impl.Turn{}, false)
}

func TestPromise28LettersComeAgain(t *testing.T) {
	for _, turn := range allTurns() {
		letters := plainLetters(turn)
		for from := range turn.Size {
			for _, many := range []int{0, 1, 2, turn.Size - 1, turn.Size, min(turn.Size+1, impl.MaxSize), impl.MaxSize - 1, impl.MaxSize} {
				wantText(t, "CodeOf", turn, impl.CodeOf(turn, from, many), letters[from:from+many])
			}
		}
		for many := range impl.MaxSize + 1 {
			wantText(t, "CodeOf from 0 on", turn, impl.CodeOf(turn, 0, many), letters[:many])
			wantText(t, "CodeOf from the last time on", turn, impl.CodeOf(turn, turn.Size-1, many), letters[turn.Size-1:turn.Size-1+many])
		}
	}
}

func TestPromise28LettersAreBalanced(t *testing.T) {
	for _, turn := range allTurns() {
		for from := range turn.Size {
			word := impl.CodeOf(turn, from, impl.MaxSize)
			wantHolds(t, "BalancedOk", word, impl.BalancedOk(word), true)
		}
	}
	eachMany(0, func(turn impl.Turn, many int) {
		word := impl.CodeOf(turn, turn.Size/2, many)
		wantHolds(t, "BalancedOk", word, impl.BalancedOk(word), true)
	})
}

func TestPromise28LettersAreTheSameFromBehind(t *testing.T) {
	for _, turn := range allTurns() {
		word := impl.CodeOf(turn, 0, turn.Size)
		wantNumber(t, "the number of letters", turn, len(word), turn.Size)
		wantText(t, "the first letter", turn, word[:1], "0")
		wantText(t, "the last letter", turn, word[turn.Size-1:], "1")
		between := word[1 : turn.Size-1]
		wantText(t, "what is between, from behind,", turn, turnedText(between), between)
		wantText(t, "the letters the other way", turn, impl.CodeOf(impl.BackTurn(turn), 0, turn.Size), "0"+otherLetters(between)+"1")
	}
}

func TestPromise28KnownLetters(t *testing.T) {
	wantText(t, "CodeOf", fifths, impl.CodeOf(fifths, 0, 12), "010101101011")
	wantText(t, "CodeOf", fifths, impl.CodeOf(fifths, 1, 12), "101011010110")
	wantText(t, "CodeOf", fifths, impl.CodeOf(fifths, 10, 4), "1101")
	wantText(t, "CodeOf", fifths, impl.CodeOf(fifths, 11, 3), "101")
	wantText(t, "CodeOf", fifths, impl.CodeOf(fifths, 0, 60), strings.Repeat("010101101011", 5))
	wantText(t, "CodeOf", two, impl.CodeOf(two, 0, 1), "0")
	wantText(t, "CodeOf", two, impl.CodeOf(two, 1, 1), "1")
	wantText(t, "CodeOf", two, impl.CodeOf(two, 1, 60), strings.Repeat("10", 30))
	fives := impl.Turn{Size: 5, Step: 2}
	wantText(t, "CodeOf", fives, impl.CodeOf(fives, 0, 5), "00101")
	wantText(t, "CodeOf", fives, impl.CodeOf(fives, 3, 7), "0100101")
	most := impl.Turn{Size: impl.MaxSize, Step: 1}
	wantText(t, "CodeOf", most, impl.CodeOf(most, 0, 60), strings.Repeat("0", 59)+"1")
	wantText(t, "CodeOf", most, impl.CodeOf(most, 59, 60), "1"+strings.Repeat("0", 59))
}

func TestPromise28StepsOfOne(t *testing.T) {
	ones, others := stepsOfOne()
	for _, turn := range ones {
		wantText(t, "CodeOf", turn, impl.CodeOf(turn, 0, turn.Size), strings.Repeat("0", turn.Size-1)+"1")
	}
	for _, turn := range others {
		wantText(t, "CodeOf", turn, impl.CodeOf(turn, 0, turn.Size), "0"+strings.Repeat("1", turn.Size-1))
	}
}

func TestPromise28BadArguments(t *testing.T) {
	for _, turn := range allTurns() {
		for _, from := range outside(turn.Size) {
			for _, many := range []int{0, 1, turn.Size, impl.MaxSize} {
				wantText(t, "CodeOf at no time", turn, impl.CodeOf(turn, from, many), "")
			}
		}
		for _, many := range outside(impl.MaxSize + 1) {
			wantText(t, "CodeOf of too many letters", turn, impl.CodeOf(turn, 0, many), "")
			wantText(t, "CodeOf of too many letters", turn, impl.CodeOf(turn, turn.Size-1, many), "")
		}
	}
	for _, turn := range badTurns() {
		for _, from := range []int{-1, 0, 1, turn.Size - 1, math.MaxInt, math.MinInt} {
			for _, many := range []int{-1, 0, 1, 12, impl.MaxSize, math.MaxInt, math.MinInt} {
				wantText(t, "CodeOf of no turn", turn, impl.CodeOf(turn, from, many), "")
			}
		}
	}
}

func TestPromise29OnesAreToldByADivision(t *testing.T) {
	eachMany(0, func(turn impl.Turn, many int) {
		ones := impl.OnesUpTo(turn, many)
		wantNumber(t, "OnesUpTo", turn, ones, many*turn.Step/turn.Size)
		wantNumber(t, "the ones", turn, plainOnes(plainLetters(turn)[:many]), ones)
	})
}

func TestPromise29NoLettersAndAllLetters(t *testing.T) {
	for _, turn := range allTurns() {
		wantNumber(t, "OnesUpTo of no letters", turn, impl.OnesUpTo(turn, 0), 0)
		wantNumber(t, "OnesUpTo of one letter", turn, impl.OnesUpTo(turn, 1), 0)
		wantNumber(t, "OnesUpTo of all letters but one", turn, impl.OnesUpTo(turn, turn.Size-1), turn.Step-1)
		wantNumber(t, "OnesUpTo of all letters", turn, impl.OnesUpTo(turn, turn.Size), turn.Step)
		wantNumber(t, "OnesUpTo of one letter more", turn, impl.OnesUpTo(turn, turn.Size+1), -1)
	}
}

func TestPromise29KnownNumbers(t *testing.T) {
	for many, want := range []int{0, 0, 1, 1, 2, 2, 3, 4, 4, 5, 5, 6, 7} {
		wantNumber(t, "OnesUpTo", fifths, impl.OnesUpTo(fifths, many), want)
	}
	wantNumber(t, "OnesUpTo", golden, impl.OnesUpTo(golden, 34), 21)
}

func TestPromise29BadArguments(t *testing.T) {
	eachBadLetters(func(turn impl.Turn, many int) {
		wantNumber(t, "OnesUpTo of none", turn, impl.OnesUpTo(turn, many), -1)
	})
}

func TestPromise30ThereIsOnePartMoreThanLetters(t *testing.T) {
	eachMany(0, func(turn impl.Turn, many int) {
		parts := impl.PartsOf(turn, many)
		wantNumber(t, "PartsOf", turn, parts, min(many+1, turn.Size))
		wantNumber(t, "the parts", turn, len(plainParts(turn, many)), parts)
	})
}

func TestPromise30NoLettersAndAllLetters(t *testing.T) {
	for _, turn := range allTurns() {
		wantNumber(t, "PartsOf of no letters", turn, impl.PartsOf(turn, 0), 1)
		wantNumber(t, "PartsOf of one letter", turn, impl.PartsOf(turn, 1), 2)
		wantNumber(t, "PartsOf of all letters but one", turn, impl.PartsOf(turn, turn.Size-1), turn.Size)
		wantNumber(t, "PartsOf of all letters", turn, impl.PartsOf(turn, turn.Size), turn.Size)
		wantNumber(t, "PartsOf of one letter more", turn, impl.PartsOf(turn, turn.Size+1), -1)
	}
}

func TestPromise30PartsGoOverTheEnd(t *testing.T) {
	// Of 00101 the parts 10100 and 1001 begin late, and stand in no other place.
	fives := impl.Turn{Size: 5, Step: 2}
	for many, want := range []int{1, 2, 3, 4, 5, 5} {
		wantNumber(t, "PartsOf", fives, impl.PartsOf(fives, many), want)
	}
	for many, want := range []int{1, 2, 3, 4, 5, 6, 7, 8, 9, 10, 11, 12, 12} {
		wantNumber(t, "PartsOf", fifths, impl.PartsOf(fifths, many), want)
	}
}

func TestPromise30BadArguments(t *testing.T) {
	eachBadLetters(func(turn impl.Turn, many int) {
		wantNumber(t, "PartsOf of none", turn, impl.PartsOf(turn, many), -1)
	})
}

func TestPromise31PartsOfWordsAreWords(t *testing.T) {
	for _, word := range shortWords() {
		wantHolds(t, "CodeOk", word, impl.CodeOk(word), true)
	}
	for _, turn := range allTurns() {
		word := impl.CodeOf(turn, 0, impl.MaxSize)
		for many := len(word); many >= 0; many-- {
			wantHolds(t, "CodeOk", word[:many], impl.CodeOk(word[:many]), true)
		}
	}
}

func TestPromise31NoLettersAndOne(t *testing.T) {
	wantHolds(t, "CodeOk", "", impl.CodeOk(""), true)
	for code := range 256 {
		text := string([]byte{byte(code)})
		wantHolds(t, "CodeOk", text, impl.CodeOk(text), code == '0' || code == '1')
	}
}

func TestPromise31TheGreatestLength(t *testing.T) {
	for _, long := range longTexts() {
		wantHolds(t, "CodeOk", long, impl.CodeOk(long), false)
		most := long[:impl.MaxSize]
		wantHolds(t, "CodeOk", most, impl.CodeOk(most), true)
		wantHolds(t, "CodeOk", most, impl.CodeOk(most+long[:1]), false)
	}
}

func TestPromise31OtherBytes(t *testing.T) {
	for _, text := range strangeTexts() {
		wantHolds(t, "CodeOk", text, impl.CodeOk(text), false)
	}
	for _, text := range wordsWith("01x", 6) {
		wantHolds(t, "CodeOk", text, impl.CodeOk(text), !strings.Contains(text, "x"))
	}
	// One other byte is seen wherever it stands.
	word := impl.CodeOf(golden, 0, impl.MaxSize)
	for place := range word {
		for code := range 256 {
			text := word[:place] + string([]byte{byte(code)}) + word[place+1:]
			wantHolds(t, "CodeOk", text, impl.CodeOk(text), code == '0' || code == '1')
		}
	}
}

func TestPromise32WordsAreBalanced(t *testing.T) {
	for _, word := range shortWords() {
		wantHolds(t, "BalancedOk", word, impl.BalancedOk(word), plainBalanced(word))
	}
}

func TestPromise32BalancedWordsAreCounted(t *testing.T) {
	found := map[int]int{}
	for _, word := range shortWords() {
		if impl.BalancedOk(word) {
			found[len(word)]++
		}
	}
	// By a known theorem there is one, and for each length up to that of the words as many as it has steps without a common divisor, each as often as it has room.
	for long := range 13 {
		want := 1
		for size := 1; size <= long; size++ {
			for step := 1; step <= size; step++ {
				if plainDivisor(size, step) == 1 {
					want += long - size + 1
				}
			}
		}
		if found[long] != want {
			t.Fatalf("of %d letters %d words are balanced, want %d", long, found[long], want)
		}
	}
}

func TestPromise32PartsOfBalancedWordsAreBalanced(t *testing.T) {
	for _, word := range shortWords() {
		holds := impl.BalancedOk(word)
		if holds && word != "" {
			wantHolds(t, "BalancedOk without the first letter", word, impl.BalancedOk(word[1:]), true)
			wantHolds(t, "BalancedOk without the last letter", word, impl.BalancedOk(word[:len(word)-1]), true)
		}
		wantHolds(t, "BalancedOk from behind", word, impl.BalancedOk(turnedText(word)), holds)
		wantHolds(t, "BalancedOk with 0 and 1 exchanged", word, impl.BalancedOk(otherLetters(word)), holds)
	}
}

func TestPromise32KnownWords(t *testing.T) {
	for _, word := range []string{"", "0", "1", "00", "01", "10", "11", "0101", "010", "0010", "01010", "00100", "10001", "110101", "0100101001001"} {
		wantHolds(t, "BalancedOk", word, impl.BalancedOk(word), true)
	}
	for _, word := range []string{"0011", "1100", "00011", "000101", "111010", "100011", "10100010", "110100", "0101100"} {
		wantHolds(t, "BalancedOk", word, impl.BalancedOk(word), false)
	}
}

func TestPromise32LongParts(t *testing.T) {
	// Just two parts of half the letters differ by two, so that without its first or last letter the word is balanced.
	half := strings.Repeat("0", impl.MaxSize/2)
	far := half + "1" + half[2:] + "1"
	for _, word := range []string{far, turnedText(far), otherLetters(far)} {
		wantHolds(t, "BalancedOk", word, impl.BalancedOk(word), false)
		wantHolds(t, "BalancedOk", word[1:], impl.BalancedOk(word[1:]), true)
		wantHolds(t, "BalancedOk", word[:len(word)-1], impl.BalancedOk(word[:len(word)-1]), true)
	}
}

func TestPromise32LongWords(t *testing.T) {
	for _, turn := range []impl.Turn{fifths, golden, {Size: 60, Step: 1}, {Size: 60, Step: 59}, {Size: 60, Step: 23}, {Size: 2, Step: 1}} {
		word := impl.CodeOf(turn, 0, impl.MaxSize)
		wantHolds(t, "BalancedOk", word, impl.BalancedOk(word), true)
		for place := range word {
			other := otherLetterAt(word, place)
			wantHolds(t, "BalancedOk", other, impl.BalancedOk(other), plainBalanced(other))
		}
	}
}

func TestPromise32TheGreatestLength(t *testing.T) {
	for _, long := range longTexts() {
		wantHolds(t, "BalancedOk", long, impl.BalancedOk(long), false)
	}
	for _, word := range []string{strings.Repeat("0", impl.MaxSize), strings.Repeat("1", impl.MaxSize), strings.Repeat("01", impl.MaxSize/2)} {
		wantHolds(t, "BalancedOk", word, impl.BalancedOk(word), true)
	}
}

func TestPromise32OtherBytes(t *testing.T) {
	for _, text := range strangeTexts() {
		wantHolds(t, "BalancedOk", text, impl.BalancedOk(text), false)
	}
	for _, text := range wordsWith("01x", 6) {
		if strings.Contains(text, "x") {
			wantHolds(t, "BalancedOk", text, impl.BalancedOk(text), false)
		}
	}
}

func TestPromise33FromItsLettersTheTurnIsTold(t *testing.T) {
	for _, turn := range allTurns() {
		wantTurnOfCode(t, plainLetters(turn)[:turn.Size], turn, true)
		wantTurnOfCode(t, impl.CodeOf(turn, 0, turn.Size), turn, true)
	}
}

func TestPromise33OtherWordsTellNone(t *testing.T) {
	turns := map[string]impl.Turn{}
	for _, turn := range allTurns() {
		turns[plainLetters(turn)[:turn.Size]] = turn
	}
	for _, word := range shortWords() {
		want, wantOk := turns[word]
		wantTurnOfCode(t, word, want, wantOk)
	}
	for letters, turn := range turns {
		for place := range turn.Size {
			// With another letter it may be the word of a turn with one step more, or one less.
			other := otherLetterAt(letters, place)
			want, wantOk := turns[other]
			wantTurnOfCode(t, other, want, wantOk)
		}
	}
}

func TestPromise33LettersFromALaterTimeTellNone(t *testing.T) {
	for _, turn := range allTurns() {
		for from := 1; from < turn.Size; from++ {
			wantNoTurnOfCode(t, impl.CodeOf(turn, from, turn.Size))
		}
		if 2*turn.Size <= impl.MaxSize {
			wantNoTurnOfCode(t, impl.CodeOf(turn, 0, 2*turn.Size))
		}
	}
}

func TestPromise33BalancedWordsThatAreNoLetters(t *testing.T) {
	for _, word := range []string{"", "0", "1", "00", "10", "11", "000", "010", "0101", "01010", "10101", "0110", "00100", "01001", "10010", "0010100101"} {
		wantHolds(t, "BalancedOk", word, impl.BalancedOk(word), true)
		wantNoTurnOfCode(t, word)
	}
	wantNoTurnOfCode(t, "0011")
	wantNoTurnOfCode(t, "00011")
}

func TestPromise33KnownTurns(t *testing.T) {
	wantTurnOfCode(t, "01", impl.Turn{Size: 2, Step: 1}, true)
	wantTurnOfCode(t, "001", impl.Turn{Size: 3, Step: 1}, true)
	wantTurnOfCode(t, "011", impl.Turn{Size: 3, Step: 2}, true)
	wantTurnOfCode(t, "00101", impl.Turn{Size: 5, Step: 2}, true)
	wantTurnOfCode(t, "01011", impl.Turn{Size: 5, Step: 3}, true)
	wantTurnOfCode(t, "010101101011", fifths, true)
}

func TestPromise33TheGreatestLength(t *testing.T) {
	most := impl.MaxSize
	wantTurnOfCode(t, strings.Repeat("0", most-1)+"1", impl.Turn{Size: most, Step: 1}, true)
	wantTurnOfCode(t, "0"+strings.Repeat("1", most-1), impl.Turn{Size: most, Step: most - 1}, true)
	wantNoTurnOfCode(t, strings.Repeat("0", most)+"1")
	wantNoTurnOfCode(t, "0"+strings.Repeat("1", most))
	for _, long := range longTexts() {
		wantNoTurnOfCode(t, long)
		wantNoTurnOfCode(t, long[:most])
	}
	// Of 61 points, each step has nothing in common with them, and the letters would be these.
	for step := 1; step <= most; step++ {
		letters := plainLetters(impl.Turn{Size: most + 1, Step: step})
		wantNoTurnOfCode(t, letters[:most+1])
	}
}

func TestPromise33OtherBytes(t *testing.T) {
	for _, text := range strangeTexts() {
		wantNoTurnOfCode(t, text)
	}
	for _, turn := range allTurns() {
		letters := impl.CodeOf(turn, 0, turn.Size)
		wantNoTurnOfCode(t, strings.ReplaceAll(letters, "0", "x"))
		wantNoTurnOfCode(t, strings.ReplaceAll(letters, "1", "x"))
		wantNoTurnOfCode(t, "x"+letters[1:])
		wantNoTurnOfCode(t, letters[:turn.Size-1]+"x")
		wantNoTurnOfCode(t, letters+"\n")
		wantNoTurnOfCode(t, " "+letters)
	}
}
