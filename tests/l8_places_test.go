package tests

import (
	"math"
	"slices"
	"strings"
	"testing"

	"loop.example/roundturns/impl"
)

// plainPlaces are the times, once round, at which a letter stands.
func plainPlaces(turn impl.Turn, letter byte) []int {
	var places []int
	for time, other := range []byte(plainLetters(turn)[:turn.Size]) {
		if other == letter {
			places = append(places, time)
		}
	}
	return places
}

// plainSpaces goes once round from the last letter on, which is that of time -1, too, and counts the steps from each 1 to the next one.
func plainSpaces(turn impl.Turn) []int {
	var spaces []int
	steps := 0
	for _, letter := range plainLetters(turn)[:turn.Size] {
		steps++
		if letter == '1' {
			spaces = append(spaces, steps)
			steps = 0
		}
	}
	return spaces
}

// plainUp is a division rounded up, found by trying one number after the other.
func plainUp(number int, by int) int {
	up := 0
	for up*by < number {
		up++
	}
	return up
}

// plainDown is a division rounded down, found in the same way.
func plainDown(number int, by int) int {
	down := 0
	for (down+1)*by <= number {
		down++
	}
	return down
}

// plainInner is the inner turn of one with a step of 2 or more, what Size leaves being found by taking away.
func plainInner(turn impl.Turn) impl.Turn {
	left := turn.Size
	for left >= turn.Step {
		left -= turn.Step
	}
	return impl.Turn{Size: turn.Step, Step: left}
}

// plainInners is a turn, and plainInner of it, and so on, up to the first one with a step of 1.
func plainInners(turn impl.Turn) []impl.Turn {
	turns := []impl.Turn{turn}
	for turn.Step > 1 {
		turn = plainInner(turn)
		turns = append(turns, turn)
	}
	return turns
}

// spaceLetters writes 1 for each distance that is longer than another one, and 0 for each other one.
func spaceLetters(spaces []int, short int) string {
	letters := ""
	for _, space := range spaces {
		if space > short {
			letters += "1"
		} else {
			letters += "0"
		}
	}
	return letters
}

// eachOne calls with the number of each 1 of each turn there is.
func eachOne(call func(turn impl.Turn, number int)) {
	for _, turn := range allTurns() {
		for _, number := range upTo(turn.Step) {
			call(turn, number)
		}
	}
}

// eachNought calls with the number of each 0 of each turn there is.
func eachNought(call func(turn impl.Turn, number int)) {
	for _, turn := range allTurns() {
		for _, number := range upTo(turn.Size - turn.Step) {
			call(turn, number)
		}
	}
}

// stepsOfTwo are the turns with a step of 2.
func stepsOfTwo() []impl.Turn {
	var turns []impl.Turn
	for size := 3; size <= impl.MaxSize; size += 2 {
		turns = append(turns, impl.Turn{Size: size, Step: 2})
	}
	return turns
}

func wantOne(t *testing.T, turn impl.Turn, number int, want int) {
	t.Helper()
	if got := impl.PlaceOfOne(turn, number); got != want {
		t.Fatalf("PlaceOfOne %d of %v is %d, want %d", number, turn, got, want)
	}
}

func wantNought(t *testing.T, turn impl.Turn, number int, want int) {
	t.Helper()
	if got := impl.PlaceOfNought(turn, number); got != want {
		t.Fatalf("PlaceOfNought %d of %v is %d, want %d", number, turn, got, want)
	}
}

func wantSpaces(t *testing.T, turn impl.Turn, want ...int) {
	t.Helper()
	wantList(t, "SpacesOf", turn, impl.SpacesOf(turn), want)
}

func wantInner(t *testing.T, turn impl.Turn, want impl.Turn, wantOk bool) {
	t.Helper()
	if got, ok := impl.InnerTurn(turn); got != want || ok != wantOk {
		t.Fatalf("InnerTurn of %v is %v, %v, want %v, %v", turn, got, ok, want, wantOk)
	}
}

func wantNoInner(t *testing.T, turn impl.Turn) {
	t.Helper()
	wantInner(t, turn, impl.Turn{}, false)
}

func wantInners(t *testing.T, turn impl.Turn, want ...impl.Turn) {
	t.Helper()
	if got := impl.InnerTurns(turn); !slices.Equal(got, want) {
		t.Fatalf("InnerTurns of %v is %v, want %v", turn, got, want)
	}
}

func TestPromise47PlacesOfOnes(t *testing.T) {
	for _, turn := range allTurns() {
		for before, place := range plainPlaces(turn, '1') {
			wantOne(t, turn, before+1, place)
		}
	}
}

func TestPromise47OnesAreAtDivisionsRoundedUp(t *testing.T) {
	eachOne(func(turn impl.Turn, number int) {
		wantOne(t, turn, number, plainUp(number*turn.Size, turn.Step)-1)
		place := impl.PlaceOfOne(turn, number)
		wantNumber(t, "OnesUpTo just behind a 1", turn, impl.OnesUpTo(turn, place+1), number)
		wantNumber(t, "OnesUpTo just before a 1", turn, impl.OnesUpTo(turn, place), number-1)
		wantText(t, "the letter at the place of a 1", turn, impl.CodeOf(turn, place, 1), "1")
	})
}

func TestPromise47TheFirstOneAndTheLastOne(t *testing.T) {
	for _, turn := range allTurns() {
		letters := plainLetters(turn)[:turn.Size]
		wantOne(t, turn, 0, -1)
		wantOne(t, turn, 1, strings.Index(letters, "1"))
		wantOne(t, turn, turn.Step, turn.Size-1)
		wantOne(t, turn, turn.Step+1, -1)
		wantOne(t, turn, turn.Size, -1)
	}
}

func TestPromise47OneOneAndOneNought(t *testing.T) {
	ones, others := stepsOfOne()
	for place, turn := range ones {
		wantOne(t, turn, 0, -1)
		wantOne(t, turn, 1, turn.Size-1)
		wantOne(t, turn, 2, -1)
		other := others[place]
		for number := 1; number < other.Size; number++ {
			wantOne(t, other, number, number)
		}
		wantOne(t, other, 0, -1)
		wantOne(t, other, other.Size, -1)
	}
}

func TestPromise47StepsOfTwo(t *testing.T) {
	for _, turn := range stepsOfTwo() {
		wantOne(t, turn, 1, turn.Size/2)
		wantOne(t, turn, 2, turn.Size-1)
		wantOne(t, turn, 3, -1)
	}
}

func TestPromise47KnownPlaces(t *testing.T) {
	for number, want := range []int{-1, 1, 3, 5, 6, 8, 10, 11, -1} {
		wantOne(t, fifths, number, want)
	}
	for number, want := range []int{-1, 1, 3, 4, 6, 8, 9, 11, 12, 14, 16} {
		wantOne(t, golden, number, want)
	}
	wantOne(t, golden, 33, 53)
	wantOne(t, golden, 34, 54)
	wantOne(t, golden, 35, -1)
	wantOne(t, two, 1, 1)
	wantOne(t, two, 2, -1)
	for number, want := range []int{-1, 8, 17, 25, 34, 42, 51, 59, -1} {
		wantOne(t, sevens, number, want)
	}
}

func TestPromise47BadArguments(t *testing.T) {
	for _, turn := range allTurns() {
		for _, number := range append(outside(turn.Step+1), 0, turn.Size, turn.Size+1) {
			wantOne(t, turn, number, -1)
		}
	}
	for _, turn := range badTurns() {
		for _, number := range []int{-1, 0, 1, 2, 7, turn.Step, turn.Step - 1, turn.Size, math.MaxInt, math.MinInt} {
			wantOne(t, turn, number, -1)
		}
	}
}

func TestPromise48PlacesOfNoughts(t *testing.T) {
	for _, turn := range allTurns() {
		for before, place := range plainPlaces(turn, '0') {
			wantNought(t, turn, before+1, place)
		}
	}
}

func TestPromise48NoughtsAreAtDivisionsRoundedDown(t *testing.T) {
	eachNought(func(turn impl.Turn, number int) {
		wantNought(t, turn, number, plainDown((number-1)*turn.Size, turn.Size-turn.Step))
		place := impl.PlaceOfNought(turn, number)
		wantText(t, "the letter at the place of a 0", turn, impl.CodeOf(turn, place, 1), "0")
		for _, other := range upTo(turn.Step) {
			if impl.PlaceOfOne(turn, other) == place {
				t.Fatalf("the 0 with the number %d, and the 1 with the number %d, of %v are at %d", number, other, turn, place)
			}
		}
	})
}

func TestPromise48NoPlaceIsLeftOutNorToldTwice(t *testing.T) {
	for _, turn := range allTurns() {
		told := make([]int, turn.Size)
		for _, number := range upTo(turn.Step) {
			told[impl.PlaceOfOne(turn, number)]++
		}
		for _, number := range upTo(turn.Size - turn.Step) {
			told[impl.PlaceOfNought(turn, number)]++
		}
		once := countIf(told, func(often int) bool { return often == 1 })
		wantNumber(t, "the places told once", turn, once, turn.Size)
	}
}

func TestPromise48TheFirstNoughtAndTheLastOne(t *testing.T) {
	for _, turn := range allTurns() {
		letters := plainLetters(turn)[:turn.Size]
		wantNought(t, turn, 0, -1)
		wantNought(t, turn, 1, 0)
		wantNought(t, turn, turn.Size-turn.Step, strings.LastIndex(letters, "0"))
		wantNought(t, turn, turn.Size-turn.Step+1, -1)
		wantNought(t, turn, turn.Size, -1)
	}
}

func TestPromise48OneOneAndOneNought(t *testing.T) {
	ones, others := stepsOfOne()
	for place, turn := range ones {
		for number := 1; number < turn.Size; number++ {
			wantNought(t, turn, number, number-1)
		}
		wantNought(t, turn, 0, -1)
		wantNought(t, turn, turn.Size, -1)
		wantNought(t, others[place], 0, -1)
		wantNought(t, others[place], 1, 0)
		wantNought(t, others[place], 2, -1)
	}
}

func TestPromise48StepsOfTwo(t *testing.T) {
	for _, turn := range stepsOfTwo() {
		for number := 1; number <= turn.Size-2; number++ {
			want := number - 1
			if want >= turn.Size/2 {
				// The first 1 is gone over.
				want++
			}
			wantNought(t, turn, number, want)
		}
		wantNought(t, turn, turn.Size-1, -1)
	}
}

func TestPromise48KnownPlaces(t *testing.T) {
	for number, want := range []int{-1, 0, 2, 4, 7, 9, -1} {
		wantNought(t, fifths, number, want)
	}
	for number, want := range []int{-1, 0, 2, 5, 7, 10, 13, 15} {
		wantNought(t, golden, number, want)
	}
	wantNought(t, golden, 20, 49)
	wantNought(t, golden, 21, 52)
	wantNought(t, golden, 22, -1)
	wantNought(t, two, 1, 0)
	wantNought(t, two, 2, -1)
}

func TestPromise48BadArguments(t *testing.T) {
	for _, turn := range allTurns() {
		for _, number := range append(outside(turn.Size-turn.Step+1), 0, turn.Size, turn.Size+1) {
			wantNought(t, turn, number, -1)
		}
	}
	for _, turn := range badTurns() {
		for _, number := range []int{-1, 0, 1, 2, 5, turn.Size - turn.Step, turn.Size, math.MaxInt, math.MinInt} {
			wantNought(t, turn, number, -1)
		}
	}
}

func TestPromise49DistancesGoRoundTheCircle(t *testing.T) {
	for _, turn := range allTurns() {
		spaces, short := impl.SpacesOf(turn), plainDown(turn.Size, turn.Step)
		wantSpaces(t, turn, plainSpaces(turn)...)
		wantNumber(t, "the number of distances", turn, len(spaces), turn.Step)
		wantNumber(t, "all distances together", turn, total(spaces), turn.Size)
		between := countIf(spaces, func(space int) bool { return space == short || space == short+1 })
		wantNumber(t, "the distances that may be", turn, between, turn.Step)
	}
}

func TestPromise49DistancesAreLettersOfTheInnerTurn(t *testing.T) {
	for _, turn := range allTurns() {
		if turn.Step < 2 {
			continue
		}
		letters := spaceLetters(impl.SpacesOf(turn), plainDown(turn.Size, turn.Step))
		inner := plainInner(turn)
		wantText(t, "the letters of distances, from behind,", turn, turnedText(letters), plainLetters(inner)[:inner.Size])
		told, _ := impl.InnerTurn(turn)
		wantText(t, "the letters of the inner turn, from behind,", turn, turnedText(impl.CodeOf(told, 0, told.Size)), letters)
		wantHolds(t, "BalancedOk", letters, impl.BalancedOk(letters), true)
	}
}

func TestPromise49DistancesLeadFromOneToOne(t *testing.T) {
	for _, turn := range allTurns() {
		at := -1
		for before, space := range impl.SpacesOf(turn) {
			at += space
			wantOne(t, turn, before+1, at)
		}
		wantNumber(t, "the last 1", turn, at, turn.Size-1)
	}
}

func TestPromise49TheFirstDistance(t *testing.T) {
	for _, turn := range allTurns() {
		// It is from time -1 on, so it is one more than the place of the first 1; and as the first letter is 0, it is the longer one.
		first := strings.Index(plainLetters(turn), "1") + 1
		spaces := impl.SpacesOf(turn)
		wantNumber(t, "the first distance", turn, spaces[0], first)
		wantNumber(t, "the greatest distance", turn, slices.Max(spaces), first)
	}
}

func TestPromise49OneOneAndOneNought(t *testing.T) {
	ones, others := stepsOfOne()
	for place, turn := range ones {
		wantSpaces(t, turn, turn.Size)
		other := others[place]
		want := slices.Repeat([]int{1}, other.Step)
		want[0] = 2
		wantSpaces(t, other, want...)
	}
}

func TestPromise49StepsOfTwo(t *testing.T) {
	for _, turn := range stepsOfTwo() {
		wantSpaces(t, turn, turn.Size/2+1, turn.Size/2)
	}
}

func TestPromise49KnownDistances(t *testing.T) {
	wantSpaces(t, fifths, 2, 2, 2, 1, 2, 2, 1)
	wantSpaces(t, two, 2)
	wantSpaces(t, impl.Turn{Size: 3, Step: 2}, 2, 1)
	wantSpaces(t, sevens, 9, 9, 8, 9, 8, 9, 8)
	wantSpaces(t, impl.Turn{Size: 60, Step: 1}, 60)
	wantSpaces(t, impl.Turn{Size: 13, Step: 8}, 2, 2, 1, 2, 2, 1, 2, 1)
}

func TestPromise49BadTurns(t *testing.T) {
	for _, turn := range badTurns() {
		wantSpaces(t, turn)
	}
}

func TestPromise49DistancesAreNewEachTime(t *testing.T) {
	wantNewLists(t, "SpacesOf", impl.SpacesOf)
}

func TestPromise50TheInnerTurnHasTheNextQuotients(t *testing.T) {
	for _, turn := range allTurns() {
		if turn.Step < 2 {
			continue
		}
		wantInner(t, turn, plainInner(turn), true)
		inner, _ := impl.InnerTurn(turn)
		if !impl.TurnOk(inner) {
			t.Fatalf("InnerTurn of %v is %v, which is no turn", turn, inner)
		}
		wantList(t, "QuotientsOf the inner turn", turn, impl.QuotientsOf(inner), impl.QuotientsOf(turn)[1:])
		wantTold(t, plainQuotients(turn)[1:], inner, true)
	}
}

func TestPromise50OneOneAndOneNought(t *testing.T) {
	ones, others := stepsOfOne()
	for _, turn := range ones {
		wantNoInner(t, turn)
	}
	// Of two points the step that is one less is 1.
	for _, turn := range others[1:] {
		wantInner(t, turn, impl.Turn{Size: turn.Size - 1, Step: 1}, true)
	}
}

func TestPromise50StepsOfTwo(t *testing.T) {
	for _, turn := range stepsOfTwo() {
		wantInner(t, turn, two, true)
	}
}

func TestPromise50KnownTurns(t *testing.T) {
	wantInner(t, fifths, impl.Turn{Size: 7, Step: 5}, true)
	wantInner(t, golden, impl.Turn{Size: 34, Step: 21}, true)
	wantInner(t, impl.Turn{Size: 60, Step: 59}, impl.Turn{Size: 59, Step: 1}, true)
	wantInner(t, impl.Turn{Size: 60, Step: 31}, impl.Turn{Size: 31, Step: 29}, true)
	wantInner(t, sevens, impl.Turn{Size: 7, Step: 4}, true)
	wantInner(t, impl.Turn{Size: 59, Step: 2}, two, true)
	wantInner(t, impl.Turn{Size: 3, Step: 2}, two, true)
	wantNoInner(t, impl.Turn{Size: 3, Step: 1})
	wantNoInner(t, two)
}

func TestPromise50BadTurns(t *testing.T) {
	for _, turn := range badTurns() {
		wantNoInner(t, turn)
	}
}

func TestPromise51FromTurnToTurnOneComesToOneOne(t *testing.T) {
	for _, turn := range allTurns() {
		wantInners(t, turn, plainInners(turn)...)
		turns := impl.InnerTurns(turn)
		wantNumber(t, "the number of inner turns", turn, len(turns), len(impl.QuotientsOf(turn)))
		wantTurn(t, "the first one of InnerTurns", turn, turns[0], turn)
		last := turns[len(turns)-1]
		wantNumber(t, "the last step", turn, last.Step, 1)
		wantNoInner(t, last)
		for place, next := range turns[1:] {
			wantInner(t, turns[place], next, true)
			if next.Size >= turns[place].Size {
				t.Fatalf("InnerTurns of %v is %v", turn, turns)
			}
		}
	}
}

func TestPromise51EachHasTheQuotientsThatAreLeft(t *testing.T) {
	for _, turn := range allTurns() {
		quotients := plainQuotients(turn)
		for place, inner := range impl.InnerTurns(turn) {
			wantTurn(t, "one of InnerTurns", turn, inner, plainTurn(quotients[place:]))
		}
	}
}

func TestPromise51OneOneAndOneNought(t *testing.T) {
	ones, others := stepsOfOne()
	for _, turn := range ones {
		wantInners(t, turn, turn)
	}
	for _, turn := range others[1:] {
		wantInners(t, turn, turn, impl.Turn{Size: turn.Size - 1, Step: 1})
	}
	for _, turn := range stepsOfTwo() {
		wantInners(t, turn, turn, two)
	}
}

func TestPromise51KnownTurns(t *testing.T) {
	wantInners(t, fifths, fifths, impl.Turn{Size: 7, Step: 5}, impl.Turn{Size: 5, Step: 2}, two)
	wantInners(t, golden, golden,
		impl.Turn{Size: 34, Step: 21}, impl.Turn{Size: 21, Step: 13}, impl.Turn{Size: 13, Step: 8}, impl.Turn{Size: 8, Step: 5},
		impl.Turn{Size: 5, Step: 3}, impl.Turn{Size: 3, Step: 2}, two)
	wantInners(t, sevens, sevens, impl.Turn{Size: 7, Step: 4}, impl.Turn{Size: 4, Step: 3}, impl.Turn{Size: 3, Step: 1})
	wantInners(t, two, two)
}

func TestPromise51BadTurns(t *testing.T) {
	for _, turn := range badTurns() {
		wantInners(t, turn)
	}
}

func TestPromise51TurnsAreNewEachTime(t *testing.T) {
	for _, turn := range allTurns() {
		want := plainInners(turn)
		first, second := impl.InnerTurns(turn), impl.InnerTurns(turn)
		clear(first[:cap(first)])
		if !slices.Equal(second, want) {
			t.Fatalf("InnerTurns of %v, the others written over, is %v, want %v", turn, second, want)
		}
		wantInners(t, turn, want...)
	}
}
