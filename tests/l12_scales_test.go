package tests

import (
	"math"
	"slices"
	"strings"
	"testing"

	"loop.example/roundturns/impl"
)

// plainScale tells whether the walked points that are nearest to 0 come in as many steps as there are points.
func plainScale(turn impl.Turn, many int) bool {
	above, below := plainNear(turn, many)
	return above+below == many
}

// plainScales are all numbers of points of a turn that are scales.
func plainScales(turn impl.Turn) []int {
	var scales []int
	for many := 2; many <= turn.Size; many++ {
		if plainScale(turn, many) {
			scales = append(scales, many)
		}
	}
	return scales
}

// eachScale calls for each scale of each turn.
func eachScale(call func(turn impl.Turn, many int)) {
	for _, turn := range allTurns() {
		for _, many := range plainScales(turn) {
			call(turn, many)
		}
	}
}

// eachOpenScale calls for each scale that has not all points.
func eachOpenScale(call func(turn impl.Turn, many int)) {
	eachScale(func(turn impl.Turn, many int) {
		if many < turn.Size {
			call(turn, many)
		}
	})
}

// plainKinds are the least and the greatest gap that were found by going up.
func plainKinds(turn impl.Turn, many int) (int, int) {
	gaps := plainGaps(turn, many)
	return slices.Min(gaps), slices.Max(gaps)
}

// plainSpans tells for each number of gaps, from 1 up to that of the points, how far it is from any point over so many of them.
func plainSpans(turn impl.Turn, many int) [][]int {
	sorted := sortedWalk(turn, many)
	spans := make([][]int, many)
	for span := range spans {
		there := make([]bool, turn.Size+1)
		for place, point := range sorted {
			far := sorted[(place+span+1)%many] - point
			if far <= 0 {
				far += turn.Size
			}
			there[far] = true
		}
		for far, here := range there {
			if here {
				spans[span] = append(spans[span], far)
			}
		}
	}
	return spans
}

// plainPattern puts a letter for each gap that was found by going up.
func plainPattern(turn impl.Turn, many int) string {
	least, _ := plainKinds(turn, many)
	pattern := ""
	for _, gap := range plainGaps(turn, many) {
		if gap == least {
			pattern += "0"
		} else {
			pattern += "1"
		}
	}
	return pattern
}

// roundOnes tells how many ones the parts of so many letters of a word have that goes on from its end to its beginning: the fewest and the most.
func roundOnes(word string, long int) (int, int) {
	twice := word + word
	ones := plainOnes(twice[:long])
	fewest, most := ones, ones
	for from := range word {
		ones += plainOnes(twice[from+long:from+long+1]) - plainOnes(twice[from:from+1])
		fewest, most = min(fewest, ones), max(most, ones)
	}
	return fewest, most
}

func wantScale(t *testing.T, turn impl.Turn, many int, want bool) {
	t.Helper()
	if got := impl.ScaleOk(turn, many); got != want {
		t.Fatalf("ScaleOk of %d points of %v is %v, want %v", many, turn, got, want)
	}
}

func wantScales(t *testing.T, turn impl.Turn, want ...int) {
	t.Helper()
	wantList(t, "ScaleSizes", turn, impl.ScaleSizes(turn), want)
}

func wantSizes(t *testing.T, turn impl.Turn, many int, span int, want ...int) {
	t.Helper()
	if got := impl.SizesOf(turn, many, span); !slices.Equal(got, want) {
		t.Fatalf("SizesOf of %v, %d points, %d gaps, is %v, want %v", turn, many, span, got, want)
	}
}

func wantPattern(t *testing.T, turn impl.Turn, many int, want string) {
	t.Helper()
	if got := impl.PatternOf(turn, many); got != want {
		t.Fatalf("PatternOf of %d points of %v is %q, want %q", many, turn, got, want)
	}
}

func TestPromise71ScalesAreToldByTwoTimes(t *testing.T) {
	eachMany(2, func(turn impl.Turn, many int) {
		wantScale(t, turn, many, plainScale(turn, many))
	})
}

func TestPromise71TwoKindsAtMost(t *testing.T) {
	eachMany(2, func(turn impl.Turn, many int) {
		if !impl.ScaleOk(turn, many) {
			return
		}
		want := 2
		if many == turn.Size {
			want = 1
		}
		wantNumber(t, "the number of kinds", turn, len(impl.KindsOf(turn, many)), want)
	})
}

func TestPromise71TimesTellHowOftenAKindIs(t *testing.T) {
	eachOpenScale(func(turn impl.Turn, many int) {
		wantScale(t, turn, many, true)
		above, below := plainNear(turn, many)
		up, down := plainDistances(turn, many)
		wantNumber(t, "GapsLong of the distance above", turn, impl.GapsLong(turn, many, up), below)
		wantNumber(t, "GapsLong of the distance below", turn, impl.GapsLong(turn, many, down), above)
		wantNumber(t, "GapsLong of the distance above", turn, impl.GapsLong(turn, many, up), many-above)
		wantNumber(t, "GapsLong of the distance below", turn, impl.GapsLong(turn, many, down), many-below)
		wantNumber(t, "GapsLong of both together", turn, impl.GapsLong(turn, many, up+down), 0)
		wantList(t, "GapsBy", turn, impl.GapsBy(turn, many), []int{up, below, down, above, up + down, 0})
	})
}

func TestPromise71ThreeKindsAreNoScale(t *testing.T) {
	eachMany(2, func(turn impl.Turn, many int) {
		if len(impl.KindsOf(turn, many)) == 3 {
			wantScale(t, turn, many, false)
		}
	})
}

func TestPromise71TwoKindsMayBeNoScale(t *testing.T) {
	for _, turn := range allTurns() {
		scales := plainScales(turn)
		// Behind the last scale but one the nearest points on both sides are 1 away, and gaps of 2 are parted one by one.
		for many := turn.Size - 1; many > 1 && many > scales[max(0, len(scales)-2)]; many-- {
			wantScale(t, turn, many, false)
			wantList(t, "KindsOf", turn, impl.KindsOf(turn, many), []int{1, 2})
		}
	}
	wantList(t, "KindsOf", fifths, impl.KindsOf(fifths, 8), []int{1, 2})
	wantScale(t, fifths, 8, false)
}

func TestPromise71TheEnds(t *testing.T) {
	for _, turn := range allTurns() {
		wantScale(t, turn, 0, false)
		wantScale(t, turn, 1, false)
		wantScale(t, turn, 2, true)
		wantScale(t, turn, 3, turn.Size > 2)
		wantScale(t, turn, turn.Size, true)
		wantScale(t, turn, turn.Size+1, false)
		if turn.Size > 2 {
			// Of all points but one there is just one gap of 2, so all others are steps.
			wantScale(t, turn, turn.Size-1, turn.Step == 1 || turn.Step == turn.Size-1)
		}
	}
}

func TestPromise71StepsOfOne(t *testing.T) {
	ones, others := stepsOfOne()
	for place, turn := range ones {
		for many := 2; many <= turn.Size; many++ {
			wantScale(t, turn, many, true)
			wantScale(t, others[place], many, true)
			if many < turn.Size {
				wantNumber(t, "GapsLong of 1", turn, impl.GapsLong(turn, many, 1), many-1)
				wantNumber(t, "GapsLong of the rest", turn, impl.GapsLong(turn, many, turn.Size-many+1), 1)
			}
		}
	}
}

func TestPromise71KnownScales(t *testing.T) {
	for many, want := range []bool{false, false, true, true, false, true, false, true, false, false, false, false, true, false} {
		wantScale(t, fifths, many, want)
		wantScale(t, impl.BackTurn(fifths), many, want)
	}
	for many, want := range map[int]bool{9: true, 10: false, 16: false, 17: true, 18: false, 26: true, 43: true, 59: false, 60: true} {
		wantScale(t, sevens, many, want)
	}
	for many, want := range map[int]bool{4: false, 8: true, 20: false, 21: true, 33: false, 34: true, 54: false, 55: true} {
		wantScale(t, golden, many, want)
	}
}

func TestPromise71BadArguments(t *testing.T) {
	eachBadPair(2, func(turn impl.Turn, many int) {
		wantScale(t, turn, many, false)
	})
	// It is what both times are together that are told of such a number.
	for _, turn := range append(badTurns(), allTurns()...) {
		wantScale(t, turn, -2, false)
	}
}

func TestPromise72AllScales(t *testing.T) {
	for _, turn := range allTurns() {
		wantScales(t, turn, plainScales(turn)...)
	}
}

func TestPromise72ScalesComeByTheRule(t *testing.T) {
	for _, turn := range allTurns() {
		var sums []int
		for _, row := range impl.NearRule(turn) {
			sums = append(sums, row[0]+row[2])
		}
		wantScales(t, turn, sums...)
	}
}

func TestPromise72ScalesAreInOrder(t *testing.T) {
	for _, turn := range allTurns() {
		scales := impl.ScaleSizes(turn)
		wantNumber(t, "the first scale", turn, scales[0], 2)
		wantNumber(t, "the last scale", turn, scales[len(scales)-1], turn.Size)
		for place, many := range scales[1:] {
			if many <= scales[place] {
				t.Fatalf("ScaleSizes of %v is %v, which does not go up", turn, scales)
			}
		}
		wantScales(t, impl.BackTurn(turn), scales...)
	}
}

func TestPromise72ScalesAreJustThose(t *testing.T) {
	for _, turn := range allTurns() {
		scales := impl.ScaleSizes(turn)
		for many := -1; many <= turn.Size+1; many++ {
			wantScale(t, turn, many, slices.Contains(scales, many))
		}
	}
}

func TestPromise72StepsOfOne(t *testing.T) {
	ones, others := stepsOfOne()
	for place, turn := range ones {
		wantScales(t, turn, upTo(turn.Size)[1:]...)
		wantScales(t, others[place], upTo(turn.Size)[1:]...)
	}
}

func TestPromise72KnownScales(t *testing.T) {
	wantScales(t, two, 2)
	wantScales(t, impl.Turn{Size: 3, Step: 2}, 2, 3)
	wantScales(t, fifths, 2, 3, 5, 7, 12)
	wantScales(t, impl.Turn{Size: 12, Step: 5}, 2, 3, 5, 7, 12)
	wantScales(t, impl.Turn{Size: 53, Step: 31}, 2, 3, 5, 7, 12, 17, 29, 41, 53)
	wantScales(t, golden, 2, 3, 5, 8, 13, 21, 34, 55)
	wantScales(t, sevens, 2, 3, 4, 5, 6, 7, 8, 9, 17, 26, 43, 60)
	wantScales(t, impl.Turn{Size: 60, Step: 31}, 2, 3, 5, 7, 9, 11, 13, 15, 17, 19, 21, 23, 25, 27, 29, 31, 60)
}

func TestPromise72BadTurns(t *testing.T) {
	for _, turn := range badTurns() {
		wantScales(t, turn)
	}
}

func TestPromise72ScalesAreNewEachTime(t *testing.T) {
	wantNewLists(t, "ScaleSizes", impl.ScaleSizes)
}

func TestPromise73SpansOfAllPoints(t *testing.T) {
	eachMany(1, func(turn impl.Turn, many int) {
		for before, want := range plainSpans(turn, many) {
			wantSizes(t, turn, many, before+1, want...)
		}
	})
}

func TestPromise73InScalesSpansHaveTwoLengths(t *testing.T) {
	eachOpenScale(func(turn impl.Turn, many int) {
		kinds := impl.KindsOf(turn, many)
		for span := 1; span < many; span++ {
			sizes := impl.SizesOf(turn, many, span)
			wantNumber(t, "the number of lengths", turn, len(sizes), 2)
			wantNumber(t, "the difference of the lengths", turn, sizes[1]-sizes[0], kinds[1]-kinds[0])
		}
	})
}

func TestPromise73OneGapAndAllGaps(t *testing.T) {
	eachMany(1, func(turn impl.Turn, many int) {
		wantSizes(t, turn, many, 1, impl.KindsOf(turn, many)...)
		wantSizes(t, turn, many, many, turn.Size)
	})
}

func TestPromise73AllGapsButOne(t *testing.T) {
	eachOpenScale(func(turn impl.Turn, many int) {
		least, greatest := plainKinds(turn, many)
		wantSizes(t, turn, many, 1, least, greatest)
		wantSizes(t, turn, many, many-1, turn.Size-greatest, turn.Size-least)
	})
}

func TestPromise73AllPoints(t *testing.T) {
	for _, turn := range allTurns() {
		wantSizes(t, turn, turn.Size, 0)
		for span := 1; span <= turn.Size; span++ {
			wantSizes(t, turn, turn.Size, span, span)
		}
		wantSizes(t, turn, turn.Size, turn.Size+1)
	}
}

func TestPromise73OnePointAndTwo(t *testing.T) {
	for _, turn := range allTurns() {
		wantSizes(t, turn, 1, 1, turn.Size)
		wantSizes(t, turn, 1, 2)
		if lesser := min(turn.Step, turn.Size-turn.Step); turn.Size > 2 {
			wantSizes(t, turn, 2, 1, lesser, turn.Size-lesser)
		}
		wantSizes(t, turn, 2, 2, turn.Size)
		wantSizes(t, turn, 2, 3)
	}
}

func TestPromise73StepsOfOne(t *testing.T) {
	ones, others := stepsOfOne()
	for place, turn := range ones {
		for many := 2; many < turn.Size; many++ {
			for span := 1; span < many; span++ {
				wantSizes(t, turn, many, span, span, span+turn.Size-many)
				wantSizes(t, others[place], many, span, span, span+turn.Size-many)
			}
		}
	}
}

func TestPromise73KnownSizes(t *testing.T) {
	for before, want := range [][]int{{1, 2}, {3, 4}, {5, 6}, {6, 7}, {8, 9}, {10, 11}, {12}} {
		wantSizes(t, fifths, 7, before+1, want...)
	}
	for before, want := range [][]int{{2, 3}, {4, 5}, {7, 8}, {9, 10}, {12}} {
		wantSizes(t, fifths, 5, before+1, want...)
	}
	for before, want := range [][]int{{9, 22}, {31, 44}, {53}} {
		wantSizes(t, impl.Turn{Size: 53, Step: 31}, 3, before+1, want...)
	}
	wantSizes(t, two, 1, 1, 2)
	wantSizes(t, two, 2, 1, 1)
	wantSizes(t, two, 2, 2, 2)
}

func TestPromise73SpansThatAreOfNoScale(t *testing.T) {
	for before, want := range [][]int{{2, 3, 5}, {5, 7}, {7, 9, 10}, {12}} {
		wantSizes(t, fifths, 4, before+1, want...)
	}
	for before, want := range [][]int{{1, 2}, {2, 3, 4}, {3, 4, 5}, {5, 6, 7}, {7, 8, 9}, {8, 9, 10}, {10, 11}, {12}} {
		wantSizes(t, fifths, 8, before+1, want...)
	}
	wantSizes(t, sevens, 20, 3, 7, 8, 10, 11)
	wantSizes(t, sevens, 59, 2, 2, 3)
	wantSizes(t, golden, 30, 15, 26, 27, 28, 29)
}

func TestPromise73BadArguments(t *testing.T) {
	eachMany(1, func(turn impl.Turn, many int) {
		for _, span := range []int{0, -1, -many, many + 1, turn.Size + 1, math.MaxInt, math.MinInt} {
			wantSizes(t, turn, many, span)
		}
	})
	eachBadPair(1, func(turn impl.Turn, many int) {
		for _, span := range []int{-1, 0, 1, 2, many, math.MaxInt, math.MinInt} {
			wantSizes(t, turn, many, span)
		}
	})
}

func TestPromise73SizesAreNewEachTime(t *testing.T) {
	wantNewLists(t, "SizesOf", func(turn impl.Turn) []int { return impl.SizesOf(turn, turn.Size/2, turn.Size/4) })
	wantNewLists(t, "SizesOf", func(turn impl.Turn) []int { return impl.SizesOf(turn, turn.Size, turn.Size) })
}

func TestPromise74PatternsOfScales(t *testing.T) {
	eachScale(func(turn impl.Turn, many int) {
		wantPattern(t, turn, many, plainPattern(turn, many))
	})
}

func TestPromise74OthersHaveNoPattern(t *testing.T) {
	eachMany(1, func(turn impl.Turn, many int) {
		if many == 1 || !plainScale(turn, many) {
			wantPattern(t, turn, many, "")
		}
	})
}

func TestPromise74TwiceTheyAreBalanced(t *testing.T) {
	eachScale(func(turn impl.Turn, many int) {
		pattern := impl.PatternOf(turn, many)
		wantNumber(t, "the number of letters", turn, len(pattern), many)
		// A longer one is no word.
		twice := strings.Repeat(pattern, 2)
		wantHolds(t, "BalancedOk", twice, impl.BalancedOk(twice), 2*many <= impl.MaxSize)
		for long := range pattern {
			if fewest, most := roundOnes(pattern, long); most > fewest+1 {
				t.Fatalf("parts of %q of %d letters have %d to %d ones", pattern, long, fewest, most)
			}
		}
	})
}

func TestPromise74OnesAreGreaterGaps(t *testing.T) {
	eachScale(func(turn impl.Turn, many int) {
		want := impl.GapsLong(turn, many, impl.GreatestGap(turn, many))
		if many == turn.Size {
			want = 0
		}
		pattern := impl.PatternOf(turn, many)
		wantNumber(t, "the number of ones", turn, plainOnes(pattern), want)
		least, greatest := plainKinds(turn, many)
		wantNumber(t, "all gaps together", turn, many*least+want*(greatest-least), turn.Size)
	})
}

func TestPromise74TheOtherWayRoundFromBehind(t *testing.T) {
	eachScale(func(turn impl.Turn, many int) {
		wantPattern(t, impl.BackTurn(turn), many, turnedText(impl.PatternOf(turn, many)))
	})
}

func TestPromise74TheEnds(t *testing.T) {
	for _, turn := range allTurns() {
		wantPattern(t, turn, 0, "")
		wantPattern(t, turn, 1, "")
		wantPattern(t, turn, turn.Size, strings.Repeat("0", turn.Size))
		wantPattern(t, turn, turn.Size+1, "")
	}
	wantPattern(t, two, 2, "00")
	wantPattern(t, impl.Turn{Size: 3, Step: 1}, 3, "000")
	wantPattern(t, impl.Turn{Size: 3, Step: 2}, 3, "000")
}

func TestPromise74TwoPointsAndThree(t *testing.T) {
	for _, turn := range allTurns() {
		if turn.Size < 4 || turn.Step > turn.Size-turn.Step {
			continue
		}
		three := "001"
		if turn.Step > turn.Size-2*turn.Step {
			three = "110"
		}
		wantPattern(t, turn, 2, "01")
		wantPattern(t, turn, 3, three)
		wantPattern(t, impl.BackTurn(turn), 2, "10")
		wantPattern(t, impl.BackTurn(turn), 3, turnedText(three))
	}
}

func TestPromise74StepsOfOne(t *testing.T) {
	ones, others := stepsOfOne()
	for place, turn := range ones {
		for many := 2; many < turn.Size; many++ {
			wantPattern(t, turn, many, strings.Repeat("0", many-1)+"1")
			wantPattern(t, others[place], many, "1"+strings.Repeat("0", many-1))
		}
	}
}

func TestPromise74KnownPatterns(t *testing.T) {
	for many, want := range []string{"", "", "10", "011", "", "00101", "", "1110110", "", "", "", "", "000000000000", ""} {
		wantPattern(t, fifths, many, want)
	}
	for many, want := range map[int]string{3: "011", 4: "", 8: "01011011", 13: "1101101011010", 21: "010110101101101011011", 34: "1101101011011010110101101101011010"} {
		wantPattern(t, golden, many, want)
	}
	for many, want := range map[int]string{2: "01", 3: "001", 8: "00000001", 10: ""} {
		wantPattern(t, sevens, many, want)
	}
	wantPattern(t, impl.Turn{Size: 53, Step: 31}, 12, "101010010100")
	wantPattern(t, impl.Turn{Size: 60, Step: 29}, 7, "1001000")
	wantPattern(t, impl.Turn{Size: 60, Step: 31}, 7, "0001001")
}

func TestPromise74BadArguments(t *testing.T) {
	eachBadPair(2, func(turn impl.Turn, many int) {
		wantPattern(t, turn, many, "")
	})
	for _, turn := range append(badTurns(), allTurns()...) {
		wantPattern(t, turn, -2, "")
	}
}

func TestPromise75EachScalePartsTheGreaterGaps(t *testing.T) {
	for _, turn := range allTurns() {
		scales := impl.ScaleSizes(turn)
		for place, next := range scales[1:] {
			many := scales[place]
			kinds := impl.KindsOf(turn, many)
			wantNumber(t, "the points more of the next scale", turn, next-many, impl.GapsLong(turn, many, kinds[1]))
			wantNumber(t, "the least gap of the next scale", turn, impl.LeastGap(turn, next), min(impl.LeastGap(turn, many), kinds[1]-kinds[0]))
		}
	}
}

func TestPromise75ScalesAreFoundByParting(t *testing.T) {
	for _, turn := range allTurns() {
		// Both kinds alone tell all scales: each greater gap becomes a lesser one and what is left.
		gaps := map[int]int{turn.Step: 1, turn.Size - turn.Step: 1}
		many := 2
		parted := []int{2}
		for len(gaps) == 2 {
			lesser, greater := turn.Size, 0
			for gap := range gaps {
				lesser, greater = min(lesser, gap), max(greater, gap)
			}
			often := gaps[greater]
			delete(gaps, greater)
			gaps[lesser] += often
			gaps[greater-lesser] += often
			many += often
			parted = append(parted, many)
			wantNumber(t, "the least gap", turn, impl.LeastGap(turn, many), min(lesser, greater-lesser))
		}
		wantScales(t, turn, parted...)
	}
}

func TestPromise75BetweenScalesGapsArePartedOneByOne(t *testing.T) {
	eachOpenScale(func(turn impl.Turn, many int) {
		lesser, greater := plainKinds(turn, many)
		often := impl.GapsLong(turn, many, greater)
		for more := 1; more <= often; more++ {
			// If both parts of it are of another length, one greater gap less is left with each point.
			wantNumber(t, "the greater gaps that are left", turn, impl.GapsLong(turn, many+more, greater), often-more)
			wantNumber(t, "the least gap", turn, impl.LeastGap(turn, many+more), min(lesser, greater-lesser))
			wantScale(t, turn, many+more, more == often)
		}
	})
}

func TestPromise75StepsOfOne(t *testing.T) {
	ones, others := stepsOfOne()
	for place, turn := range ones {
		for _, way := range []impl.Turn{turn, others[place]} {
			for many := 2; many < turn.Size; many++ {
				wantNumber(t, "the greater gaps", way, impl.GapsLong(way, many, turn.Size-many+1), 1)
				wantNumber(t, "the least gap", way, impl.LeastGap(way, many+1), 1)
			}
			wantScales(t, way, upTo(turn.Size)[1:]...)
		}
	}
}

func TestPromise75KnownScales(t *testing.T) {
	rows := [][]int{{2, 1, 5}, {3, 2, 2}, {5, 2, 2}, {7, 5, 1}, {12, 12, 1}}
	for place, row := range rows {
		many, often, least := row[0], row[1], row[2]
		wantNumber(t, "the greatest gaps", fifths, impl.GapsLong(fifths, many, impl.GreatestGap(fifths, many)), often)
		wantNumber(t, "the least gap", fifths, impl.LeastGap(fifths, many), least)
		if many < 12 {
			wantNumber(t, "the next scale", fifths, impl.ScaleSizes(fifths)[place+1], many+often)
		}
	}
	wantNumber(t, "the greater gaps", sevens, impl.GapsLong(sevens, 9, 7), 8)
	wantNumber(t, "the next scale", sevens, impl.ScaleSizes(sevens)[8], 17)
	wantNumber(t, "the least gap", sevens, impl.LeastGap(sevens, 17), 3)
}

func TestPromise75BadTurns(t *testing.T) {
	for _, turn := range badTurns() {
		wantScales(t, turn)
		for _, many := range []int{-1, 0, 1, 2, 3, turn.Size} {
			wantList(t, "KindsOf", turn, impl.KindsOf(turn, many), nil)
			wantNumber(t, "LeastGap", turn, impl.LeastGap(turn, many), -1)
			wantNumber(t, "GapsLong", turn, impl.GapsLong(turn, many, 1), -1)
		}
	}
}
