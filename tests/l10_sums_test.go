package tests

import (
	"math"
	"testing"

	"loop.example/roundturns/impl"
)

// plainDivisions are the divisions of the first so many numbers: from number to number what times is added to what is left, and what divides is taken away as long as it can be.
func plainDivisions(many int, by int, times int, more int) []int {
	divisions := make([]int, many)
	left, down := more, 0
	for number := range divisions {
		for left >= by {
			left -= by
			down++
		}
		divisions[number] = down
		left += times
	}
	return divisions
}

// plainPairs counts the pairs one by one, column by column.
func plainPairs(many int, by int, times int, more int) int {
	pairs := 0
	for number := range many {
		for other := 1; other*by <= number*times+more; other++ {
			pairs++
		}
	}
	return pairs
}

// plainSaw adds the products over walked points, time 0 left out.
func plainSaw(turn impl.Turn) int {
	saw := 0
	for time, point := range walk(turn) {
		if time > 0 {
			saw += (time + time - turn.Size) * (point + point - turn.Size)
		}
	}
	return saw
}

// plainTriangle is the sum of all numbers less than so many.
func plainTriangle(many int) int {
	sum := 0
	for number := range many {
		sum += number
	}
	return sum
}

// eachSum calls with arguments of sums: all small ones, and those at both ends and in the middle of what may be.
func eachSum(call func(many int, by int, times int, more int)) {
	numbers := append([]int{0}, upTo(9)...)
	eachOf(numbers, call)
	eachOf([]int{0, 1, 2, 59, 60, 61, 100, 199, impl.MaxSum}, call)
}

// eachOf calls with all arguments of sums that are among some numbers.
func eachOf(numbers []int, call func(many int, by int, times int, more int)) {
	for _, many := range numbers {
		for _, by := range numbers {
			for _, times := range numbers {
				for _, more := range numbers {
					if by > 0 {
						call(many, by, times, more)
					}
				}
			}
		}
	}
}

// eachBadSum calls with arguments of which one, two, or more are out of their bounds.
func eachBadSum(call func(many int, by int, times int, more int)) {
	bad := []int{-1, -impl.MaxSum, impl.MaxSum + 1, 2 * impl.MaxSum, math.MaxInt, math.MinInt}
	good := []int{1, 3, impl.MaxSum}
	for _, number := range bad {
		for _, a := range good {
			for _, b := range good {
				call(number, a, b, 0)
				call(number, a, b, b)
				call(0, number, a, b)
				call(a, number, b, 0)
				call(0, a, number, b)
				call(a, b, number, 0)
				call(0, a, b, number)
				call(a, b, 0, number)
			}
			call(number, 0, a, a)
			call(number, number, a, a)
			call(a, a, number, number)
		}
		call(number, number, number, number)
	}
	for _, a := range []int{0, 1, 3, impl.MaxSum} {
		for _, b := range []int{0, 1, 3, impl.MaxSum} {
			call(a, 0, b, a)
			call(a, 0, b, b)
		}
	}
}

// wantThree holds the three roads to a sum against what it is.
func wantThree(t *testing.T, many int, by int, times int, more int, want int) {
	t.Helper()
	wantRoad(t, "SumOneByOne", impl.SumOneByOne, many, by, times, more, want)
	wantRoad(t, "SumByRule", impl.SumByRule, many, by, times, more, want)
	wantRoad(t, "PointsUnder", impl.PointsUnder, many, by, times, more, want)
}

func wantRoad(t *testing.T, what string, road func(int, int, int, int) int, many int, by int, times int, more int, want int) {
	t.Helper()
	if got := road(many, by, times, more); got != want {
		t.Fatalf("%s of %d, %d, %d and %d is %d, want %d", what, many, by, times, more, got, want)
	}
}

// wantSaw holds both sums of products against what they are.
func wantSaw(t *testing.T, turn impl.Turn, want int) {
	t.Helper()
	if got, ok := impl.SawOf(turn); got != want || !ok {
		t.Fatalf("SawOf %v is %d, %v, want %d, true", turn, got, ok, want)
	}
	if got, ok := impl.SawBy(turn); got != want || !ok {
		t.Fatalf("SawBy of %v is %d, %v, want %d, true", turn, got, ok, want)
	}
}

func wantNoSaw(t *testing.T, turn impl.Turn) {
	t.Helper()
	if got, ok := impl.SawOf(turn); got != 0 || ok {
		t.Fatalf("SawOf %v is %d, %v, want 0, false", turn, got, ok)
	}
	if got, ok := impl.SawBy(turn); got != 0 || ok {
		t.Fatalf("SawBy of %v is %d, %v, want 0, false", turn, got, ok)
	}
}

// sawOf is SawOf, of a turn that has it.
func sawOf(t *testing.T, turn impl.Turn) int {
	t.Helper()
	saw, ok := impl.SawOf(turn)
	if !ok {
		t.Fatalf("SawOf %v is %d, false", turn, saw)
	}
	return saw
}

// sawBy is SawBy, of a turn that has it.
func sawBy(t *testing.T, turn impl.Turn) int {
	t.Helper()
	saw, ok := impl.SawBy(turn)
	if !ok {
		t.Fatalf("SawBy of %v is %d, false", turn, saw)
	}
	return saw
}

func TestPromise60ThreeRoadsLeadToOneSum(t *testing.T) {
	eachSum(func(many int, by int, times int, more int) {
		wantThree(t, many, by, times, more, total(plainDivisions(many, by, times, more)))
	})
}

func TestPromise60AllThatDivideAndTimes(t *testing.T) {
	for by := 1; by <= impl.MaxSum; by++ {
		for times := 0; times <= impl.MaxSum; times++ {
			more := (by * times) % (impl.MaxSum + 1)
			for _, many := range []int{7, 31} {
				wantThree(t, many, by, times, more, total(plainDivisions(many, by, times, more)))
			}
		}
	}
}

func TestPromise60TheGreatestNumber(t *testing.T) {
	if impl.MaxSum != 200 {
		t.Fatalf("MaxSum is %d", impl.MaxSum)
	}
}

func TestPromise60SumsOfNoneAndOfOne(t *testing.T) {
	eachSum(func(many int, by int, times int, more int) {
		wantThree(t, 0, by, times, more, 0)
		wantThree(t, 1, by, times, more, plainDown(more, by))
	})
}

func TestPromise60DividedByOne(t *testing.T) {
	eachSum(func(many int, by int, times int, more int) {
		wantThree(t, many, 1, times, more, times*plainTriangle(many)+many*more)
	})
	wantThree(t, impl.MaxSum, 1, impl.MaxSum, impl.MaxSum, 4020000)
}

func TestPromise60DividedByTheGreatest(t *testing.T) {
	greatest := impl.MaxSum
	wantThree(t, 0, greatest, greatest, greatest, 0)
	wantThree(t, greatest, greatest, 0, greatest-1, 0)
	wantThree(t, greatest, greatest, 0, greatest, greatest)
	wantThree(t, greatest, greatest, 1, 0, 0)
	wantThree(t, greatest, greatest, 1, 1, 1)
	wantThree(t, greatest, greatest, 1, greatest-1, greatest-1)
	wantThree(t, greatest, greatest, 1, greatest, greatest)
	wantThree(t, greatest, greatest, greatest-1, 0, 19701)
	wantThree(t, greatest, greatest, greatest, 0, 19900)
	wantThree(t, greatest, greatest, greatest, greatest-1, 19900)
	wantThree(t, greatest, greatest, greatest, greatest, 20100)
}

func TestPromise60NothingTimesAndNothingIsAdded(t *testing.T) {
	eachSum(func(many int, by int, times int, more int) {
		wantThree(t, many, by, 0, more, many*plainDown(more, by))
		wantThree(t, many, by, times, 0, total(plainDivisions(many, by, times, 0)))
		wantThree(t, many, by, 0, 0, 0)
	})
}

func TestPromise60LessThanWhatDividesEqualAndGreater(t *testing.T) {
	for by := 1; by < impl.MaxSum; by++ {
		for _, many := range []int{0, 1, 2, by, by + 1} {
			// From 1 up to what divides the division by it, of as often one less, is one less than the number.
			wantThree(t, many, by, by-1, 0, plainTriangle(max(many-1, 0)))
			wantThree(t, many, by, by, 0, plainTriangle(many))
			wantThree(t, many, by, by, by-1, plainTriangle(many))
			wantThree(t, many, by, by, by, plainTriangle(many)+many)
			wantThree(t, many, by, by, by+1, plainTriangle(many)+many*plainDown(by+1, by))
			wantThree(t, many, by, 0, by-1, 0)
			wantThree(t, many, by, 0, by, many)
		}
		wantThree(t, by, by, by+1, 0, plainTriangle(by))
		wantThree(t, by+1, by, by+1, 0, plainTriangle(by+1)+1)
	}
}

func TestPromise60KnownSums(t *testing.T) {
	wantThree(t, 5, 3, 2, 1, 7)
	wantThree(t, 5, 3, 2, 0, 5)
	wantThree(t, 4, 10, 6, 3, 3)
	wantThree(t, 6, 4, 9, 11, 48)
	wantThree(t, 7, 7, 3, 0, 6)
	wantThree(t, 8, 6, 4, 5, 21)
	wantThree(t, 3, 4, 2, 2, 2)
}

func TestPromise60BadArguments(t *testing.T) {
	eachBadSum(func(many int, by int, times int, more int) {
		wantThree(t, many, by, times, more, -1)
	})
}

func TestPromise61BothTrianglesMakeTheField(t *testing.T) {
	for by := 1; by <= impl.MaxSum; by++ {
		for times := 1; times <= impl.MaxSum; times++ {
			if plainDivisor(by, times) == 1 {
				wantThree(t, by, by, times, 0, (by-1)*(times-1)/2)
			}
		}
	}
}

func TestPromise61BothTrianglesOnEitherSide(t *testing.T) {
	for by := 1; by <= impl.MaxSum; by++ {
		for times := 1; times <= impl.MaxSum; times++ {
			if plainDivisor(by, times) == 1 {
				both := impl.SumByRule(by, by, times, 0) + impl.SumByRule(times, times, by, 0)
				if both != (by-1)*(times-1) {
					t.Fatalf("both triangles of %d and %d are %d", by, times, both)
				}
			}
		}
	}
}

func TestPromise61ACommonDivisorAddsHalfOfOneLess(t *testing.T) {
	// On the line between both triangles there are as many points as the common divisor less 1, and they are in both.
	for by := 1; by <= 60; by++ {
		for times := 1; times <= 60; times++ {
			wantThree(t, by, by, times, 0, ((by-1)*(times-1)+plainDivisor(by, times)-1)/2)
		}
	}
	wantThree(t, 2, 2, 2, 0, 1)
	wantThree(t, 6, 6, 4, 0, 8)
	wantThree(t, impl.MaxSum, impl.MaxSum, impl.MaxSum, 0, 19900)
	wantThree(t, impl.MaxSum, impl.MaxSum, 100, 0, 9900)
}

func TestPromise61NothingTimesAndOneTimes(t *testing.T) {
	// Of nothing just 1 is without a common divisor.
	wantThree(t, 1, 1, 0, 0, 0)
	for by := 1; by <= impl.MaxSum; by++ {
		wantThree(t, by, by, 1, 0, 0)
		wantThree(t, 1, 1, by, 0, 0)
		wantThree(t, by, by, 0, 0, 0)
	}
}

func TestPromise61WithWhatDividesAdded(t *testing.T) {
	eachSum(func(many int, by int, times int, more int) {
		if more+by > impl.MaxSum {
			wantThree(t, many, by, times, more+by, -1)
			return
		}
		wantThree(t, many, by, times, more+by, impl.SumByRule(many, by, times, more)+many)
	})
}

func TestPromise61WithWhatDividesAddedToWhatTimes(t *testing.T) {
	eachSum(func(many int, by int, times int, more int) {
		if times+by > impl.MaxSum {
			wantThree(t, many, by, times+by, more, -1)
			return
		}
		wantThree(t, many, by, times+by, more, impl.SumByRule(many, by, times, more)+plainTriangle(many))
	})
}

func TestPromise61KnownSums(t *testing.T) {
	wantThree(t, 5, 5, 7, 0, 12)
	wantThree(t, 7, 7, 5, 0, 12)
	wantThree(t, 12, 12, 7, 0, 33)
	wantThree(t, 12, 12, 7, 12, 45)
	wantThree(t, impl.MaxSum, impl.MaxSum, 199, 0, 19701)
	wantThree(t, 199, 199, impl.MaxSum, 0, 19701)
	wantThree(t, 100, 100, 1, 100, 100)
	wantThree(t, 100, 100, 1, 101, 101)
}

func TestPromise61BadArguments(t *testing.T) {
	eachBadSum(func(many int, by int, times int, more int) {
		wantRoad(t, "SumByRule", impl.SumByRule, many, by, times, more, -1)
	})
}

func TestPromise62PointsAreCountedColumnByColumn(t *testing.T) {
	eachOf(append([]int{0}, upTo(9)...), func(many int, by int, times int, more int) {
		wantRoad(t, "PointsUnder", impl.PointsUnder, many, by, times, more, plainPairs(many, by, times, more))
	})
	for many := range impl.MaxSum + 1 {
		wantRoad(t, "PointsUnder", impl.PointsUnder, many, 12, 7, 5, plainPairs(many, 12, 7, 5))
		wantRoad(t, "PointsUnder", impl.PointsUnder, many, 7, 12, 60, plainPairs(many, 7, 12, 60))
	}
}

func TestPromise62WithOneNumberMore(t *testing.T) {
	eachSum(func(many int, by int, times int, more int) {
		if many == impl.MaxSum {
			wantThree(t, many+1, by, times, more, -1)
			return
		}
		division := plainDivisions(many+1, by, times, more)[many]
		wantThree(t, many+1, by, times, more, impl.PointsUnder(many, by, times, more)+division)
	})
}

func TestPromise62OfNoneThereAreNone(t *testing.T) {
	for by := 1; by <= impl.MaxSum; by++ {
		for _, number := range []int{0, 1, by, impl.MaxSum} {
			wantThree(t, 0, by, number, impl.MaxSum, 0)
			wantThree(t, 0, by, impl.MaxSum, number, 0)
			wantThree(t, 0, by, number, 0, 0)
			wantThree(t, 0, by, 0, number, 0)
		}
	}
}

func TestPromise62PointsOnTheLineAreCounted(t *testing.T) {
	wantThree(t, 2, 2, 2, 0, 1)
	wantThree(t, 2, 2, 1, 0, 0)
	wantThree(t, 3, 2, 1, 0, 1)
	wantThree(t, 1, 5, 0, 5, 1)
	wantThree(t, 1, 5, 0, 4, 0)
	wantThree(t, 4, 3, 1, 0, 1)
	wantThree(t, 4, 3, 1, 3, 5)
}

func TestPromise62TheLastNumber(t *testing.T) {
	greatest := impl.MaxSum
	for _, by := range []int{1, 2, 7, 100, greatest} {
		for _, times := range []int{0, 1, 7, greatest} {
			divisions := plainDivisions(greatest, by, times, 5)
			wantThree(t, greatest-1, by, times, 5, total(divisions[:greatest-1]))
			wantThree(t, greatest, by, times, 5, total(divisions))
			wantThree(t, greatest+1, by, times, 5, -1)
		}
	}
}

func TestPromise62BadArguments(t *testing.T) {
	eachBadSum(func(many int, by int, times int, more int) {
		wantRoad(t, "PointsUnder", impl.PointsUnder, many, by, times, more, -1)
	})
}

func TestPromise63SumsOfProducts(t *testing.T) {
	for _, turn := range allTurns() {
		wantSaw(t, turn, plainSaw(turn))
	}
}

func TestPromise63OppositeTurnsGoUpAlike(t *testing.T) {
	for _, turn := range allTurns() {
		saw := sawOf(t, turn)
		wantSaw(t, impl.OppositeOf(turn), saw)
		wantSaw(t, impl.BackTurn(turn), -saw)
		wantSaw(t, impl.BackTurn(impl.OppositeOf(turn)), -saw)
	}
}

func TestPromise63BackwardsAndOppositeAtOnce(t *testing.T) {
	found := 0
	for _, turn := range allTurns() {
		if turn.Step*turn.Step%turn.Size == turn.Size-1 {
			wantSaw(t, turn, 0)
			found++
		}
	}
	if found == 0 {
		t.Fatal("no turn is the opposite of the one the other way")
	}
}

func TestPromise63StepsOfOne(t *testing.T) {
	ones, others := stepsOfOne()
	for place, turn := range ones {
		squares := 0
		for time := 1; time < turn.Size; time++ {
			squares += (2*time - turn.Size) * (2*time - turn.Size)
		}
		wantSaw(t, turn, squares)
		wantSaw(t, others[place], -squares)
	}
}

func TestPromise63KnownSums(t *testing.T) {
	wantSaw(t, two, 0)
	wantSaw(t, impl.Turn{Size: 3, Step: 1}, 2)
	wantSaw(t, impl.Turn{Size: 3, Step: 2}, -2)
	wantSaw(t, impl.Turn{Size: 5, Step: 1}, 20)
	wantSaw(t, impl.Turn{Size: 5, Step: 2}, 0)
	wantSaw(t, impl.Turn{Size: 5, Step: 4}, -20)
	wantSaw(t, impl.Turn{Size: 7, Step: 3}, -14)
	wantSaw(t, fifths, 8)
	wantSaw(t, impl.Turn{Size: 12, Step: 5}, -8)
	wantSaw(t, impl.Turn{Size: 60, Step: 1}, 68440)
	wantSaw(t, impl.Turn{Size: 60, Step: 59}, -68440)
	wantSaw(t, impl.Turn{Size: 50, Step: 7}, 0)
}

func TestPromise63BadTurns(t *testing.T) {
	for _, turn := range badTurns() {
		wantNoSaw(t, turn)
	}
}

func TestPromise64BothNumbersChangeTheirParts(t *testing.T) {
	for _, turn := range allTurns() {
		inner, ok := impl.InnerTurn(turn)
		if !ok {
			continue
		}
		square, stepSquare, product := turn.Size*turn.Size, turn.Step*turn.Step, turn.Size*turn.Step
		want := product*(square+stepSquare+1) - 3*product*product
		wantNumber(t, "the law of SawOf", turn, 3*stepSquare*sawOf(t, turn)+3*square*sawOf(t, inner), want)
		wantNumber(t, "the law of SawBy", turn, 3*stepSquare*sawBy(t, turn)+3*square*sawBy(t, inner), want)
	}
}

func TestPromise64EachInnerTurnHasItsSum(t *testing.T) {
	for _, turn := range allTurns() {
		for _, inner := range plainInners(turn) {
			wantSaw(t, inner, plainSaw(inner))
		}
	}
}

func TestPromise64TurnsWithoutAnInnerTurn(t *testing.T) {
	ones, _ := stepsOfOne()
	for _, turn := range ones {
		wantNoInner(t, turn)
		wantNumber(t, "three times SawBy", turn, 3*sawBy(t, turn), turn.Size*(turn.Size-1)*(turn.Size-2))
	}
}

func TestPromise64StepsOfTwo(t *testing.T) {
	for _, turn := range stepsOfTwo() {
		wantNumber(t, "six times SawBy", turn, 6*sawBy(t, turn), turn.Size*(turn.Size-1)*(turn.Size-5))
	}
}

func TestPromise64OneLessThanAll(t *testing.T) {
	_, others := stepsOfOne()
	for _, turn := range others {
		wantNumber(t, "three times SawBy", turn, 3*sawBy(t, turn), -turn.Size*(turn.Size-1)*(turn.Size-2))
	}
}

func TestPromise64ManyInnerTurns(t *testing.T) {
	wantNumber(t, "the inner turns", golden, len(plainInners(golden)), impl.MaxQuotients)
	wantSaw(t, golden, plainSaw(golden))
	wantSaw(t, sevens, plainSaw(sevens))
}

func TestPromise64BadTurns(t *testing.T) {
	for _, turn := range badTurns() {
		if got, ok := impl.SawBy(turn); got != 0 || ok {
			t.Fatalf("SawBy of %v is %d, %v", turn, got, ok)
		}
	}
}

func TestPromise65SumsOfProductsCountTurnedPairs(t *testing.T) {
	for _, turn := range allTurns() {
		size := turn.Size
		pairs := impl.TurnedPairs(impl.FirstPoints(turn, size))
		wantNumber(t, "the turned pairs", turn, pairs, plainTurned(walk(turn)))
		wantNumber(t, "the pairs and SawOf", turn, 4*size*pairs+3*sawOf(t, turn), size*(size-1)*(size-2))
		wantNumber(t, "the pairs and SawBy", turn, 4*size*pairs+3*sawBy(t, turn), size*(size-1)*(size-2))
	}
}

func TestPromise65NoPairAndAllPairs(t *testing.T) {
	ones, others := stepsOfOne()
	for place, turn := range ones {
		wantNumber(t, "the turned pairs", turn, impl.TurnedPairs(impl.FirstPoints(turn, turn.Size)), 0)
		wantNumber(t, "three times SawOf", turn, 3*sawOf(t, turn), turn.Size*(turn.Size-1)*(turn.Size-2))
		other := others[place]
		all := pairsOf(other.Size - 1)
		wantNumber(t, "the turned pairs", other, impl.TurnedPairs(impl.FirstPoints(other, other.Size)), all)
		wantNumber(t, "three times SawOf", other, 3*sawOf(t, other), other.Size*((other.Size-1)*(other.Size-2)-4*all))
	}
}

func TestPromise65KnownPairs(t *testing.T) {
	// 0, 7, 2, 9, 4, 11, 6, 1, 8, 3, 10 and 5 have 27 turned pairs, and 4 times 12 times these lack 24 to 12 times 11 times 10.
	wantNumber(t, "the turned pairs", fifths, impl.TurnedPairs(impl.FirstPoints(fifths, 12)), 27)
	wantSaw(t, fifths, 8)
	wantNumber(t, "the turned pairs", two, impl.TurnedPairs(impl.FirstPoints(two, 2)), 0)
	wantSaw(t, two, 0)
}

func TestPromise65BadTurns(t *testing.T) {
	for _, turn := range badTurns() {
		if got, ok := impl.SawOf(turn); got != 0 || ok {
			t.Fatalf("SawOf %v is %d, %v", turn, got, ok)
		}
	}
}

func TestPromise66OnesAreSummedByTheRule(t *testing.T) {
	for _, turn := range allTurns() {
		sum := 0
		// Numbers of letters are 0..Size, so there are one more of them than letters.
		for many := range turn.Size + 2 {
			wantThree(t, many, turn.Size, turn.Step, 0, sum)
			sum += impl.OnesUpTo(turn, many)
		}
	}
}

func TestPromise66OnesAreSummedLetterByLetter(t *testing.T) {
	for _, turn := range allTurns() {
		letters := plainLetters(turn)
		sum := 0
		for many := range turn.Size + 1 {
			sum += plainOnes(letters[:many])
			wantThree(t, many+1, turn.Size, turn.Step, 0, sum)
		}
	}
}

func TestPromise66SumsOfNoneAndOfAll(t *testing.T) {
	for _, turn := range allTurns() {
		wantThree(t, 0, turn.Size, turn.Step, 0, 0)
		wantThree(t, 1, turn.Size, turn.Step, 0, 0)
		wantThree(t, turn.Size, turn.Size, turn.Step, 0, (turn.Size-1)*(turn.Step-1)/2)
		wantThree(t, turn.Size+1, turn.Size, turn.Step, 0, (turn.Size-1)*(turn.Step-1)/2+turn.Step)
	}
}

func TestPromise66StepsOfOne(t *testing.T) {
	ones, others := stepsOfOne()
	for place, turn := range ones {
		wantThree(t, turn.Size, turn.Size, 1, 0, 0)
		wantThree(t, turn.Size+1, turn.Size, 1, 0, 1)
		other := others[place]
		for many := 1; many <= other.Size+1; many++ {
			wantThree(t, many, other.Size, other.Step, 0, plainTriangle(many-1))
		}
	}
}

func TestPromise66KnownSums(t *testing.T) {
	// The letters are 010101101011.
	for many, want := range []int{0, 0, 0, 1, 2, 4, 6, 9, 13, 17, 22, 27, 33, 40} {
		wantThree(t, many, 12, 7, 0, want)
	}
	wantThree(t, 3, 2, 1, 0, 1)
}
