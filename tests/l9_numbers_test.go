package tests

import (
	"math"
	"slices"
	"testing"

	"loop.example/roundturns/impl"
)

// plainBasis are the sizes of turns that have the first quotients, from none of them on and without all of them, each once.
func plainBasis(turn impl.Turn) []int {
	quotients := plainQuotients(turn)
	var basis []int
	for many := range quotients {
		size := plainSize(quotients[:many])
		if !slices.Contains(basis, size) {
			basis = append(basis, size)
		}
	}
	return basis
}

// plainDigits takes the numbers of the basis away, from the greatest one down, as long as they can be taken, and counts how often.
func plainDigits(basis []int, number int) []int {
	digits := make([]int, len(basis))
	for place := len(basis) - 1; place >= 0; place-- {
		for number >= basis[place] {
			number -= basis[place]
			digits[place]++
		}
	}
	return digits
}

// allDigits are the digits of all numbers less than Size.
func allDigits(turn impl.Turn) [][]int {
	basis := plainBasis(turn)
	rows := make([][]int, turn.Size)
	for number := range rows {
		rows[number] = plainDigits(basis, number)
	}
	return rows
}

// plainMost is the greatest digit of any number in each place.
func plainMost(turn impl.Turn) []int {
	rows := allDigits(turn)
	most := slices.Clone(rows[0])
	for _, row := range rows {
		for place, digit := range row {
			most[place] = max(most[place], digit)
		}
	}
	return most
}

// plainSum adds each number of a list as often as a digit tells.
func plainSum(numbers []int, digits []int) int {
	sum := 0
	for place, number := range numbers {
		sum += number * digits[place]
	}
	return sum
}

// highestOther is the last place where two rows of equal length differ; -1 if there is none.
func highestOther(row []int, other []int) int {
	for place := len(row) - 1; place >= 0; place-- {
		if row[place] != other[place] {
			return place
		}
	}
	return -1
}

// eachDigits calls with each row of as many digits as there are greatest ones, from one less than 0 up to one more than the greatest one.
func eachDigits(most []int, call func(digits []int)) {
	digits := make([]int, len(most))
	var fill func(place int)
	fill = func(place int) {
		if place == len(most) {
			call(slices.Clone(digits))
			return
		}
		for digit := -1; digit <= most[place]+1; digit++ {
			digits[place] = digit
			fill(place + 1)
		}
	}
	fill(0)
}

// eachNumber calls with each number that each turn there is has digits of, and with these.
func eachNumber(call func(turn impl.Turn, number int, digits []int)) {
	for _, turn := range allTurns() {
		for number, digits := range allDigits(turn) {
			call(turn, number, digits)
		}
	}
}

// notDigits are rows made of digits that are none: one too few or too many, and in each place one that is too great or less than 0.
func notDigits(turn impl.Turn, digits []int) [][]int {
	last := len(digits) - 1
	rows := [][]int{
		nil,
		slices.Clone(digits[:last]),
		slices.Clone(digits[1:]),
		append(slices.Clone(digits), 0),
		append([]int{0}, digits...),
		append(slices.Clone(digits), digits...),
	}
	for place, most := range plainMost(turn) {
		for _, digit := range []int{-1, math.MinInt, most + 1, turn.Size, math.MaxInt} {
			row := slices.Clone(digits)
			row[place] = digit
			rows = append(rows, row)
		}
	}
	return rows
}

// eachNotDigits calls with each turn there is, and rows that are no digits of it, and with turns that are none, and rows that would be digits of others.
func eachNotDigits(call func(turn impl.Turn, digits []int)) {
	for _, turn := range allTurns() {
		rows := allDigits(turn)
		for _, number := range []int{0, 1, turn.Size / 2, turn.Size - 1} {
			for _, digits := range notDigits(turn, rows[number]) {
				call(turn, digits)
			}
		}
	}
	for _, turn := range badTurns() {
		for _, digits := range [][]int{nil, {}, {0}, {1}, {0, 0}, {0, 0, 0}, {1, 0, 2}} {
			call(turn, digits)
		}
	}
}

// halves are the turns whose first two near times are equal, and then those of which they are not: they step over more, or less, than half the circle.
func halves() ([]impl.Turn, []impl.Turn) {
	var equal, others []impl.Turn
	for _, turn := range allTurns() {
		if turn.Size < 2*turn.Step {
			equal = append(equal, turn)
		} else {
			others = append(others, turn)
		}
	}
	return equal, others
}

func wantBasis(t *testing.T, turn impl.Turn, want ...int) {
	t.Helper()
	wantList(t, "BasisOf", turn, impl.BasisOf(turn), want)
}

func wantMost(t *testing.T, turn impl.Turn, want ...int) {
	t.Helper()
	wantList(t, "MostDigits", turn, impl.MostDigits(turn), want)
}

func wantDigits(t *testing.T, turn impl.Turn, number int, want ...int) {
	t.Helper()
	if got := impl.DigitsOf(turn, number); !slices.Equal(got, want) {
		t.Fatalf("DigitsOf %d by %v is %v, want %v", number, turn, got, want)
	}
}

func wantKept(t *testing.T, turn impl.Turn, digits []int, want bool) {
	t.Helper()
	given := slices.Clone(digits)
	if got := impl.DigitsOk(turn, digits); got != want {
		t.Fatalf("DigitsOk of %v by %v is %v, want %v", digits, turn, got, want)
	}
	wantList(t, "the digits given to DigitsOk", turn, digits, given)
}

func wantToldBy(t *testing.T, turn impl.Turn, digits []int, want int) {
	t.Helper()
	given := slices.Clone(digits)
	if got := impl.NumberOf(turn, digits); got != want {
		t.Fatalf("NumberOf %v by %v is %d, want %d", digits, turn, got, want)
	}
	wantList(t, "the digits given to NumberOf", turn, digits, given)
}

func wantNext(t *testing.T, turn impl.Turn, digits []int, want []int, wantOk bool) {
	t.Helper()
	given := slices.Clone(digits)
	if got, ok := impl.NextDigits(turn, digits); !slices.Equal(got, want) || ok != wantOk {
		t.Fatalf("NextDigits of %v by %v is %v, %v, want %v, %v", digits, turn, got, ok, want, wantOk)
	}
	wantList(t, "the digits given to NextDigits", turn, digits, given)
}

func wantNoneNext(t *testing.T, turn impl.Turn, digits []int) {
	t.Helper()
	wantNext(t, turn, digits, nil, false)
}

func wantDigitSum(t *testing.T, turn impl.Turn, number int, want int) {
	t.Helper()
	if got := impl.DigitSum(turn, number); got != want {
		t.Fatalf("DigitSum of %d by %v is %d, want %d", number, turn, got, want)
	}
}

func TestPromise52TheBasisBeginsWithOne(t *testing.T) {
	for _, turn := range allTurns() {
		basis := impl.BasisOf(turn)
		wantBasis(t, turn, plainBasis(turn)...)
		wantNumber(t, "the first number of the basis", turn, basis[0], 1)
		for place, number := range basis[1:] {
			if number <= basis[place] {
				t.Fatalf("BasisOf %v is %v", turn, basis)
			}
		}
		if last := basis[len(basis)-1]; last >= turn.Size {
			t.Fatalf("the last number of BasisOf %v is %d", turn, last)
		}
	}
}

func TestPromise52EachNumberIsARecord(t *testing.T) {
	for _, turn := range allTurns() {
		plain := append(plainAbove(turn), plainBelow(turn)...)
		told := append(impl.RecordsAbove(turn), impl.RecordsBelow(turn)...)
		for _, number := range impl.BasisOf(turn) {
			if !slices.Contains(plain, number) || !slices.Contains(told, number) {
				t.Fatalf("%d, of BasisOf %v, is no record", number, turn)
			}
		}
	}
}

func TestPromise52FirstNearTimesThatAreEqualAndThoseThatAreNot(t *testing.T) {
	equal, others := halves()
	for _, turn := range equal {
		times := impl.NearTimes(turn)
		wantNumber(t, "the second near time", turn, times[1], times[0])
		wantBasis(t, turn, times[1:len(times)-1]...)
	}
	for _, turn := range others {
		times := impl.NearTimes(turn)
		if times[0] == times[1] {
			t.Fatalf("NearTimes of %v is %v", turn, times)
		}
		wantBasis(t, turn, times[:len(times)-1]...)
	}
}

func TestPromise52StepsOfOne(t *testing.T) {
	ones, others := stepsOfOne()
	for place, turn := range ones {
		wantBasis(t, turn, 1)
		wantBasis(t, others[place], 1)
	}
}

func TestPromise52KnownNumbers(t *testing.T) {
	wantBasis(t, fifths, 1, 2, 5)
	wantBasis(t, golden, 1, 2, 3, 5, 8, 13, 21)
	wantBasis(t, two, 1)
	wantBasis(t, sevens, 1, 8, 9, 17)
	wantBasis(t, impl.Turn{Size: 60, Step: 53}, 1, 8, 9, 17)
	wantBasis(t, impl.Turn{Size: 7, Step: 3}, 1, 2)
	wantBasis(t, impl.Turn{Size: 59, Step: 2}, 1, 29)
	wantBasis(t, impl.Turn{Size: 59, Step: 57}, 1, 29)
}

func TestPromise52BadTurns(t *testing.T) {
	for _, turn := range badTurns() {
		wantBasis(t, turn)
	}
}

func TestPromise52NumbersAreNewEachTime(t *testing.T) {
	wantNewLists(t, "BasisOf", impl.BasisOf)
}

func TestPromise53TheLastDigitFillsTheCircle(t *testing.T) {
	for _, turn := range allTurns() {
		basis, most := impl.BasisOf(turn), impl.MostDigits(turn)
		wantNumber(t, "the number of greatest digits", turn, len(most), len(basis))
		last := len(basis) - 1
		before := 1
		if last > 0 {
			before = basis[last-1]
		}
		wantNumber(t, "the last digit and the number before", turn, most[last]*basis[last]+before, turn.Size)
	}
}

func TestPromise53GreatestDigitsAreThoseOfNumbers(t *testing.T) {
	for _, turn := range allTurns() {
		wantMost(t, turn, plainMost(turn)...)
	}
}

func TestPromise53EachIsAQuotient(t *testing.T) {
	equal, others := halves()
	for _, turn := range equal {
		wantMost(t, turn, plainQuotients(turn)[1:]...)
	}
	for _, turn := range others {
		want := plainQuotients(turn)
		want[0]--
		wantMost(t, turn, want...)
	}
}

func TestPromise53StepsOfOne(t *testing.T) {
	ones, others := stepsOfOne()
	for place, turn := range ones {
		wantMost(t, turn, turn.Size-1)
		wantMost(t, others[place], turn.Size-1)
	}
}

func TestPromise53KnownDigits(t *testing.T) {
	wantMost(t, fifths, 1, 2, 2)
	wantMost(t, golden, 1, 1, 1, 1, 1, 1, 2)
	wantMost(t, two, 1)
	wantMost(t, sevens, 7, 1, 1, 3)
	wantMost(t, impl.Turn{Size: 60, Step: 53}, 7, 1, 1, 3)
	wantMost(t, impl.Turn{Size: 7, Step: 3}, 1, 3)
	wantMost(t, impl.Turn{Size: 59, Step: 2}, 28, 2)
}

func TestPromise53BadTurns(t *testing.T) {
	for _, turn := range badTurns() {
		wantMost(t, turn)
	}
}

func TestPromise53DigitsAreNewEachTime(t *testing.T) {
	wantNewLists(t, "MostDigits", impl.MostDigits)
}

func TestPromise54EachNumberHasItsDigits(t *testing.T) {
	eachNumber(func(turn impl.Turn, number int, digits []int) {
		wantDigits(t, turn, number, digits...)
		told := impl.DigitsOf(turn, number)
		wantKept(t, turn, told, true)
		wantToldBy(t, turn, told, number)
	})
}

func TestPromise54TheFirstNumberAndTheLastOne(t *testing.T) {
	for _, turn := range allTurns() {
		basis := plainBasis(turn)
		wantDigits(t, turn, -1)
		wantDigits(t, turn, 0, make([]int, len(basis))...)
		wantDigits(t, turn, turn.Size-1, plainDigits(basis, turn.Size-1)...)
		wantDigits(t, turn, turn.Size)
	}
}

func TestPromise54TheGreatestNumberHasEachOtherGreatestDigit(t *testing.T) {
	for _, turn := range allTurns() {
		digits := plainMost(turn)
		// The last one is as great as may be, so the one before is 0, and again from there.
		for place := len(digits) - 2; place >= 0; place -= 2 {
			digits[place] = 0
		}
		wantDigits(t, turn, turn.Size-1, digits...)
	}
}

func TestPromise54StepsOfOne(t *testing.T) {
	ones, others := stepsOfOne()
	for place, turn := range ones {
		for number := range turn.Size {
			wantDigits(t, turn, number, number)
			wantDigits(t, others[place], number, number)
		}
	}
}

func TestPromise54KnownDigits(t *testing.T) {
	rows := [][]int{
		{0, 0, 0}, {1, 0, 0}, {0, 1, 0}, {1, 1, 0}, {0, 2, 0}, {0, 0, 1},
		{1, 0, 1}, {0, 1, 1}, {1, 1, 1}, {0, 2, 1}, {0, 0, 2}, {1, 0, 2},
	}
	for number, digits := range rows {
		wantDigits(t, fifths, number, digits...)
	}
	wantDigits(t, golden, 54, 1, 0, 1, 0, 1, 0, 2)
	wantDigits(t, golden, 33, 1, 0, 1, 0, 1, 0, 1)
	wantDigits(t, golden, 34, 0, 0, 0, 0, 0, 1, 1)
	wantDigits(t, two, 0, 0)
	wantDigits(t, two, 1, 1)
	wantDigits(t, sevens, 7, 7, 0, 0, 0)
	wantDigits(t, sevens, 8, 0, 1, 0, 0)
	wantDigits(t, sevens, 50, 7, 0, 1, 2)
	wantDigits(t, sevens, 59, 0, 1, 0, 3)
	wantDigits(t, sevens, 60)
}

func TestPromise54BadArguments(t *testing.T) {
	for _, turn := range allTurns() {
		for _, number := range outside(turn.Size) {
			wantDigits(t, turn, number)
		}
	}
	for _, turn := range badTurns() {
		for _, number := range []int{-1, 0, 1, 9, turn.Size - 1, turn.Size, math.MaxInt, math.MinInt} {
			wantDigits(t, turn, number)
		}
	}
}

func TestPromise54DigitsAreNewEachTime(t *testing.T) {
	for _, number := range []int{0, 1} {
		wantNewLists(t, "DigitsOf", func(turn impl.Turn) []int { return impl.DigitsOf(turn, number) })
	}
	wantNewLists(t, "DigitsOf", func(turn impl.Turn) []int { return impl.DigitsOf(turn, turn.Size-1) })
}

func TestPromise55JustTheDigitsOfNumbersKeepTheRules(t *testing.T) {
	for _, turn := range allTurns() {
		rows, basis := allDigits(turn), plainBasis(turn)
		kept := 0
		eachDigits(plainMost(turn), func(digits []int) {
			number := plainSum(basis, digits)
			want := number >= 0 && number < turn.Size && slices.Equal(digits, rows[number])
			wantKept(t, turn, digits, want)
			if want {
				kept++
				wantDigits(t, turn, impl.NumberOf(turn, digits), digits...)
			}
		})
		wantNumber(t, "the rows that keep the rules", turn, kept, turn.Size)
	}
}

func TestPromise55AllDigitsNought(t *testing.T) {
	for _, turn := range allTurns() {
		noughts := make([]int, len(plainBasis(turn)))
		wantKept(t, turn, noughts, true)
		wantKept(t, turn, noughts[1:], false)
		wantKept(t, turn, append(noughts, 0), false)
	}
}

func TestPromise55BelowAGreatestDigitStandsNought(t *testing.T) {
	for _, turn := range allTurns() {
		most := plainMost(turn)
		for place, digit := range most {
			digits := make([]int, len(most))
			digits[place] = digit
			wantKept(t, turn, digits, true)
			if place == 0 {
				continue
			}
			digits[place-1] = 1
			wantKept(t, turn, digits, false)
			digits[place-1] = most[place-1]
			wantKept(t, turn, digits, false)
			// With one less it need not be 0; if that is 0 itself, both are digits as well.
			digits[place]--
			wantKept(t, turn, digits, true)
		}
	}
}

func TestPromise55StepsOfOne(t *testing.T) {
	ones, others := stepsOfOne()
	for place, turn := range ones {
		for digit := -1; digit <= turn.Size; digit++ {
			want := digit >= 0 && digit < turn.Size
			wantKept(t, turn, []int{digit}, want)
			wantKept(t, others[place], []int{digit}, want)
		}
	}
}

func TestPromise55KnownRows(t *testing.T) {
	for _, digits := range [][]int{{0, 0, 0}, {1, 1, 1}, {1, 0, 2}, {0, 2, 1}, {0, 2, 0}} {
		wantKept(t, fifths, digits, true)
	}
	for _, digits := range [][]int{{1, 2, 0}, {0, 1, 2}, {0, 2, 2}, {2, 0, 0}, {0, 3, 0}, {0, 0, 3}, {-1, 0, 0}, {0, -1, 2}, {0, 0}, {0, 0, 0, 0}, nil} {
		wantKept(t, fifths, digits, false)
	}
	wantKept(t, sevens, []int{0, 1, 0, 3}, true)
	wantKept(t, sevens, []int{7, 0, 1, 2}, true)
	wantKept(t, sevens, []int{7, 1, 0, 2}, false)
	wantKept(t, sevens, []int{7, 0, 0, 3}, true)
	wantKept(t, sevens, []int{8, 0, 0, 0}, false)
	wantKept(t, two, []int{1}, true)
	wantKept(t, two, []int{2}, false)
}

func TestPromise55BadArguments(t *testing.T) {
	eachNotDigits(func(turn impl.Turn, digits []int) {
		wantKept(t, turn, digits, false)
	})
}

func TestPromise56DigitsAreByTurns(t *testing.T) {
	for _, turn := range allTurns() {
		points := walk(turn)
		var nears []int
		for _, number := range impl.BasisOf(turn) {
			nears = append(nears, impl.PointOf(turn, number))
		}
		for number, digits := range allDigits(turn) {
			wantToldBy(t, turn, digits, number)
			point := impl.PointOf(turn, impl.NumberOf(turn, digits))
			wantNumber(t, "the point at a number", turn, point, points[number])
			wantNumber(t, "the point told by digits", turn, plainSum(nears, digits)%turn.Size, point)
		}
	}
}

func TestPromise56NumbersAreSums(t *testing.T) {
	for _, turn := range allTurns() {
		basis := plainBasis(turn)
		eachDigits(plainMost(turn), func(digits []int) {
			want := -1
			if impl.DigitsOk(turn, digits) {
				want = plainSum(basis, digits)
			}
			wantToldBy(t, turn, digits, want)
		})
	}
}

func TestPromise56TheFirstNumberAndTheLastOne(t *testing.T) {
	for _, turn := range allTurns() {
		basis := plainBasis(turn)
		wantToldBy(t, turn, make([]int, len(basis)), 0)
		last := plainDigits(basis, turn.Size-1)
		wantToldBy(t, turn, last, turn.Size-1)
		// With one more in the first place the sum is Size.
		last[0]++
		wantToldBy(t, turn, last, -1)
	}
}

func TestPromise56StepsOfOne(t *testing.T) {
	ones, others := stepsOfOne()
	for place, turn := range ones {
		for number := range turn.Size {
			wantToldBy(t, turn, []int{number}, number)
			wantToldBy(t, others[place], []int{number}, number)
		}
		wantToldBy(t, turn, []int{turn.Size}, -1)
		wantToldBy(t, others[place], []int{turn.Size}, -1)
	}
}

func TestPromise56KnownNumbers(t *testing.T) {
	wantToldBy(t, fifths, []int{0, 2, 1}, 9)
	wantToldBy(t, fifths, []int{1, 0, 2}, 11)
	wantToldBy(t, fifths, []int{0, 1, 2}, -1)
	wantToldBy(t, fifths, []int{1, 2, 0}, -1)
	wantToldBy(t, fifths, []int{2, 0, 0}, -1)
	wantToldBy(t, golden, []int{1, 0, 1, 0, 1, 0, 2}, 54)
	wantToldBy(t, golden, []int{0, 0, 0, 0, 0, 1, 1}, 34)
	wantToldBy(t, golden, []int{0, 0, 0, 0, 0, 1, 2}, -1)
	wantToldBy(t, sevens, []int{7, 0, 0, 2}, 41)
	wantToldBy(t, sevens, []int{7, 1, 0, 2}, -1)
	wantToldBy(t, two, []int{1}, 1)
}

func TestPromise56BadArguments(t *testing.T) {
	eachNotDigits(func(turn impl.Turn, digits []int) {
		wantToldBy(t, turn, digits, -1)
	})
}

func TestPromise57NextDigitsAreOfTheNextNumber(t *testing.T) {
	for _, turn := range allTurns() {
		rows := allDigits(turn)
		for number, next := range rows[1:] {
			wantNext(t, turn, rows[number], next, true)
			told, _ := impl.NextDigits(turn, rows[number])
			wantKept(t, turn, told, true)
			wantToldBy(t, turn, told, number+1)
		}
		wantNoneNext(t, turn, rows[turn.Size-1])
	}
}

func TestPromise57TheHighestDigitThatDiffersIsOneMore(t *testing.T) {
	eachNumber(func(turn impl.Turn, number int, digits []int) {
		next, ok := impl.NextDigits(turn, digits)
		if !ok {
			wantNumber(t, "the number that has no next one", turn, number, turn.Size-1)
			return
		}
		place := highestOther(next, digits)
		wantNumber(t, "the highest digit that differs", turn, next[place], digits[place]+1)
		wantNumber(t, "the sum of all digits below", turn, total(next[:place]), 0)
	})
}

func TestPromise57NextDigitsGoThroughAllNumbers(t *testing.T) {
	for _, turn := range allTurns() {
		digits := make([]int, len(plainBasis(turn)))
		numbers := 0
		for ok := true; ok; digits, ok = impl.NextDigits(turn, digits) {
			wantToldBy(t, turn, digits, numbers)
			numbers++
		}
		wantNumber(t, "the numbers gone through", turn, numbers, turn.Size)
	}
}

func TestPromise57StepsOfOne(t *testing.T) {
	ones, others := stepsOfOne()
	for place, turn := range ones {
		for number := range turn.Size - 1 {
			wantNext(t, turn, []int{number}, []int{number + 1}, true)
			wantNext(t, others[place], []int{number}, []int{number + 1}, true)
		}
		wantNoneNext(t, turn, []int{turn.Size - 1})
		wantNoneNext(t, others[place], []int{turn.Size - 1})
	}
}

func TestPromise57KnownDigits(t *testing.T) {
	wantNext(t, fifths, []int{0, 0, 0}, []int{1, 0, 0}, true)
	wantNext(t, fifths, []int{1, 0, 0}, []int{0, 1, 0}, true)
	wantNext(t, fifths, []int{0, 2, 0}, []int{0, 0, 1}, true)
	wantNext(t, fifths, []int{1, 1, 1}, []int{0, 2, 1}, true)
	wantNext(t, fifths, []int{0, 2, 1}, []int{0, 0, 2}, true)
	wantNoneNext(t, fifths, []int{1, 0, 2})
	wantNext(t, golden, []int{1, 0, 1, 0, 1, 0, 1}, []int{0, 0, 0, 0, 0, 1, 1}, true)
	wantNext(t, golden, []int{0, 1, 0, 1, 0, 1, 0}, []int{0, 0, 0, 0, 0, 0, 1}, true)
	wantNoneNext(t, golden, []int{1, 0, 1, 0, 1, 0, 2})
	wantNext(t, sevens, []int{7, 0, 0, 2}, []int{0, 1, 0, 2}, true)
	wantNext(t, sevens, []int{0, 1, 0, 2}, []int{0, 0, 1, 2}, true)
	wantNext(t, sevens, []int{7, 0, 1, 0}, []int{0, 0, 0, 1}, true)
	wantNoneNext(t, sevens, []int{0, 1, 0, 3})
	wantNext(t, two, []int{0}, []int{1}, true)
	wantNoneNext(t, two, []int{1})
}

func TestPromise57BadArguments(t *testing.T) {
	eachNotDigits(func(turn impl.Turn, digits []int) {
		wantNoneNext(t, turn, digits)
	})
	for _, turn := range allTurns() {
		eachDigits(plainMost(turn), func(digits []int) {
			if !impl.DigitsOk(turn, digits) {
				wantNoneNext(t, turn, digits)
			}
		})
	}
}

func TestPromise57DigitsAreNewEachTime(t *testing.T) {
	eachNumber(func(turn impl.Turn, number int, digits []int) {
		given := slices.Clone(digits)
		first, ok := impl.NextDigits(turn, digits)
		if !ok {
			return
		}
		second, _ := impl.NextDigits(turn, digits)
		want := slices.Clone(second)
		spoil(first)
		wantList(t, "NextDigits", turn, second, want)
		wantList(t, "the digits given to NextDigits", turn, digits, given)
		wantNext(t, turn, digits, want, true)
	})
}

func TestPromise58DigitSums(t *testing.T) {
	eachNumber(func(turn impl.Turn, number int, digits []int) {
		wantDigitSum(t, turn, number, total(digits))
		wantDigitSum(t, turn, number, total(impl.DigitsOf(turn, number)))
	})
}

func TestPromise58DigitSumsGrowByOneAtMost(t *testing.T) {
	for _, turn := range allTurns() {
		for number := range turn.Size - 1 {
			sum, next := impl.DigitSum(turn, number), impl.DigitSum(turn, number+1)
			if next > sum+1 || next < 1 {
				t.Fatalf("DigitSum of %d by %v is %d, and of the next number %d", number, turn, sum, next)
			}
		}
	}
}

func TestPromise58NumbersOfTheBasis(t *testing.T) {
	for _, turn := range allTurns() {
		for _, number := range plainBasis(turn) {
			wantDigitSum(t, turn, number, 1)
		}
		ones := 0
		for number := range turn.Size {
			if impl.DigitSum(turn, number) == 1 {
				ones++
			}
		}
		wantNumber(t, "the numbers with the digit sum 1", turn, ones, len(plainBasis(turn)))
	}
}

func TestPromise58TheFirstNumberAndTheLastOne(t *testing.T) {
	for _, turn := range allTurns() {
		wantDigitSum(t, turn, -1, -1)
		wantDigitSum(t, turn, 0, 0)
		wantDigitSum(t, turn, 1, 1)
		wantDigitSum(t, turn, turn.Size-1, total(plainDigits(plainBasis(turn), turn.Size-1)))
		wantDigitSum(t, turn, turn.Size, -1)
	}
}

func TestPromise58StepsOfOne(t *testing.T) {
	ones, others := stepsOfOne()
	for place, turn := range ones {
		for number := range turn.Size {
			wantDigitSum(t, turn, number, number)
			wantDigitSum(t, others[place], number, number)
		}
	}
}

func TestPromise58KnownSums(t *testing.T) {
	for number, want := range []int{0, 1, 1, 2, 2, 1, 2, 2, 3, 3, 2, 3, -1} {
		wantDigitSum(t, fifths, number, want)
	}
	wantDigitSum(t, golden, 54, 5)
	wantDigitSum(t, golden, 33, 4)
	wantDigitSum(t, golden, 34, 2)
	wantDigitSum(t, sevens, 7, 7)
	wantDigitSum(t, sevens, 8, 1)
	wantDigitSum(t, sevens, 59, 4)
	wantDigitSum(t, two, 1, 1)
	wantDigitSum(t, two, 2, -1)
}

func TestPromise58BadArguments(t *testing.T) {
	for _, turn := range allTurns() {
		for _, number := range outside(turn.Size) {
			wantDigitSum(t, turn, number, -1)
		}
	}
	for _, turn := range badTurns() {
		for _, number := range []int{-1, 0, 1, 9, turn.Size - 1, turn.Size, math.MaxInt, math.MinInt} {
			wantDigitSum(t, turn, number, -1)
		}
	}
}

func TestPromise59DigitsStandInTheOrderOfNumbers(t *testing.T) {
	for _, turn := range allTurns() {
		var rows [][]int
		for number := range turn.Size {
			rows = append(rows, impl.DigitsOf(turn, number))
		}
		for greater, row := range rows {
			for lesser, other := range rows[:greater] {
				place := highestOther(row, other)
				if place < 0 || row[place] <= other[place] {
					t.Fatalf("DigitsOf %d and %d by %v are %v and %v", lesser, greater, turn, other, row)
				}
			}
		}
	}
}

func TestPromise59TheHighestDigitTellsTheLastNumberThatGoesIn(t *testing.T) {
	eachNumber(func(turn impl.Turn, number int, digits []int) {
		basis, told := plainBasis(turn), impl.DigitsOf(turn, number)
		place := highestOther(told, make([]int, len(told)))
		goesIn := countIf(basis, func(other int) bool { return other <= number })
		wantNumber(t, "the highest digit that is not 0", turn, place, goesIn-1)
	})
}

func TestPromise59KnownOrders(t *testing.T) {
	// The lower digits of 4 are greater than those of 5, and all together, too.
	wantNumber(t, "the highest place where 4 and 5 differ", fifths, highestOther(impl.DigitsOf(fifths, 4), impl.DigitsOf(fifths, 5)), 2)
	wantNumber(t, "the highest place where 9 and 7 differ", fifths, highestOther(impl.DigitsOf(fifths, 9), impl.DigitsOf(fifths, 7)), 1)
	wantNumber(t, "the highest place where 10 and 11 differ", fifths, highestOther(impl.DigitsOf(fifths, 10), impl.DigitsOf(fifths, 11)), 0)
	wantNumber(t, "the highest place where 7 and 8 differ", sevens, highestOther(impl.DigitsOf(sevens, 7), impl.DigitsOf(sevens, 8)), 1)
}
