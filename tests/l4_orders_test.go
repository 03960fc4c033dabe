package tests

import (
	"math"
	"slices"
	"testing"

	"loop.example/roundturns/impl"
)

// plainOrder tells the times of so many walked points, from the least point up.
func plainOrder(turn impl.Turn, many int) []int {
	points := walk(turn)[:many]
	var order []int
	for _, point := range sortedWalk(turn, many) {
		order = append(order, slices.Index(points, point))
	}
	return order
}

// plainNext is what comes behind a number by two numbers.
func plainNext(number int, many int, up int, down int) int {
	if number+up < many {
		return number + up
	}
	if number >= down {
		return number - down
	}
	return number + up - down
}

// plainOrderBy crosses off each number to which two numbers lead, and gives up at one that is out of bounds or crossed off.
func plainOrderBy(many int, up int, down int) ([]int, bool) {
	crossed := make([]bool, many)
	var order []int
	at := 0
	for len(order) < many {
		if at < 0 || at >= many || crossed[at] {
			return nil, false
		}
		crossed[at] = true
		order = append(order, at)
		at = plainNext(at, many, up, down)
	}
	if at != 0 {
		return nil, false
	}
	return order, true
}

// eachTwoNumbers calls with each number of points, and each two numbers, that may be.
func eachTwoNumbers(call func(many int, up int, down int)) {
	for many := 1; many <= impl.MaxSize; many++ {
		for up := 1; up <= impl.MaxSize; up++ {
			for down := 1; down <= impl.MaxSize; down++ {
				call(many, up, down)
			}
		}
	}
}

// plainTurned sorts a row by exchanging neighbours, and counts how often it did.
func plainTurned(row []int) int {
	row = slices.Clone(row)
	exchanged := 0
	for again := true; again; {
		again = false
		for place := 1; place < len(row); place++ {
			if row[place-1] > row[place] {
				row[place-1], row[place] = row[place], row[place-1]
				exchanged++
				again = true
			}
		}
	}
	return exchanged
}

// eachRow calls with each row of so many numbers from a least one up to a greatest one.
func eachRow(long int, least int, greatest int, call func(row []int)) {
	var grow func(row []int)
	grow = func(row []int) {
		if len(row) == long {
			call(slices.Clone(row))
			return
		}
		for number := least; number <= greatest; number++ {
			grow(append(row, number))
		}
	}
	grow(nil)
}

// pairsOf is how many pairs there are of so many.
func pairsOf(many int) int {
	return many * (many - 1) / 2
}

// otherWayRound is an order from its last number to its first one but for 0, which stays first.
func otherWayRound(order []int) []int {
	return append([]int{order[0]}, backwards(order[1:])...)
}

func wantOrderBy(t *testing.T, many int, up int, down int, want []int, wantOk bool) {
	t.Helper()
	if got, ok := impl.OrderBy(many, up, down); ok != wantOk || !slices.Equal(got, want) {
		t.Fatalf("OrderBy %d, %d and %d is %v, %v, want %v, %v", many, up, down, got, ok, want, wantOk)
	}
}

func wantNoOrder(t *testing.T, many int, up int, down int) {
	t.Helper()
	wantOrderBy(t, many, up, down, nil, false)
}

func wantTurned(t *testing.T, row []int, want int) {
	t.Helper()
	if got := impl.TurnedPairs(row); got != want {
		t.Fatalf("TurnedPairs of %v is %d, want %d", row, got, want)
	}
}

func TestPromise23TheOrderIsToldByTwoNumbers(t *testing.T) {
	eachMany(1, func(turn impl.Turn, many int) {
		order := impl.OrderOf(turn, many)
		wantList(t, "OrderOf", turn, order, plainOrder(turn, many))
		for place, time := range order {
			wantNumber(t, "the next time", turn, impl.NextAfter(turn, many, time), order[(place+1)%many])
		}
	})
	eachMany(2, func(turn impl.Turn, many int) {
		above, below := plainNear(turn, many)
		wantNumber(t, "NearAbove", turn, impl.NearAbove(turn, many), above)
		wantNumber(t, "NearBelow", turn, impl.NearBelow(turn, many), below)
		wantOrderBy(t, many, above, below, impl.OrderOf(turn, many), true)
	})
}

func TestPromise23OnePointAndAllPoints(t *testing.T) {
	for _, turn := range allTurns() {
		wantList(t, "the order of one point", turn, impl.OrderOf(turn, 1), []int{0})
		wantList(t, "the order of two points", turn, impl.OrderOf(turn, 2), []int{0, 1})
		opposite := impl.OppositeOf(turn)
		want := impl.FirstPoints(opposite, turn.Size)
		wantList(t, "the order of all points", turn, impl.OrderOf(turn, turn.Size), want)
		wantList(t, "the walk of the opposite turn", turn, walk(opposite), want)
	}
}

func TestPromise23KnownOrders(t *testing.T) {
	wantList(t, "OrderOf", fifths, impl.OrderOf(fifths, 4), []int{0, 2, 1, 3})
	wantList(t, "OrderOf", fifths, impl.OrderOf(fifths, 5), []int{0, 2, 4, 1, 3})
	wantList(t, "OrderOf", fifths, impl.OrderOf(fifths, 12), []int{0, 7, 2, 9, 4, 11, 6, 1, 8, 3, 10, 5})
	wantList(t, "OrderOf", golden, impl.OrderOf(golden, 8), []int{0, 5, 2, 7, 4, 1, 6, 3})
	ones, others := stepsOfOne()
	for _, turn := range ones {
		wantList(t, "OrderOf", turn, impl.OrderOf(turn, turn.Size), append([]int{0}, upTo(turn.Size-1)...))
	}
	for _, turn := range others {
		wantList(t, "OrderOf", turn, impl.OrderOf(turn, turn.Size), append([]int{0}, backwards(upTo(turn.Size-1))...))
	}
}

func TestPromise23BadArguments(t *testing.T) {
	eachBadPair(1, func(turn impl.Turn, many int) {
		wantList(t, "OrderOf none", turn, impl.OrderOf(turn, many), nil)
	})
}

func TestPromise23OrdersAreNewEachTime(t *testing.T) {
	wantNewLists(t, "OrderOf", func(turn impl.Turn) []int { return impl.OrderOf(turn, (turn.Size+1)/2) })
	wantNewLists(t, "OrderOf", func(turn impl.Turn) []int { return impl.OrderOf(turn, turn.Size) })
}

func TestPromise24OrdersClose(t *testing.T) {
	closed := 0
	eachTwoNumbers(func(many int, up int, down int) {
		want, wantOk := plainOrderBy(many, up, down)
		wantOrderBy(t, many, up, down, want, wantOk)
		if !wantOk {
			wantNoOrder(t, many, down, up)
			return
		}
		closed++
		order, _ := impl.OrderBy(many, up, down)
		wantOrderBy(t, many, down, up, otherWayRound(order), true)
		slices.Sort(order)
		if !slices.Equal(order, append([]int{0}, upTo(many-1)...)) {
			t.Fatalf("in OrderBy %d, %d and %d are %v", many, up, down, order)
		}
	})
	if closed == 0 {
		t.Fatal("no order closed")
	}
}

func TestPromise24OrdersCloseByTwoNumbersWithoutACommonDivisor(t *testing.T) {
	eachTwoNumbers(func(many int, up int, down int) {
		// One goes round a circle of as many points as both numbers together, and leaves out those that are too great.
		want := up <= many && down <= many && up+down >= many && plainDivisor(up, down) == 1
		if many == 1 {
			want = up == down
		}
		if _, ok := impl.OrderBy(many, up, down); ok != want {
			t.Fatalf("OrderBy %d, %d and %d closes: %v, want %v", many, up, down, ok, want)
		}
	})
}

func TestPromise24OnePoint(t *testing.T) {
	for up := 1; up <= impl.MaxSize; up++ {
		wantOrderBy(t, 1, up, up, []int{0}, true)
		wantNoOrder(t, 1, up, up%impl.MaxSize+1)
		wantNoOrder(t, 1, up%impl.MaxSize+1, up)
	}
}

func TestPromise24KnownOrders(t *testing.T) {
	wantOrderBy(t, 2, 1, 1, []int{0, 1}, true)
	wantOrderBy(t, 3, 1, 2, []int{0, 1, 2}, true)
	wantOrderBy(t, 3, 1, 3, []int{0, 1, 2}, true)
	wantOrderBy(t, 3, 2, 1, []int{0, 2, 1}, true)
	wantOrderBy(t, 3, 3, 1, []int{0, 2, 1}, true)
	wantOrderBy(t, 4, 2, 3, []int{0, 2, 1, 3}, true)
	wantOrderBy(t, 5, 2, 3, []int{0, 2, 4, 1, 3}, true)
	wantOrderBy(t, 5, 3, 2, []int{0, 3, 1, 4, 2}, true)
	wantOrderBy(t, 6, 5, 6, []int{0, 5, 4, 3, 2, 1}, true)
	wantOrderBy(t, 12, 7, 5, []int{0, 7, 2, 9, 4, 11, 6, 1, 8, 3, 10, 5}, true)
}

func TestPromise24TheGreatestNumbers(t *testing.T) {
	most := impl.MaxSize
	up := append([]int{0}, upTo(most-1)...)
	for _, down := range []int{most - 1, most} {
		wantOrderBy(t, most, 1, down, up, true)
		wantOrderBy(t, most, down, 1, otherWayRound(up), true)
	}
	// The second number may be as great as so many, but not greater.
	wantOrderBy(t, most-1, 1, most-1, up[:most-1], true)
	wantNoOrder(t, most-1, 1, most)
	wantNoOrder(t, most-1, most, 1)
	wantNoOrder(t, most, most, most)
	wantNoOrder(t, most, 1, 1)
}

func TestPromise24OrdersThatDoNotClose(t *testing.T) {
	// All numbers are there, but the last one does not lead to 0.
	wantNoOrder(t, 3, 1, 1)
	wantNoOrder(t, 2, 1, 3)
	wantNoOrder(t, 2, 3, 1)
	wantNoOrder(t, 4, 1, 2)
	wantNoOrder(t, 60, 1, 58)
	// A number comes twice.
	wantNoOrder(t, 4, 2, 2)
	wantNoOrder(t, 5, 1, 2)
	wantNoOrder(t, 6, 4, 2)
	wantNoOrder(t, 9, 6, 6)
	wantNoOrder(t, 7, 7, 7)
	// All are different and lead to 0, but one of them is too great, or less than 0.
	wantNoOrder(t, 2, 4, 2)
	wantNoOrder(t, 2, 2, 4)
	wantNoOrder(t, 3, 6, 3)
	wantNoOrder(t, 3, 3, 6)
}

func TestPromise24BadArguments(t *testing.T) {
	bad := []int{0, -1, -2, -impl.MaxSize, impl.MaxSize + 1, 2 * impl.MaxSize, math.MaxInt - 1, math.MaxInt, math.MinInt, math.MinInt + 1}
	good := []int{1, 2, 3, impl.MaxSize - 1, impl.MaxSize}
	for _, number := range bad {
		for _, other := range good {
			for _, third := range good {
				wantNoOrder(t, number, other, third)
				wantNoOrder(t, other, number, third)
				wantNoOrder(t, other, third, number)
			}
			for _, third := range bad {
				wantNoOrder(t, other, number, third)
				wantNoOrder(t, number, other, third)
				wantNoOrder(t, number, third, other)
			}
		}
		// With one point, and two equal numbers, these would close.
		wantNoOrder(t, 1, number, number)
		wantNoOrder(t, number, number, number)
	}
	wantNoOrder(t, impl.MaxSize+1, 1, impl.MaxSize)
	wantNoOrder(t, impl.MaxSize+1, impl.MaxSize, 1)
	wantNoOrder(t, impl.MaxSize, 1, impl.MaxSize+1)
}

func TestPromise24OrdersAreNewEachTime(t *testing.T) {
	first, _ := impl.OrderBy(5, 2, 3)
	second, _ := impl.OrderBy(5, 2, 3)
	spoil(first)
	wantOrderBy(t, 5, 2, 3, second, true)
	wantOrderBy(t, 5, 2, 3, []int{0, 2, 4, 1, 3}, true)
}

func TestPromise25PlacesArePlacesInTheOrder(t *testing.T) {
	eachMany(1, func(turn impl.Turn, many int) {
		order, points := impl.OrderOf(turn, many), walk(turn)[:many]
		for time, point := range points {
			place := impl.PlaceIn(turn, many, time)
			less := countIf(points, func(other int) bool { return other < point })
			wantNumber(t, "PlaceIn", turn, place, less)
			wantNumber(t, "the time at the place", turn, order[place], time)
		}
		wantNumber(t, "the place of time 0", turn, impl.PlaceIn(turn, many, 0), 0)
	})
}

func TestPromise25AllPoints(t *testing.T) {
	for _, turn := range allTurns() {
		for time := range turn.Size {
			wantNumber(t, "the place of all points", turn, impl.PlaceIn(turn, turn.Size, time), impl.PointOf(turn, time))
		}
	}
}

func TestPromise25KnownPlaces(t *testing.T) {
	for time, want := range []int{0, 3, 1, 4, 2} {
		wantNumber(t, "PlaceIn", fifths, impl.PlaceIn(fifths, 5, time), want)
	}
	wantNumber(t, "PlaceIn", fifths, impl.PlaceIn(fifths, 12, 11), 5)
	wantNumber(t, "PlaceIn", fifths, impl.PlaceIn(fifths, 2, 1), 1)
}

func TestPromise25BadArguments(t *testing.T) {
	eachMany(1, func(turn impl.Turn, many int) {
		for _, time := range outside(many) {
			wantNumber(t, "PlaceIn at no time", turn, impl.PlaceIn(turn, many, time), -1)
		}
	})
	eachBadPair(1, func(turn impl.Turn, many int) {
		for _, time := range []int{-1, 0, 1, 11, math.MaxInt, math.MinInt} {
			wantNumber(t, "PlaceIn of none", turn, impl.PlaceIn(turn, many, time), -1)
		}
	})
}

func TestPromise26TurnedPairsAreExchanges(t *testing.T) {
	for long := range 6 {
		eachRow(long, -2, 2, func(row []int) {
			wantTurned(t, row, plainTurned(row))
		})
	}
}

func TestPromise26FromBehindItIsWhatLacks(t *testing.T) {
	for long := range 6 {
		eachRow(long, 1, 5, func(row []int) {
			if len(slices.Compact(slices.Sorted(slices.Values(row)))) != long {
				return
			}
			wantTurned(t, backwards(row), pairsOf(long)-impl.TurnedPairs(row))
		})
	}
	eachMany(1, func(turn impl.Turn, many int) {
		points := impl.FirstPoints(turn, many)
		wantTurned(t, points, plainTurned(points))
		wantTurned(t, backwards(points), pairsOf(many)-impl.TurnedPairs(points))
	})
}

func TestPromise26BothWaysRoundMakeAllPairs(t *testing.T) {
	eachMany(1, func(turn impl.Turn, many int) {
		order, back := impl.OrderOf(turn, many), impl.OrderOf(impl.BackTurn(turn), many)
		wantTurned(t, order, plainTurned(order))
		both := impl.TurnedPairs(order) + impl.TurnedPairs(back)
		wantNumber(t, "the turned pairs both ways round", turn, both, pairsOf(many-1))
	})
}

func TestPromise26NoNumbersAndOne(t *testing.T) {
	wantTurned(t, nil, 0)
	wantTurned(t, []int{}, 0)
	for _, number := range []int{0, 1, -1, 60, math.MaxInt, math.MinInt} {
		wantTurned(t, []int{number}, 0)
	}
}

func TestPromise26EqualNumbers(t *testing.T) {
	wantTurned(t, []int{3, 3}, 0)
	wantTurned(t, []int{3, 3, 3}, 0)
	wantTurned(t, []int{3, 1, 3}, 1)
	wantTurned(t, []int{3, 3, 1, 1}, 4)
	wantTurned(t, []int{1, 1, 3, 3}, 0)
	wantTurned(t, slices.Repeat([]int{7}, impl.MaxSize), 0)
	wantTurned(t, slices.Repeat([]int{2, 1}, impl.MaxSize/2), impl.MaxSize/2*(impl.MaxSize/2+1)/2)
}

func TestPromise26KnownRows(t *testing.T) {
	wantTurned(t, []int{0, 2, 4, 1, 3}, 3)
	wantTurned(t, []int{1, 2}, 0)
	wantTurned(t, []int{2, 1}, 1)
	wantTurned(t, []int{5, -5, 0}, 2)
	// One of these taken away from the other one would wrap around.
	wantTurned(t, []int{math.MaxInt, math.MinInt}, 1)
	wantTurned(t, []int{math.MinInt, math.MaxInt}, 0)
	wantTurned(t, []int{math.MaxInt, 0, math.MinInt, -1, math.MaxInt}, 5)
}

func TestPromise26TheGreatestNumberOfNumbers(t *testing.T) {
	up := upTo(impl.MaxSize)
	wantTurned(t, up, 0)
	wantTurned(t, backwards(up), pairsOf(impl.MaxSize))
	more := upTo(impl.MaxSize + 1)
	wantTurned(t, more, -1)
	wantTurned(t, backwards(more), -1)
	wantTurned(t, make([]int, impl.MaxSize+1), -1)
	wantTurned(t, make([]int, 100000), -1)
}

func TestPromise26TheRowStays(t *testing.T) {
	row := []int{4, 2, 3, 3, 0, 9, 8}
	wantTurned(t, row[:5], 7)
	if !slices.Equal(row, []int{4, 2, 3, 3, 0, 9, 8}) {
		t.Fatalf("the row, and what is behind it, is %v", row)
	}
}

func TestPromise27AFurtherPointLeavesTheOrderOfTheOthers(t *testing.T) {
	eachMany(1, func(turn impl.Turn, many int) {
		if many == turn.Size {
			return
		}
		order, further := impl.OrderOf(turn, many), impl.OrderOf(turn, many+1)
		place := slices.Index(further, many)
		if place < 1 {
			t.Fatalf("the time %d stands at %d in the order %v of %v", many, place, further, turn)
		}
		wantNumber(t, "PlaceIn of the further point", turn, impl.PlaceIn(turn, many+1, many), place)
		wantList(t, "the order without the further point", turn, slices.Delete(further, place, place+1), order)
		gaps, kinds := impl.GapsOf(turn, many), impl.KindsOf(turn, many)
		wantNumber(t, "the gap where it stands", turn, gaps[place-1], kinds[len(kinds)-1])
	})
}
