package tests

import (
	"math"
	"slices"
	"testing"

	"loop.example/roundturns/impl"
)

// plainGaps goes up point by point of those that were walked, and notes how far it was.
func plainGaps(turn impl.Turn, many int) []int {
	here := make([]bool, turn.Size)
	for _, point := range walk(turn)[:many] {
		here[point] = true
	}
	var gaps []int
	far := 0
	for point := 1; point <= turn.Size; point++ {
		far++
		if point == turn.Size || here[point] {
			gaps = append(gaps, far)
			far = 0
		}
	}
	return gaps
}

// plainNear tells the times of the least point but 0, and of the greatest one.
func plainNear(turn impl.Turn, many int) (int, int) {
	points, sorted := walk(turn)[:many], sortedWalk(turn, many)
	return slices.Index(points, sorted[1]), slices.Index(points, sorted[many-1])
}

func TestPromise8GapsGoOnceRound(t *testing.T) {
	eachMany(1, func(turn impl.Turn, many int) {
		gaps := impl.GapsOf(turn, many)
		wantList(t, "GapsOf", turn, gaps, plainGaps(turn, many))
		wantNumber(t, "the number of gaps", turn, len(gaps), many)
		wantNumber(t, "all gaps together", turn, total(gaps), turn.Size)
		wantNumber(t, "the number of gaps below 1", turn, countIf(gaps, func(gap int) bool { return gap < 1 }), 0)
		wantList(t, "the gaps from behind", turn, impl.GapsOf(impl.BackTurn(turn), many), backwards(gaps))
	})
}

func TestPromise8OnePointAndAllPoints(t *testing.T) {
	for _, turn := range allTurns() {
		wantList(t, "the gap of one point", turn, impl.GapsOf(turn, 1), []int{turn.Size})
		gaps := impl.GapsOf(turn, turn.Size)
		wantNumber(t, "the number of gaps", turn, len(gaps), turn.Size)
		wantNumber(t, "the gaps of 1", turn, countIf(gaps, func(gap int) bool { return gap == 1 }), turn.Size)
	}
}

func TestPromise8KnownGaps(t *testing.T) {
	wantList(t, "GapsOf", fifths, impl.GapsOf(fifths, 2), []int{7, 5})
	wantList(t, "GapsOf", fifths, impl.GapsOf(fifths, 4), []int{2, 5, 2, 3})
	wantList(t, "GapsOf", fifths, impl.GapsOf(fifths, 5), []int{2, 2, 3, 2, 3})
	wantList(t, "GapsOf", fifths, impl.GapsOf(fifths, 7), []int{2, 2, 2, 1, 2, 2, 1})
	wantList(t, "GapsOf", two, impl.GapsOf(two, 1), []int{2})
	wantList(t, "GapsOf", two, impl.GapsOf(two, 2), []int{1, 1})
}

func TestPromise8BadArguments(t *testing.T) {
	eachBadPair(1, func(turn impl.Turn, many int) {
		wantList(t, "GapsOf of none", turn, impl.GapsOf(turn, many), nil)
	})
}

func TestPromise8GapsAreNewEachTime(t *testing.T) {
	first, second := impl.GapsOf(fifths, 4), impl.GapsOf(fifths, 4)
	spoil(first)
	wantList(t, "GapsOf", fifths, second, []int{2, 5, 2, 3})
	wantList(t, "GapsOf", fifths, impl.GapsOf(fifths, 4), []int{2, 5, 2, 3})
}

func TestPromise9GapsAreOfThreeLengths(t *testing.T) {
	eachMany(1, func(turn impl.Turn, many int) {
		kinds := impl.KindsOf(turn, many)
		sorted := plainGaps(turn, many)
		slices.Sort(sorted)
		wantList(t, "KindsOf", turn, kinds, slices.Compact(sorted))
		if len(kinds) < 1 || len(kinds) > 3 {
			t.Fatalf("the gaps of %d points of %v have %d lengths", many, turn, len(kinds))
		}
		if len(kinds) == 3 {
			wantNumber(t, "the greatest gap", turn, kinds[2], kinds[0]+kinds[1])
		}
	})
}

func TestPromise9KnownKinds(t *testing.T) {
	wantList(t, "KindsOf", fifths, impl.KindsOf(fifths, 3), []int{2, 5})
	wantList(t, "KindsOf", fifths, impl.KindsOf(fifths, 4), []int{2, 3, 5})
	wantList(t, "KindsOf", fifths, impl.KindsOf(fifths, 5), []int{2, 3})
	for _, turn := range allTurns() {
		wantList(t, "the kind of one point", turn, impl.KindsOf(turn, 1), []int{turn.Size})
		wantList(t, "the kind of all points", turn, impl.KindsOf(turn, turn.Size), []int{1})
	}
}

func TestPromise9BadArguments(t *testing.T) {
	eachBadPair(1, func(turn impl.Turn, many int) {
		wantList(t, "KindsOf of none", turn, impl.KindsOf(turn, many), nil)
	})
}

func TestPromise9KindsAreNewEachTime(t *testing.T) {
	first, second := impl.KindsOf(fifths, 4), impl.KindsOf(fifths, 4)
	spoil(first)
	wantList(t, "KindsOf", fifths, second, []int{2, 3, 5})
	wantList(t, "KindsOf", fifths, impl.KindsOf(fifths, 4), []int{2, 3, 5})
}

// lengthsAround are lengths that gaps of a turn may have, and such ones that none has.
func lengthsAround(turn impl.Turn) []int {
	lengths := outside(turn.Size)
	for length := 0; length <= turn.Size; length++ {
		lengths = append(lengths, length)
	}
	return lengths
}

func TestPromise10GapsAreCounted(t *testing.T) {
	eachMany(1, func(turn impl.Turn, many int) {
		gaps := plainGaps(turn, many)
		for _, length := range lengthsAround(turn) {
			want := countIf(gaps, func(gap int) bool { return gap == length })
			wantNumber(t, "GapsLong", turn, impl.GapsLong(turn, many, length), want)
		}
	})
}

func TestPromise10TwoNearPointsTellAllGaps(t *testing.T) {
	eachMany(2, func(turn impl.Turn, many int) {
		told := map[int]int{}
		by := impl.GapsBy(turn, many)
		for place := 0; place+1 < len(by); place += 2 {
			told[by[place]] += by[place+1]
		}
		kinds := impl.KindsOf(turn, many)
		for _, length := range kinds {
			wantNumber(t, "GapsLong", turn, impl.GapsLong(turn, many, length), told[length])
		}
		for _, length := range []int{kinds[0] - 1, kinds[len(kinds)-1] + 1, turn.Size, -1, math.MaxInt, math.MinInt} {
			wantNumber(t, "GapsLong of no kind", turn, impl.GapsLong(turn, many, length), 0)
		}
	})
}

func TestPromise10KnownNumbers(t *testing.T) {
	for length, want := range []int{0, 0, 2, 1, 0, 1, 0, 0, 0, 0, 0, 0, 0} {
		wantNumber(t, "GapsLong", fifths, impl.GapsLong(fifths, 4, length), want)
	}
	for _, turn := range allTurns() {
		wantNumber(t, "the gap of one point", turn, impl.GapsLong(turn, 1, turn.Size), 1)
		wantNumber(t, "another gap of one point", turn, impl.GapsLong(turn, 1, turn.Size-1), 0)
		wantNumber(t, "the gaps of all points", turn, impl.GapsLong(turn, turn.Size, 1), turn.Size)
		wantNumber(t, "other gaps of all points", turn, impl.GapsLong(turn, turn.Size, 2), 0)
	}
}

func TestPromise10BadArguments(t *testing.T) {
	eachBadPair(1, func(turn impl.Turn, many int) {
		for _, length := range []int{-1, 0, 1, 2, 12, math.MaxInt, math.MinInt} {
			wantNumber(t, "GapsLong of none", turn, impl.GapsLong(turn, many, length), -1)
		}
	})
}

func TestPromise11NextTimes(t *testing.T) {
	eachMany(1, func(turn impl.Turn, many int) {
		points, sorted := walk(turn)[:many], sortedWalk(turn, many)
		for time, point := range points {
			want := 0
			if place := slices.Index(sorted, point); place+1 < many {
				want = slices.Index(points, sorted[place+1])
			}
			wantNumber(t, "NextAfter", turn, impl.NextAfter(turn, many, time), want)
		}
	})
}

func TestPromise11ThreeNumbersTellTheNextTime(t *testing.T) {
	eachMany(2, func(turn impl.Turn, many int) {
		up, down := impl.NearAbove(turn, many), impl.NearBelow(turn, many)
		for time := range many {
			want := time + up - down
			if time+up < many {
				want = time + up
			} else if time-down >= 0 {
				want = time - down
			}
			wantNumber(t, "NextAfter", turn, impl.NextAfter(turn, many, time), want)
		}
	})
}

func TestPromise11AboveTheGreatestPoint(t *testing.T) {
	eachMany(2, func(turn impl.Turn, many int) {
		wantNumber(t, "the time above the greatest point", turn, impl.NextAfter(turn, many, impl.NearBelow(turn, many)), 0)
	})
	for _, turn := range allTurns() {
		wantNumber(t, "the time above one point", turn, impl.NextAfter(turn, 1, 0), 0)
	}
}

func TestPromise11KnownTimes(t *testing.T) {
	for time, want := range []int{2, 3, 1, 0} {
		wantNumber(t, "NextAfter", fifths, impl.NextAfter(fifths, 4, time), want)
	}
}

func TestPromise11BadArguments(t *testing.T) {
	eachMany(1, func(turn impl.Turn, many int) {
		for _, time := range outside(many) {
			wantNumber(t, "NextAfter at no time", turn, impl.NextAfter(turn, many, time), -1)
		}
	})
	eachBadPair(1, func(turn impl.Turn, many int) {
		for _, time := range []int{-1, 0, 1, 11, math.MaxInt, math.MinInt} {
			wantNumber(t, "NextAfter of none", turn, impl.NextAfter(turn, many, time), -1)
		}
	})
}

func TestPromise12NearPointsComeTogether(t *testing.T) {
	eachMany(2, func(turn impl.Turn, many int) {
		want, _ := plainNear(turn, many)
		above, below := impl.NearAbove(turn, many), impl.NearBelow(turn, many)
		wantNumber(t, "NearAbove", turn, above, want)
		if above+below < many {
			t.Fatalf("of %d points of %v the nearest ones come at %d and %d", many, turn, above, below)
		}
		products := impl.PointOf(turn, above)*below + (turn.Size-impl.PointOf(turn, below))*above
		wantNumber(t, "the sum of products", turn, products, turn.Size)
	})
}

func TestPromise12AllPoints(t *testing.T) {
	for _, turn := range allTurns() {
		wantNumber(t, "NearAbove of two points", turn, impl.NearAbove(turn, 2), 1)
		wantNumber(t, "NearAbove of all points", turn, impl.NearAbove(turn, turn.Size), impl.TimeOf(turn, 1))
	}
	wantNumber(t, "NearAbove", fifths, impl.NearAbove(fifths, 4), 2)
}

func TestPromise12BadArguments(t *testing.T) {
	eachBadPair(2, func(turn impl.Turn, many int) {
		wantNumber(t, "NearAbove of none", turn, impl.NearAbove(turn, many), -1)
	})
}

func TestPromise13BelowIsAboveTheOtherWay(t *testing.T) {
	eachMany(2, func(turn impl.Turn, many int) {
		_, want := plainNear(turn, many)
		below := impl.NearBelow(turn, many)
		wantNumber(t, "NearBelow", turn, below, want)
		wantNumber(t, "NearAbove the other way", turn, impl.NearAbove(impl.BackTurn(turn), many), below)
		wantNumber(t, "the greatest point", turn, impl.PointOf(turn, below), slices.Max(impl.FirstPoints(turn, many)))
	})
}

func TestPromise13AllPoints(t *testing.T) {
	for _, turn := range allTurns() {
		wantNumber(t, "NearBelow of two points", turn, impl.NearBelow(turn, 2), 1)
		wantNumber(t, "NearBelow of all points", turn, impl.NearBelow(turn, turn.Size), impl.TimeOf(turn, turn.Size-1))
	}
	wantNumber(t, "NearBelow", fifths, impl.NearBelow(fifths, 4), 3)
}

func TestPromise13BadArguments(t *testing.T) {
	eachBadPair(2, func(turn impl.Turn, many int) {
		wantNumber(t, "NearBelow of none", turn, impl.NearBelow(turn, many), -1)
	})
}

func TestPromise14AllIsToldByTwoTimes(t *testing.T) {
	eachMany(2, func(turn impl.Turn, many int) {
		above, below := plainNear(turn, many)
		up, down := walk(turn)[above], turn.Size-walk(turn)[below]
		by := impl.GapsBy(turn, many)
		wantList(t, "GapsBy", turn, by, []int{up, many - above, down, many - below, up + down, above + below - many})
		if by[1] < 0 || by[3] < 0 || by[5] < 0 {
			t.Fatalf("GapsBy %d points of %v is %v", many, turn, by)
		}
		wantNumber(t, "the number of gaps", turn, by[1]+by[3]+by[5], many)
		wantNumber(t, "all gaps together", turn, by[0]*by[1]+by[2]*by[3]+by[4]*by[5], turn.Size)
	})
}

func TestPromise14EqualLengthsAreToldTwice(t *testing.T) {
	wantList(t, "GapsBy", fifths, impl.GapsBy(fifths, 4), []int{2, 2, 3, 1, 5, 1})
	wantList(t, "GapsBy", fifths, impl.GapsBy(fifths, 5), []int{2, 3, 3, 2, 5, 0})
	wantList(t, "GapsBy", fifths, impl.GapsBy(fifths, 12), []int{1, 5, 1, 7, 2, 0})
	wantList(t, "GapsBy", two, impl.GapsBy(two, 2), []int{1, 1, 1, 1, 2, 0})
	for _, turn := range allTurns() {
		opposite := impl.TimeOf(turn, 1)
		want := []int{1, turn.Size - opposite, 1, opposite, 2, 0}
		wantList(t, "GapsBy all points", turn, impl.GapsBy(turn, turn.Size), want)
	}
}

func TestPromise14BadArguments(t *testing.T) {
	eachBadPair(2, func(turn impl.Turn, many int) {
		wantList(t, "GapsBy of none", turn, impl.GapsBy(turn, many), nil)
	})
}

func TestPromise14ListsAreNewEachTime(t *testing.T) {
	first, second := impl.GapsBy(fifths, 4), impl.GapsBy(fifths, 4)
	spoil(first)
	wantList(t, "GapsBy", fifths, second, []int{2, 2, 3, 1, 5, 1})
	wantList(t, "GapsBy", fifths, impl.GapsBy(fifths, 4), []int{2, 2, 3, 1, 5, 1})
}

func TestPromise15AFurtherPointPartsAGreatestGap(t *testing.T) {
	eachMany(1, func(turn impl.Turn, many int) {
		if many == turn.Size {
			return
		}
		before, after := impl.GapsOf(turn, many), impl.GapsOf(turn, many+1)
		place := slices.Index(sortedWalk(turn, many+1), walk(turn)[many])
		kinds := impl.KindsOf(turn, many)
		parted := after[place-1] + after[place]
		wantNumber(t, "both gaps", turn, parted, kinds[len(kinds)-1])
		joined := slices.Concat(after[:place-1], []int{parted}, after[place+1:])
		wantList(t, "the gaps without the further point", turn, joined, before)
	})
}
