package tests

import (
	"math"
	"slices"
	"testing"

	"loop.example/roundturns/impl"
)

// hitsOf notes of each point of a turn whether it is one of the first so many walked ones: 1 if it is, else 0.
func hitsOf(turn impl.Turn, many int) []int {
	hits := make([]int, turn.Size)
	for _, point := range walk(turn)[:many] {
		hits[point]++
	}
	return hits
}

// plainVisits goes up from a point so many points, from the greatest one on to 0, and adds what is noted of each.
func plainVisits(turn impl.Turn, many int, from int, wide int) int {
	hits := hitsOf(turn, many)
	visits := 0
	at := from
	for range wide {
		visits += hits[at]
		at++
		if at == turn.Size {
			at = 0
		}
	}
	return visits
}

// excesses tell the excess of the points less than so many at each number of times: each walked time adds Size if it is at one of them, and takes away their number.
func excesses(turn impl.Turn, wide int) []int {
	list := []int{0}
	for time, point := range walk(turn) {
		excess := list[time] - wide
		if point < wide {
			excess += turn.Size
		}
		list = append(list, excess)
	}
	return list
}

// plainFew adds and takes away walked points by going back from time to time, from time 0 to the last one.
func plainFew(points []int, many int, time int) int {
	before := func(time int) int {
		if time == 0 {
			return len(points) - 1
		}
		return time - 1
	}
	few := 0
	for first, second := len(points), many; time > 0; time-- {
		first, second = before(first), before(second)
		few += points[first] - points[second]
	}
	return few
}

// eachArc calls with each arc of each turn there is, for small turns at each number of times, and for others at half of them.
func eachArc(call func(turn impl.Turn, many int, from int, wide int)) {
	for _, turn := range allTurns() {
		for many := range turn.Size + 1 {
			if turn.Size > 16 && many != turn.Size/2 {
				continue
			}
			for from := range turn.Size {
				for wide := range turn.Size + 1 {
					call(turn, many, from, wide)
				}
			}
		}
	}
}

// utmostTurns are the turns of the least and of the greatest size, with a step of 1 and of one less than all.
func utmostTurns() []impl.Turn {
	return []impl.Turn{{Size: 2, Step: 1}, {Size: impl.MaxSize, Step: 1}, {Size: impl.MaxSize, Step: impl.MaxSize - 1}}
}

// someNumbers are numbers of which some are arguments of each turn, and others of none.
func someNumbers(turn impl.Turn) []int {
	return []int{-1, 0, 1, 2, 12, turn.Size - 1, turn.Size, math.MaxInt, math.MinInt}
}

// wantSum holds a number and true, or 0 and false, against what a function returned.
func wantSum(t *testing.T, what string, of impl.Turn, many int, other int, got int, ok bool, want int, wantOk bool) {
	t.Helper()
	if got != want || ok != wantOk {
		t.Fatalf("%s of %v, %d and %d is %d, %v, want %d, %v", what, of, many, other, got, ok, want, wantOk)
	}
}

func wantExcess(t *testing.T, turn impl.Turn, many int, wide int, want int) {
	t.Helper()
	got, ok := impl.ExcessOf(turn, many, wide)
	wantSum(t, "ExcessOf", turn, many, wide, got, ok, want, true)
}

func wantNoExcess(t *testing.T, turn impl.Turn, many int, wide int) {
	t.Helper()
	got, ok := impl.ExcessOf(turn, many, wide)
	wantSum(t, "ExcessOf", turn, many, wide, got, ok, 0, false)
}

func wantExcessBy(t *testing.T, turn impl.Turn, many int, time int, want int) {
	t.Helper()
	got, ok := impl.ExcessBy(turn, many, time)
	wantSum(t, "ExcessBy", turn, many, time, got, ok, want, true)
}

func wantNoExcessBy(t *testing.T, turn impl.Turn, many int, time int) {
	t.Helper()
	got, ok := impl.ExcessBy(turn, many, time)
	wantSum(t, "ExcessBy", turn, many, time, got, ok, 0, false)
}

func wantVisits(t *testing.T, turn impl.Turn, many int, from int, wide int, want int) {
	t.Helper()
	if got := impl.VisitsIn(turn, many, from, wide); got != want {
		t.Fatalf("VisitsIn of %v, %d times, to %d points from %d on is %d, want %d", turn, many, wide, from, got, want)
	}
}

func TestPromise34VisitsAreCounted(t *testing.T) {
	var hits []int
	want := 0
	eachArc(func(turn impl.Turn, many int, from int, wide int) {
		if wide == 0 {
			hits, want = hitsOf(turn, many), 0
		} else {
			// The arc has one point more than the one before.
			want += hits[(from+wide-1)%turn.Size]
		}
		wantVisits(t, turn, many, from, wide, want)
	})
}

func TestPromise34ArcsBesideEachOtherAreAdded(t *testing.T) {
	eachArc(func(turn impl.Turn, many int, from int, wide int) {
		rest := impl.VisitsIn(turn, many, (from+wide)%turn.Size, turn.Size-wide)
		wantVisits(t, turn, many, from, wide, many-rest)
		if many == turn.Size {
			wantVisits(t, turn, many, from, wide, wide)
		}
		if from+wide <= turn.Size {
			wantVisits(t, turn, many, from, wide, impl.VisitsOf(turn, many, from+wide)-impl.VisitsOf(turn, many, from))
		}
	})
}

func TestPromise34NoPointsOnePointAndAllPoints(t *testing.T) {
	eachMany(0, func(turn impl.Turn, many int) {
		hits := hitsOf(turn, many)
		for from := range turn.Size {
			wantVisits(t, turn, many, from, 0, 0)
			wantVisits(t, turn, many, from, 1, hits[from])
			wantVisits(t, turn, many, from, turn.Size-1, many-hits[(from+turn.Size-1)%turn.Size])
			wantVisits(t, turn, many, from, turn.Size, many)
			wantVisits(t, turn, many, from, turn.Size+1, -1)
		}
	})
}

func TestPromise34NoTimesOneTimeAndAllTimes(t *testing.T) {
	for _, turn := range allTurns() {
		for from := range turn.Size {
			for wide := range turn.Size + 1 {
				atZero := 0
				if wide > 0 && from == 0 || from+wide > turn.Size {
					atZero = 1
				}
				wantVisits(t, turn, 0, from, wide, 0)
				wantVisits(t, turn, 1, from, wide, atZero)
				wantVisits(t, turn, turn.Size, from, wide, wide)
				wantVisits(t, turn, turn.Size+1, from, wide, -1)
			}
		}
	}
}

func TestPromise34ArcsOverTheGreatestPoint(t *testing.T) {
	eachMany(0, func(turn impl.Turn, many int) {
		hits := hitsOf(turn, many)
		want := 0
		for from := turn.Size - 1; from > 0; from-- {
			want += hits[from]
			end := turn.Size - from
			// The first arc ends just at the greatest point, the second one has 0 as well.
			wantVisits(t, turn, many, from, end, want)
			wantVisits(t, turn, many, from, end+1, want+min(many, 1))
		}
	})
}

func TestPromise34KnownVisits(t *testing.T) {
	// At the first four times it is at 0, 7, 2 and 9.
	for from, want := range []int{2, 1, 1, 0, 0, 1, 1, 2, 1, 1, 1, 1} {
		wantVisits(t, fifths, 4, from, 3, want)
	}
	for wide, want := range []int{0, 1, 1, 1, 2, 2, 3, 3, 3, 3, 3, 4, 4} {
		wantVisits(t, fifths, 4, 9, wide, want)
	}
	for many, want := range []int{0, 1, 1, 1, 2, 2, 3, 3, 4, 4, 4, 5, 5} {
		wantVisits(t, fifths, many, 9, 5, want)
	}
	wantVisits(t, two, 1, 0, 1, 1)
	wantVisits(t, two, 1, 1, 1, 0)
	wantVisits(t, two, 1, 1, 2, 1)
	wantVisits(t, two, 2, 1, 2, 2)
	wantVisits(t, golden, 34, 50, 10, 6)
}

func TestPromise34UtmostTurns(t *testing.T) {
	for _, turn := range utmostTurns() {
		for many := range turn.Size + 1 {
			for from := range turn.Size {
				for wide := range turn.Size + 1 {
					wantVisits(t, turn, many, from, wide, plainVisits(turn, many, from, wide))
				}
			}
		}
	}
	most := impl.MaxSize
	wantVisits(t, impl.Turn{Size: most, Step: 1}, 10, 5, 55, 5)
	wantVisits(t, impl.Turn{Size: most, Step: 1}, 10, 55, 12, 7)
	wantVisits(t, impl.Turn{Size: most, Step: most - 1}, 10, 5, 55, 9)
	wantVisits(t, impl.Turn{Size: most, Step: most - 1}, 10, 55, 12, 6)
}

func TestPromise34BadArguments(t *testing.T) {
	for _, turn := range allTurns() {
		size := turn.Size
		for _, from := range outside(size) {
			wantVisits(t, turn, 0, from, 0, -1)
			wantVisits(t, turn, size, from, size, -1)
			wantVisits(t, turn, 1, from, 1, -1)
		}
		for _, number := range outside(size + 1) {
			for _, good := range []int{0, 1, size} {
				wantVisits(t, turn, number, 0, good, -1)
				wantVisits(t, turn, number, size-1, good, -1)
				wantVisits(t, turn, good, 0, number, -1)
				wantVisits(t, turn, good, size-1, number, -1)
			}
			wantVisits(t, turn, number, number, number, -1)
		}
	}
	for _, turn := range badTurns() {
		for _, many := range someNumbers(turn) {
			for _, from := range someNumbers(turn) {
				for _, wide := range someNumbers(turn) {
					wantVisits(t, turn, many, from, wide, -1)
				}
			}
		}
	}
}

func TestPromise35PointsAreVisitedOnce(t *testing.T) {
	eachMany(0, func(turn impl.Turn, many int) {
		hits := hitsOf(turn, many)
		want, before := 0, 0
		for wide := range turn.Size + 1 {
			visits := impl.VisitsOf(turn, many, wide)
			wantNumber(t, "VisitsOf", turn, visits, want)
			wantNumber(t, "VisitsIn from 0 on", turn, impl.VisitsIn(turn, many, 0, wide), visits)
			if visits > many || visits > wide {
				t.Fatalf("at %d times %v visits %d points %d times", many, turn, wide, visits)
			}
			if wide > 0 && visits != before && visits != before+1 {
				t.Fatalf("at %d times %v visits %d points %d times, and one fewer %d times", many, turn, wide, visits, before)
			}
			before = visits
			if wide < turn.Size {
				want += hits[wide]
			}
		}
	})
}

func TestPromise35TheEnds(t *testing.T) {
	eachMany(0, func(turn impl.Turn, number int) {
		wantNumber(t, "VisitsOf at no times", turn, impl.VisitsOf(turn, 0, number), 0)
		wantNumber(t, "VisitsOf at one time", turn, impl.VisitsOf(turn, 1, number), min(number, 1))
		wantNumber(t, "VisitsOf at all times", turn, impl.VisitsOf(turn, turn.Size, number), number)
		wantNumber(t, "VisitsOf at one time more", turn, impl.VisitsOf(turn, turn.Size+1, number), -1)
		wantNumber(t, "VisitsOf no points", turn, impl.VisitsOf(turn, number, 0), 0)
		wantNumber(t, "VisitsOf one point", turn, impl.VisitsOf(turn, number, 1), min(number, 1))
		wantNumber(t, "VisitsOf all points", turn, impl.VisitsOf(turn, number, turn.Size), number)
		wantNumber(t, "VisitsOf one point more", turn, impl.VisitsOf(turn, number, turn.Size+1), -1)
	})
}

func TestPromise35StepsOfOne(t *testing.T) {
	ones, others := stepsOfOne()
	for place, turn := range ones {
		other := others[place]
		for many := range turn.Size + 1 {
			for wide := range turn.Size + 1 {
				wantNumber(t, "VisitsOf", turn, impl.VisitsOf(turn, many, wide), min(many, wide))
				// The other way it is at 0, and then at the greatest points.
				want := min(many, wide, 1) + max(0, min(wide, many+wide-1-turn.Size))
				if wide == turn.Size {
					want = many
				}
				wantNumber(t, "VisitsOf", other, impl.VisitsOf(other, many, wide), want)
			}
		}
	}
}

func TestPromise35KnownVisits(t *testing.T) {
	for wide, want := range []int{0, 1, 1, 2, 2, 2, 2, 2, 3, 3, 4, 4, 4} {
		wantNumber(t, "VisitsOf", fifths, impl.VisitsOf(fifths, 4, wide), want)
	}
	for many, want := range []int{0, 1, 1, 2, 2, 2, 2, 2, 3, 3, 3, 3, 3} {
		wantNumber(t, "VisitsOf", fifths, impl.VisitsOf(fifths, many, 3), want)
	}
	wantNumber(t, "VisitsOf", golden, impl.VisitsOf(golden, 5, 20), 2)
	wantNumber(t, "VisitsOf", golden, impl.VisitsOf(golden, 20, 5), 2)
}

// eachBadVisit calls with turns that are none, and with numbers of times and of points that are none of those in 0..Size.
func eachBadVisit(call func(turn impl.Turn, many int, wide int)) {
	eachBadLetters(func(turn impl.Turn, number int) {
		for _, other := range []int{-1, 0, 1, turn.Size, number, math.MaxInt} {
			call(turn, number, other)
			call(turn, other, number)
		}
	})
}

func TestPromise35BadArguments(t *testing.T) {
	eachBadVisit(func(turn impl.Turn, many int, wide int) {
		wantNumber(t, "VisitsOf of none", turn, impl.VisitsOf(turn, many, wide), -1)
	})
}

func TestPromise36ExcessIsMoreThanTheShare(t *testing.T) {
	eachMany(0, func(turn impl.Turn, wide int) {
		for many, want := range excesses(turn, wide) {
			wantExcess(t, turn, many, wide, want)
		}
	})
}

func TestPromise36TheExcessIsToldByAFewPoints(t *testing.T) {
	eachMany(0, func(turn impl.Turn, many int) {
		for wide := range turn.Size {
			want, ok := impl.ExcessBy(turn, many, impl.TimeOf(turn, wide))
			if !ok {
				t.Fatalf("%v has no excess of %d points at %d times by few points", turn, wide, many)
			}
			wantExcess(t, turn, many, wide, want)
		}
	})
}

func TestPromise36TheEnds(t *testing.T) {
	eachMany(0, func(turn impl.Turn, number int) {
		wantExcess(t, turn, 0, number, 0)
		wantExcess(t, turn, turn.Size, number, 0)
		wantExcess(t, turn, number, 0, 0)
		wantExcess(t, turn, number, turn.Size, 0)
		if number > 0 {
			wantExcess(t, turn, 1, number, turn.Size-number)
			wantExcess(t, turn, number, 1, turn.Size-number)
		}
		wantNoExcess(t, turn, turn.Size+1, number)
		wantNoExcess(t, turn, number, turn.Size+1)
	})
}

func TestPromise36StepsOfOne(t *testing.T) {
	ones, others := stepsOfOne()
	for place, turn := range ones {
		for many := 1; many <= turn.Size; many++ {
			for wide := 1; wide <= turn.Size; wide++ {
				wantExcess(t, turn, many, wide, turn.Size*min(many, wide)-many*wide)
				// The other way the greatest points come first behind 0.
				wantExcess(t, others[place], many, wide, turn.Size*(1+max(0, many-1-turn.Size+wide))-many*wide)
			}
		}
	}
}

func TestPromise36KnownNumbers(t *testing.T) {
	for many, want := range []int{0, 9, 6, 15, 12, 9, 6, 3, 12, 9, 6, 3, 0} {
		wantExcess(t, fifths, many, 3, want)
	}
	for wide, want := range []int{0, 8, 4, 12, 8, 4, 0, -4, 4, 0, 8, 4, 0} {
		wantExcess(t, fifths, 4, wide, want)
	}
	wantExcess(t, impl.Turn{Size: 2, Step: 1}, 1, 1, 1)
	wantExcess(t, impl.Turn{Size: 60, Step: 1}, 30, 30, 900)
	wantExcess(t, impl.Turn{Size: 60, Step: 59}, 30, 30, -840)
	wantExcess(t, golden, 5, 20, 10)
}

func TestPromise36BadArguments(t *testing.T) {
	eachBadVisit(func(turn impl.Turn, many int, wide int) {
		wantNoExcess(t, turn, many, wide)
	})
}

func TestPromise37SpansOfTheExcess(t *testing.T) {
	eachMany(0, func(turn impl.Turn, wide int) {
		list := excesses(turn, wide)
		wantNumber(t, "SpanOf", turn, impl.SpanOf(turn, wide), slices.Max(list)-slices.Min(list))
	})
}

func TestPromise37FewStepsMakeASmallExcess(t *testing.T) {
	eachMany(0, func(turn impl.Turn, wide int) {
		if wide == turn.Size {
			return
		}
		span, bound := impl.SpanOf(turn, wide), (turn.Size-1)*impl.TimeOf(turn, wide)
		if span < 0 || span > bound {
			t.Fatalf("the span of %d points of %v is %d, and at most %d", wide, turn, span, bound)
		}
	})
}

func TestPromise37TheEnds(t *testing.T) {
	for _, turn := range allTurns() {
		wantNumber(t, "SpanOf no points", turn, impl.SpanOf(turn, 0), 0)
		wantNumber(t, "SpanOf one point", turn, impl.SpanOf(turn, 1), turn.Size-1)
		wantNumber(t, "SpanOf all points but one", turn, impl.SpanOf(turn, turn.Size-1), turn.Size-1)
		wantNumber(t, "SpanOf all points", turn, impl.SpanOf(turn, turn.Size), 0)
		wantNumber(t, "SpanOf one point more", turn, impl.SpanOf(turn, turn.Size+1), -1)
	}
}

func TestPromise37StepsOfOne(t *testing.T) {
	ones, others := stepsOfOne()
	for place, turn := range ones {
		for wide := range turn.Size + 1 {
			wantNumber(t, "SpanOf", turn, impl.SpanOf(turn, wide), wide*(turn.Size-wide))
			wantNumber(t, "SpanOf", others[place], impl.SpanOf(others[place], wide), wide*(turn.Size-wide))
		}
	}
}

func TestPromise37KnownSpans(t *testing.T) {
	for wide, want := range []int{0, 11, 12, 15, 16, 11, 12, 11, 16, 15, 12, 11, 0} {
		wantNumber(t, "SpanOf", fifths, impl.SpanOf(fifths, wide), want)
	}
	wantNumber(t, "SpanOf", impl.Turn{Size: 2, Step: 1}, impl.SpanOf(impl.Turn{Size: 2, Step: 1}, 1), 1)
	wantNumber(t, "SpanOf", golden, impl.SpanOf(golden, 34), 54)
}

func TestPromise37BadArguments(t *testing.T) {
	eachBadLetters(func(turn impl.Turn, wide int) {
		wantNumber(t, "SpanOf of none", turn, impl.SpanOf(turn, wide), -1)
	})
}

func TestPromise38EachStepAddsOneDifference(t *testing.T) {
	eachMany(0, func(turn impl.Turn, many int) {
		points := walk(turn)
		for time, point := range points {
			want, ok := impl.ExcessOf(turn, many, point)
			if !ok {
				t.Fatalf("%v has no excess of %d points at %d times", turn, point, many)
			}
			wantExcessBy(t, turn, many, time, want)
			wantExcessBy(t, turn, many, time, plainFew(points, many, time))
			if bound := time * (turn.Size - 1); want > bound || want < -bound {
				t.Fatalf("the excess of %v at time %d, and at %d times, is %d, and at most %d", turn, time, many, want, bound)
			}
		}
	})
}

func TestPromise38TheFirstTimeAndTheLastTime(t *testing.T) {
	eachMany(0, func(turn impl.Turn, many int) {
		wantExcessBy(t, turn, many, 0, 0)
		last := turn.Size - 1
		wantExcessBy(t, turn, many, last, excesses(turn, walk(turn)[last])[many])
		wantNoExcessBy(t, turn, many, turn.Size)
		wantNoExcessBy(t, turn, turn.Size+1, 0)
		wantNoExcessBy(t, turn, turn.Size+1, last)
	})
}

func TestPromise38NoTimesOneTimeAndAllTimes(t *testing.T) {
	for _, turn := range allTurns() {
		for time, point := range walk(turn) {
			wantExcessBy(t, turn, 0, time, 0)
			wantExcessBy(t, turn, turn.Size, time, 0)
			if time > 0 {
				wantExcessBy(t, turn, 1, time, turn.Size-point)
			}
		}
	}
}

func TestPromise38StepsOfOne(t *testing.T) {
	ones, others := stepsOfOne()
	for place, turn := range ones {
		for many := 1; many <= turn.Size; many++ {
			for time := 1; time < turn.Size; time++ {
				wantExcessBy(t, turn, many, time, turn.Size*min(many, time)-many*time)
				// The other way it is at 0, and below the point at the time just later.
				wantExcessBy(t, others[place], many, time, turn.Size*(1+max(0, many-1-time))-many*(turn.Size-time))
			}
		}
	}
}

func TestPromise38KnownNumbers(t *testing.T) {
	// The last points are 5, 10 and 3, and of the first four the last ones are 9, 2 and 7.
	for time, want := range []int{0, -4, 4, 0, 8} {
		wantExcessBy(t, fifths, 4, time, want)
	}
	// Behind 0 one goes on back from the last point, 5, on.
	for many, want := range []int{0, 3, 6, 9, 0} {
		wantExcessBy(t, fifths, many, 3, want)
	}
	for many, want := range []int{0, 1, 0} {
		wantExcessBy(t, two, many, 1, want)
	}
	wantExcessBy(t, impl.Turn{Size: 60, Step: 1}, 30, 30, 900)
	wantExcessBy(t, impl.Turn{Size: 60, Step: 59}, 30, 30, -840)
}

func TestPromise38BadArguments(t *testing.T) {
	for _, turn := range allTurns() {
		for _, time := range outside(turn.Size) {
			for _, many := range []int{-1, 0, 1, turn.Size, turn.Size + 1, math.MaxInt} {
				wantNoExcessBy(t, turn, many, time)
			}
		}
		for _, many := range outside(turn.Size + 1) {
			for _, time := range []int{-1, 0, 1, turn.Size - 1, turn.Size, math.MinInt} {
				wantNoExcessBy(t, turn, many, time)
			}
		}
	}
	for _, turn := range badTurns() {
		for _, many := range someNumbers(turn) {
			for _, time := range someNumbers(turn) {
				wantNoExcessBy(t, turn, many, time)
			}
		}
	}
}
