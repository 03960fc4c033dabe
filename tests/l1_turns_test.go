package tests

import (
	"math"
	"testing"

	"loop.example/roundturns/impl"
)

func TestPromise1StepsHaveNothingInCommon(t *testing.T) {
	for size := -3; size <= impl.MaxSize+3; size++ {
		for step := -3; step <= size+3; step++ {
			turn := impl.Turn{Size: size, Step: step}
			want := size >= 2 && size <= impl.MaxSize && step >= 1 && step < size && plainDivisor(size, step) == 1
			if got := impl.TurnOk(turn); got != want {
				t.Fatalf("TurnOk of %v is %v", turn, got)
			}
			if impl.TurnOk(impl.Turn{Size: size, Step: size - step}) != want {
				t.Fatalf("the other way TurnOk of %v is another", turn)
			}
		}
	}
}

func TestPromise1GreatestNumberOfPoints(t *testing.T) {
	if impl.MaxSize != 60 || !impl.TurnOk(impl.Turn{Size: 60, Step: 59}) || impl.TurnOk(impl.Turn{Size: 61, Step: 60}) {
		t.Fatalf("the greatest number of points is %d", impl.MaxSize)
	}
	if many := len(allTurns()); many != 1101 {
		t.Fatalf("the tests know %d turns", many)
	}
}

func TestPromise1StepsOfOne(t *testing.T) {
	for size := 2; size <= impl.MaxSize; size++ {
		if !impl.TurnOk(impl.Turn{Size: size, Step: 1}) {
			t.Fatalf("a step of 1 is no step of %d points", size)
		}
	}
	if impl.TurnOk(impl.Turn{Size: 2, Step: 2}) || impl.TurnOk(impl.Turn{Size: 2, Step: 0}) {
		t.Fatal("two points have one step")
	}
}

func TestPromise1BadTurns(t *testing.T) {
	for _, turn := range badTurns() {
		if impl.TurnOk(turn) || impl.TurnOk(impl.Turn{Size: turn.Size, Step: turn.Size - turn.Step}) {
			t.Fatalf("%v is no turn, nor the other way round", turn)
		}
	}
}

func TestPromise2EachPointHasItsTime(t *testing.T) {
	for _, turn := range allTurns() {
		wantNumber(t, "the point at 0", turn, impl.PointOf(turn, 0), 0)
		wantNumber(t, "the point at 1", turn, impl.PointOf(turn, 1), turn.Step)
		for time, point := range walk(turn) {
			wantNumber(t, "PointOf", turn, impl.PointOf(turn, time), point)
			wantNumber(t, "the time of the point", turn, impl.TimeOf(turn, impl.PointOf(turn, time)), time)
		}
	}
}

func TestPromise2BadArguments(t *testing.T) {
	for _, turn := range allTurns() {
		for _, time := range outside(turn.Size) {
			wantNumber(t, "PointOf at no time", turn, impl.PointOf(turn, time), -1)
		}
	}
	for _, turn := range badTurns() {
		for _, time := range []int{0, 1, -1, math.MaxInt, math.MinInt} {
			wantNumber(t, "PointOf", turn, impl.PointOf(turn, time), -1)
		}
	}
}

func TestPromise3TimesAreOppositePoints(t *testing.T) {
	for _, turn := range allTurns() {
		opposite := impl.OppositeOf(turn)
		for time, point := range walk(turn) {
			wantNumber(t, "TimeOf", turn, impl.TimeOf(turn, point), time)
			wantNumber(t, "the opposite point", turn, impl.PointOf(opposite, point), time)
			wantNumber(t, "the point at the time", turn, impl.PointOf(turn, impl.TimeOf(turn, point)), point)
		}
	}
}

func TestPromise3BadArguments(t *testing.T) {
	for _, turn := range allTurns() {
		for _, point := range outside(turn.Size) {
			wantNumber(t, "TimeOf at no point", turn, impl.TimeOf(turn, point), -1)
		}
	}
	for _, turn := range badTurns() {
		for _, point := range []int{0, 1, -1, math.MaxInt, math.MinInt} {
			wantNumber(t, "TimeOf", turn, impl.TimeOf(turn, point), -1)
		}
	}
}

func TestPromise4OppositeOfOpposite(t *testing.T) {
	for _, turn := range allTurns() {
		opposite := impl.OppositeOf(turn)
		if !impl.TurnOk(opposite) || opposite.Size != turn.Size || opposite.Step*turn.Step%turn.Size != 1 {
			t.Fatalf("the opposite turn of %v is %v", turn, opposite)
		}
		wantNumber(t, "the step of the opposite turn", turn, opposite.Step, impl.TimeOf(turn, 1))
		wantTurn(t, "the opposite of the opposite", turn, impl.OppositeOf(opposite), turn)
		both, ok := impl.BothSteps(turn, opposite)
		if !ok {
			t.Fatalf("%v and its opposite turn have no step together", turn)
		}
		wantTurn(t, "both steps", turn, both, impl.Turn{Size: turn.Size, Step: 1})
	}
}

func TestPromise4KnownOpposites(t *testing.T) {
	known := map[impl.Turn]int{
		{Size: 2, Step: 1}:                               1,
		{Size: 3, Step: 2}:                               2,
		{Size: 10, Step: 3}:                              7,
		{Size: 12, Step: 7}:                              7,
		{Size: 59, Step: 2}:                              30,
		{Size: 60, Step: 7}:                              43,
		{Size: impl.MaxSize, Step: 1}:                    1,
		{Size: impl.MaxSize, Step: 59}:                   59,
		{Size: impl.MaxSize - 1, Step: impl.MaxSize - 2}: 58,
	}
	for turn, step := range known {
		wantTurn(t, "OppositeOf", turn, impl.OppositeOf(turn), impl.Turn{Size: turn.Size, Step: step})
	}
	for _, turn := range badTurns() {
		wantTurn(t, "OppositeOf", turn, impl.OppositeOf(turn), impl.Turn{})
	}
}

func TestPromise5OtherWay(t *testing.T) {
	for _, turn := range allTurns() {
		back := impl.BackTurn(turn)
		wantTurn(t, "BackTurn", turn, back, impl.Turn{Size: turn.Size, Step: turn.Size - turn.Step})
		if !impl.TurnOk(back) {
			t.Fatalf("%v is no turn", back)
		}
		wantTurn(t, "the other way again", turn, impl.BackTurn(back), turn)
		wantNumber(t, "the other way at 0", turn, impl.PointOf(back, 0), 0)
		for time := 1; time < turn.Size; time++ {
			wantNumber(t, "both points", turn, impl.PointOf(turn, time)+impl.PointOf(back, time), turn.Size)
		}
	}
	wantTurn(t, "BackTurn", two, impl.BackTurn(two), two)
}

func TestPromise5BadTurns(t *testing.T) {
	for _, turn := range badTurns() {
		wantTurn(t, "BackTurn", turn, impl.BackTurn(turn), impl.Turn{})
	}
}

func TestPromise6NoPointComesTwice(t *testing.T) {
	for _, turn := range allTurns() {
		walked := walk(turn)
		for many := 1; many <= turn.Size; many++ {
			points := impl.FirstPoints(turn, many)
			wantList(t, "FirstPoints", turn, points, walked[:many])
			if len(noneTwice(points)) != many {
				t.Fatalf("of the first %d points of %v one comes twice: %v", many, turn, points)
			}
		}
		there := noneTwice(impl.FirstPoints(turn, turn.Size))
		for point := range turn.Size {
			if !there[point] {
				t.Fatalf("%v never comes to %d", turn, point)
			}
		}
	}
}

func noneTwice(points []int) map[int]bool {
	there := map[int]bool{}
	for _, point := range points {
		there[point] = true
	}
	return there
}

func TestPromise6KnownPoints(t *testing.T) {
	wantList(t, "FirstPoints", fifths, impl.FirstPoints(fifths, 5), []int{0, 7, 2, 9, 4})
	wantList(t, "FirstPoints", two, impl.FirstPoints(two, 1), []int{0})
	wantList(t, "FirstPoints", two, impl.FirstPoints(two, 2), []int{0, 1})
	ones := impl.Turn{Size: impl.MaxSize, Step: 1}
	for time, point := range impl.FirstPoints(ones, impl.MaxSize) {
		wantNumber(t, "the point with a step of 1", ones, point, time)
	}
}

func TestPromise6BadArguments(t *testing.T) {
	for _, turn := range allTurns() {
		for _, many := range []int{0, -1, turn.Size + 1, impl.MaxSize + 1, math.MaxInt, math.MinInt} {
			wantList(t, "FirstPoints of none", turn, impl.FirstPoints(turn, many), nil)
		}
	}
	for _, turn := range badTurns() {
		for _, many := range []int{0, 1, turn.Size, math.MaxInt, math.MinInt} {
			wantList(t, "FirstPoints", turn, impl.FirstPoints(turn, many), nil)
		}
	}
}

func TestPromise6PointsAreNewEachTime(t *testing.T) {
	turn := impl.Turn{Size: 12, Step: 7}
	first := impl.FirstPoints(turn, 4)
	second := impl.FirstPoints(turn, 4)
	whole := first[:cap(first)]
	for i := range whole {
		whole[i] = -1
	}
	wantList(t, "FirstPoints", turn, second, []int{0, 7, 2, 9})
	wantList(t, "FirstPoints", turn, impl.FirstPoints(turn, 4), []int{0, 7, 2, 9})
}

func TestPromise7StepsOfSteps(t *testing.T) {
	turns := allTurns()
	for _, first := range turns {
		for _, second := range turns {
			if first.Size != second.Size {
				continue
			}
			both, ok := impl.BothSteps(first, second)
			if !ok || !impl.TurnOk(both) || both.Size != first.Size {
				t.Fatalf("both steps of %v and %v are %v, %v", first, second, both, ok)
			}
			wantNumber(t, "the step of steps", first, both.Step, walk(first)[second.Step])
			wantNumber(t, "the point at 1 of both steps", first, impl.PointOf(both, 1), impl.PointOf(first, second.Step))
			exchanged, _ := impl.BothSteps(second, first)
			wantTurn(t, "both steps, exchanged,", first, exchanged, both)
		}
	}
}

func TestPromise7OtherSizes(t *testing.T) {
	turns := allTurns()
	for _, first := range turns {
		for _, second := range turns {
			if first.Size == second.Size {
				continue
			}
			if both, ok := impl.BothSteps(first, second); ok || both != (impl.Turn{}) {
				t.Fatalf("%v and %v have %v together, %v", first, second, both, ok)
			}
		}
	}
}

func TestPromise7BadTurns(t *testing.T) {
	for _, bad := range badTurns() {
		for _, other := range append(badTurns(), impl.Turn{Size: 12, Step: 7}, impl.Turn{Size: 2, Step: 1}) {
			for _, pair := range [][2]impl.Turn{{bad, other}, {other, bad}} {
				if both, ok := impl.BothSteps(pair[0], pair[1]); ok || both != (impl.Turn{}) {
					t.Fatalf("%v and %v have %v together, %v", pair[0], pair[1], both, ok)
				}
			}
		}
	}
}
