package impl

// MaxSize is the maximum number of points of a circle.
const MaxSize = 60

// Turn has so many points (Size), and goes on by so many at each time (Step).
type Turn struct {
	Size int
	Step int
}

// TurnOk reports whether a turn has 2..MaxSize points, and a step from 1 on and less than the points, that has no common divisor with them but 1.
func TurnOk(t Turn) bool {
	if t.Size < 2 || t.Size > MaxSize || t.Step < 1 || t.Step >= t.Size {
		return false
	}
	return commonDivisor(t.Size, t.Step) == 1
}

// PointOf returns the point of a turn (TurnOk) at a time, from 0 on and less than Size: what the time, times the step, leaves if it is divided by Size; -1 for others.
func PointOf(t Turn, time int) int {
	if !belowSize(t, time) {
		return -1
	}
	return pointAt(t, time)
}

// TimeOf returns the time, from 0 on and less than Size, at which a turn (TurnOk) is at a point, from 0 on and less than Size (PointOf); -1 for others.
func TimeOf(t Turn, point int) int {
	if !belowSize(t, point) {
		return -1
	}
	return point * oppositeStep(t) % t.Size
}

// OppositeOf returns the turn with as many points as a turn (TurnOk) whose step is the time at which it is at 1 (TimeOf); the zero value for others.
func OppositeOf(t Turn) Turn {
	if !TurnOk(t) {
		return Turn{}
	}
	return Turn{Size: t.Size, Step: TimeOf(t, 1)}
}

// BackTurn returns the turn with as many points as a turn (TurnOk) that goes the other way: its step is Size less Step; the zero value for others.
func BackTurn(t Turn) Turn {
	if !TurnOk(t) {
		return Turn{}
	}
	return Turn{Size: t.Size, Step: t.Size - t.Step}
}

// FirstPoints returns the points of a turn (TurnOk) at the first so many times, in 1..Size, from 0 on (PointOf); nil for others.
func FirstPoints(t Turn, many int) []int {
	if !TurnOk(t) || many < 1 || many > t.Size {
		return nil
	}
	points := make([]int, many)
	for time := range points {
		points[time] = pointAt(t, time)
	}
	return points
}

// BothSteps returns the turn with as many points as two turns (TurnOk) whose step is what the product of both steps leaves if it is divided by Size, and true; the zero value and false if they have not as many points, and for others.
func BothSteps(t Turn, u Turn) (Turn, bool) {
	if !TurnOk(t) || !TurnOk(u) || t.Size != u.Size {
		return Turn{}, false
	}
	return Turn{Size: t.Size, Step: t.Step * u.Step % t.Size}, true
}

// pointAt returns the point of a turn (TurnOk) at a time, from 0 on; it is PointOf without the check, for sums and rows that have made it once.
func pointAt(t Turn, time int) int {
	return time * t.Step % t.Size
}

// belowSize reports whether a turn is one (TurnOk), and a number is from 0 on and less than Size.
func belowSize(t Turn, number int) bool {
	return TurnOk(t) && number >= 0 && number < t.Size
}

// upToSize reports whether a turn is one (TurnOk), and a number is in 0..Size.
func upToSize(t Turn, number int) bool {
	return TurnOk(t) && number >= 0 && number <= t.Size
}

// commonDivisor returns the greatest common divisor of two numbers that are at least 0.
func commonDivisor(a int, b int) int {
	for b != 0 {
		a, b = b, a%b
	}
	return a
}

// oppositeStep returns the number, from 1 on and less than Size, that times the step of a turn (TurnOk) leaves 1 if it is divided by Size.
func oppositeStep(t Turn) int {
	// Each rest is what its factor, times the step, leaves if it is divided by Size; so the factor of the rest 1 is the one looked for.
	rest, next := t.Size, t.Step
	factor, nextFactor := 0, 1
	for next > 1 {
		quotient := rest / next
		rest, next = next, rest-quotient*next
		factor, nextFactor = nextFactor, factor-quotient*nextFactor
	}
	if nextFactor < 0 {
		return nextFactor + t.Size
	}
	return nextFactor
}
