package impl

// Whole is how many steps a whole turn has.
const Whole = 24

// turnCountMax is the greatest size of a number of parts of a turn, and of a number of times that a turn is done.
const turnCountMax = 1000000

// turn is a number of 24th parts of a whole turn; only those from 0 to 23 are valid.
type turn int

// turnNames has the text of each turn at its index, so that writing and reading cannot disagree.
var turnNames = [Whole]string{
	"0", "1/24", "1/12", "1/8", "1/6", "5/24",
	"1/4", "7/24", "1/3", "3/8", "5/12", "11/24",
	"1/2", "13/24", "7/12", "5/8", "2/3", "17/24",
	"3/4", "19/24", "5/6", "7/8", "11/12", "23/24",
}

// turnWithin returns the turn of a number of steps, without whole turns.
func turnWithin(steps int) turn {
	rest := steps % Whole
	if rest < 0 { // Go's remainder has the sign of the steps
		rest += Whole
	}
	return turn(rest)
}

func (t turn) valid() bool {
	return 0 <= t && t < Whole
}

func (t turn) plus(other turn) turn {
	return turnWithin(int(t) + int(other))
}

func (t turn) times(n int) turn {
	return turnWithin(int(t) * n)
}

func (t turn) order() int {
	return Whole / commonDivisor(int(t), Whole)
}

func (t turn) text() string {
	return turnNames[t]
}

// commonDivisor returns the greatest common divisor of two numbers that are not negative; that of 0 and a number is the number.
func commonDivisor(a int, b int) int {
	for b != 0 {
		a, b = b, a%b
	}
	return a
}

func turnCountInRange(n int) bool {
	return -turnCountMax <= n && n <= turnCountMax
}

// TurnOf returns the turn of num over den of a whole turn, without whole turns, and true.
// It fails if den does not divide 24 or is less than 1, or num is not in the range -1000000 to 1000000.
func TurnOf(num int, den int) (int, bool) {
	if den < 1 || Whole%den != 0 || !turnCountInRange(num) {
		return 0, false
	}
	return int(turnWithin(num * (Whole / den))), true
}

// TurnAdd returns the sum of two turns, and true. It fails if one of both is none.
func TurnAdd(a int, b int) (int, bool) {
	if !turn(a).valid() || !turn(b).valid() {
		return 0, false
	}
	return int(turn(a).plus(turn(b))), true
}

// TurnTimes returns a turn done n times, n from -1000000 to 1000000, and true. It fails if one of both is not as told.
func TurnTimes(a int, n int) (int, bool) {
	if !turn(a).valid() || !turnCountInRange(n) {
		return 0, false
	}
	return int(turn(a).times(n)), true
}

// TurnOrder returns the order of a turn, or 0 if it is none.
func TurnOrder(t int) int {
	if !turn(t).valid() {
		return 0
	}
	return turn(t).order()
}

// TurnText returns the text of a turn, or "" if it is none.
func TurnText(t int) string {
	if !turn(t).valid() {
		return ""
	}
	return turn(t).text()
}

// TurnRead returns the turn with a text, and true. It fails if there is none.
func TurnRead(s string) (int, bool) {
	for t, name := range turnNames {
		if name == s {
			return t, true
		}
	}
	return 0, false
}

// TurnGroup returns all turns that two turns make, done as often as one likes, in ascending order, and true.
// It fails if one of both is none.
func TurnGroup(a int, b int) ([]int, bool) {
	if !turn(a).valid() || !turn(b).valid() {
		return nil, false
	}
	// What two turns make are the multiples of their common divisor, whole turns being left out.
	step := commonDivisor(commonDivisor(a, b), Whole)
	group := make([]int, 0, Whole/step)
	for t := 0; t < Whole; t += step {
		group = append(group, t)
	}
	return group, true
}
