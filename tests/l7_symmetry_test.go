package tests

import (
	"math/rand/v2"
	"slices"
	"testing"

	"loop.example/turningwheels/impl"
)

// far returns a wheel whose radius is no valid point when it is turned by 4 to 11, or by 16 to 23.
func far(speed int) impl.Wheel {
	return wheel(speed, 1000000, 0, 0, 0, 1000000)
}

// rootWheel returns a wheel with a radius of size 1 at a turn.
func rootWheel(speed int, turn int) impl.Wheel {
	return impl.Wheel{Speed: speed, Radius: impl.Cyc{C: rootsByHand[turnWithinByHand(turn)]}}
}

// movedByHand returns a design, tidy first, a turns later and then turned by b. It fails if there is no such design, or none on the way.
func movedByHand(d []impl.Wheel, a int, b int) ([]impl.Wheel, bool) {
	tidy, ok := tidyByHand(d)
	later := partsTurned(tidy, a, 0)
	moved := partsTurned(later, 0, b)
	return moved, ok && designByHand(later) && designByHand(moved)
}

// partsTurned turns each radius by so many times its speed, and more. The result may have any coefficients.
func partsTurned(d []impl.Wheel, times int, more int) []impl.Wheel {
	var turned []impl.Wheel
	for _, w := range d {
		radius := turnedByHand(w.Radius.C, turnWithinByHand(times*w.Speed+more))
		turned = append(turned, impl.Wheel{Speed: w.Speed, Radius: impl.Cyc{C: radius}})
	}
	return turned
}

// speedsByHand returns the speeds of the tidy design.
func speedsByHand(d []impl.Wheel) ([]int, bool) {
	tidy, ok := tidyByHand(d)
	var speeds []int
	for _, w := range tidy {
		speeds = append(speeds, w.Speed)
	}
	return speeds, ok
}

// greatestDivisor tries all numbers down from the greatest difference of two speeds. It returns 0 if each number divides all.
func greatestDivisor(numbers []int) int {
	for n := 2 * mostSpeed; n > 0; n-- {
		all, nothing := true, true
		for _, number := range numbers {
			all, nothing = all && number%n == 0, nothing && number == 0
		}
		if nothing {
			return 0
		}
		if all {
			return n
		}
	}
	return 0
}

func foldByHand(d []impl.Wheel) int {
	speeds, ok := speedsByHand(d)
	if !ok {
		return -1
	}
	var differences []int
	for _, speed := range speeds {
		for _, other := range speeds {
			differences = append(differences, speed-other)
		}
	}
	return greatestDivisor(differences)
}

func periodByHand(d []impl.Wheel) int {
	speeds, ok := speedsByHand(d)
	if !ok {
		return -1
	}
	return greatestDivisor(speeds)
}

// akinByHand tries all pairs of turns from the least number on.
func akinByHand(one []impl.Wheel, other []impl.Wheel) (int, bool) {
	first, firstOK := tidyByHand(one)
	second, secondOK := tidyByHand(other)
	for a := range steps {
		later := partsTurned(first, a, 0)
		for b := range steps {
			if firstOK && secondOK && designByHand(later) && slices.Equal(partsTurned(later, 0, b), second) {
				return steps*a + b, true
			}
		}
	}
	return 0, false
}

func mirroredByHand(d []impl.Wheel) bool {
	mirror, ok := changedByHand(d, sameSpeed, func(w impl.Wheel) [8]int { return mirrorByHand(w.Radius.C) })
	_, akin := akinByHand(d, mirror)
	return ok && akin
}

func stillByHand(d []impl.Wheel) ([]int, bool) {
	tidy, ok := tidyByHand(d)
	if !ok {
		return nil, false
	}
	var laterOnes [][]impl.Wheel
	for a := range steps {
		laterOnes = append(laterOnes, partsTurned(tidy, a, 0))
	}
	var still []int
	for b := range steps {
		turned := partsTurned(tidy, 0, b)
		isTurned := func(later []impl.Wheel) bool { return slices.Equal(later, turned) }
		if designByHand(turned) && slices.ContainsFunc(laterOnes, isTurned) {
			still = append(still, b)
		}
	}
	return still, true
}

func closedByHand(d []impl.Wheel, n int) bool {
	speeds, ok := speedsByHand(d)
	if !ok || !slices.Contains(divisors, n) {
		return false
	}
	first := 0
	if len(speeds) > 0 {
		first = speeds[0]
	}
	for turn := range steps {
		point, later := atByHand(d, turn), atByHand(d, (turn+steps/n)%steps)
		if !inCoefRange(point) || turnedByHand(later, turnWithinByHand(-steps/n*first)) != point {
			return false
		}
	}
	return true
}

// wantTurns checks a result with numbers: an empty list and false where the document tells that there is none.
func wantTurns(t *testing.T, what string, got []int, ok bool, want []int, wantOK bool) {
	t.Helper()
	if !slices.Equal(got, want) || ok != wantOK {
		t.Errorf("%s returned %v, %t and not %v, %t", what, got, ok, want, wantOK)
	}
}

// multiplesOf returns the turns that are multiples of a number.
func multiplesOf(n int) []int {
	var list []int
	for turn := 0; turn < steps; turn += n {
		list = append(list, turn)
	}
	return list
}

// beyondAtOneTurn returns a design whose point at one turn alone is none. Its fold is 1, or another one with speeds farther apart.
func beyondAtOneTurn(none int, apart int) []impl.Wheel {
	var d []impl.Wheel
	for speed := -6; speed <= 5; speed++ {
		d = append(d, impl.Wheel{Speed: speed * apart, Radius: impl.Cyc{C: sumByHand([8]int{}, rootsByHand[turnWithinByHand(-none*speed*apart)], 83334)}})
	}
	return d
}

// symmetricDesigns returns designs of all folds and periods that divide a whole turn, and of others, with and without axes, in several places.
func symmetricDesigns() [][]impl.Wheel {
	var list [][]impl.Wheel
	for _, fold := range []int{1, 2, 3, 4, 5, 6, 7, 8, 12, 24, 48, 100} {
		for _, first := range []int{-fold, -1, 0, 1, 2, fold / 2} {
			list = append(list,
				wheelsOf(first, first+fold),
				design(wheel(first+fold, 3), wheel(first, 1, 1), wheel(first+2*fold, 2)),
				design(rootWheel(first-fold, 5), wheel(first, 4), rootWheel(first+2*fold, 3), wheel(first, -1)),
				design(wheel(first, 1, 2), rootWheel(first+3*fold, 1), wheel(first-2*fold, 5)),
			)
		}
	}
	return list
}

// farDesigns returns designs that are beyond later or turned, by some turns.
func farDesigns() [][]impl.Wheel {
	var list [][]impl.Wheel
	for _, speed := range []int{-4, -1, 0, 1, 2, 3, 4, 6, 8, 12, 24} {
		list = append(list,
			design(far(speed)),
			design(far(speed), wheel(speed+3, 1)),
			design(wheel(speed-2, 1), far(speed), wheel(speed+4, 0, 1)),
			design(far(speed), far(speed+1)),
			design(far(speed), rootWheel(speed+8, 4), far(speed+16)),
			design(far(speed), wheel(speed, 0, 0, 0, 0, -1000000), wheel(speed, 0, 0, 0, 0, 1)),
		)
	}
	return list
}

// symmetryDesigns returns the designs that this chapter is tested with, the same ones each time.
func symmetryDesigns() [][]impl.Wheel {
	list := slices.Concat(validDesigns(), symmetricDesigns(), farDesigns())
	for _, none := range []int{0, 1, 5, 12, 23} {
		list = append(list, beyondAtOneTurn(none, 1), beyondAtOneTurn(none, 5), beyondAtOneTurn(none, 25))
	}
	return list
}

// akinPairs returns pairs of designs: the same one twice, moved ones, mirrored ones and others.
func akinPairs() [][2][]impl.Wheel {
	list := [][2][]impl.Wheel{{nil, {}}, {nil, wheelsOf(0)}, {wheelsOf(0), nil}, {nil, design(wheel(3, 1), wheel(3, -1))}}
	source := rand.New(rand.NewPCG(7, 24))
	designs := symmetryDesigns()
	for i, d := range designs {
		list = append(list, [2][]impl.Wheel{d, d}, [2][]impl.Wheel{d, designs[(i+1)%len(designs)]}, [2][]impl.Wheel{d, nil})
		for range 4 {
			// Where a radius is beyond, the moved one is no design: nothing is akin to it.
			moved, _ := movedByHand(d, source.IntN(steps), source.IntN(steps))
			list = append(list, [2][]impl.Wheel{d, moved}, [2][]impl.Wheel{moved, d})
		}
		back, _ := impl.DesignBack(d)
		mirror, _ := impl.DesignMirror(d)
		list = append(list, [2][]impl.Wheel{d, back}, [2][]impl.Wheel{d, mirror})
		if len(d) > 1 {
			list = append(list, [2][]impl.Wheel{d, d[1:]}, [2][]impl.Wheel{d[1:], d})
			other := slices.Clone(d)
			other[len(d)-1].Radius.C[source.IntN(8)] ^= 1
			list = append(list, [2][]impl.Wheel{d, other})
		}
	}
	return list
}

func TestFoldAndPeriodTold(t *testing.T) {
	cases := []struct {
		d            []impl.Wheel
		fold, period int
	}{
		{nil, 0, 0},
		{wheelsOf(0), 0, 0},
		{wheelsOf(1), 0, 1},
		{wheelsOf(-1), 0, 1},
		{wheelsOf(7), 0, 7},
		{wheelsOf(-1000), 0, 1000},
		{design(wheel(5)), 0, 0},
		{wheelsOf(0, 0, 0), 0, 0},
		{design(wheel(0, 1), wheel(0, 2), wheel(0, -3)), 0, 0},
		{design(wheel(4, 1), wheel(0, 7), wheel(4, -1)), 0, 0},
		{wheelsOf(3, 3), 0, 3},
		{wheelsOf(0, 1), 1, 1},
		{wheelsOf(5, 6), 1, 1},
		{wheelsOf(-1, 0), 1, 1},
		{wheelsOf(0, 24), 24, 24},
		{wheelsOf(1, 25), 24, 1},
		{wheelsOf(-12, 12), 24, 12},
		{wheelsOf(-1000, 1000), 2000, 1000},
		{wheelsOf(-999, 1000), 1999, 1},
		{wheelsOf(0, 0, 6), 6, 6},
		{wheelsOf(0, -6), 6, 6},
		{wheelsOf(1, -2), 3, 1},
		{wheelsOf(2, -4), 6, 2},
		{wheelsOf(-2, 10), 12, 2},
		{wheelsOf(-10, -4), 6, 2},
		{wheelsOf(7, 1, 4), 3, 1},
		{wheelsOf(-8, 4, 16), 12, 4},
		{wheelsOf(0, 4, 10), 2, 2},
		{wheelsOf(4, 10, 14), 2, 2},
		{wheelsOf(6, 10, 15), 1, 1},
		{wheelsOf(6, 21, 36), 15, 3},
		{wheelsFromTo(1, 12, 1), 1, 1},
		{wheelsOf(1, 3, 5, 7, 9, 11, 13, 15, 17, 19, 21, 23), 2, 1},
		// Wheels that are not left when tidy do not count.
		{design(wheel(1, 1), wheel(2), wheel(4, 1)), 3, 1},
		{design(wheel(2, 1), wheel(3, 1), wheel(6, 1), wheel(3, -1)), 4, 2},
		{design(wheel(1, 1), wheel(1, -1), wheel(1, 1000000), wheel(9, 1)), 8, 1},
		// There is no tidy design.
		{design(wheel(1, 1000000), wheel(1, 1)), -1, -1},
		{design(wheel(1, 1000000), wheel(1, 1), wheel(1, -1)), -1, -1},
		{wheelsOf(1001), -1, -1},
		{wheelsFromTo(1, 13, 1), -1, -1},
		{make([]impl.Wheel, 13), -1, -1},
	}
	for _, c := range cases {
		if got := impl.DesignFold(c.d); got != c.fold {
			t.Errorf("%s returned %d and not %d", namedDesigns("DesignFold", c.d), got, c.fold)
		}
		if got := impl.DesignPeriod(c.d); got != c.period {
			t.Errorf("%s returned %d and not %d", namedDesigns("DesignPeriod", c.d), got, c.period)
		}
	}
}

// TestFoldAndPeriodOfTwo takes two wheels of all kinds of speeds.
func TestFoldAndPeriodOfTwo(t *testing.T) {
	for first := -30; first <= 30; first++ {
		for second := -30; second <= 30; second++ {
			d := wheelsOf(first, second)
			if got := impl.DesignFold(d); got != max(first-second, second-first) {
				t.Errorf("%s returned %d", namedDesigns("DesignFold", d), got)
			}
			if got, want := impl.DesignPeriod(d), greatestDivisor([]int{first, second}); got != want {
				t.Errorf("%s returned %d and not %d", namedDesigns("DesignPeriod", d), got, want)
			}
		}
	}
}

func TestDesignFoldPromise(t *testing.T) {
	told := 0
	for _, d := range symmetryDesigns() {
		what := namedDesigns("DesignFold", d)
		fold := impl.DesignFold(d)
		if want := foldByHand(d); fold != want {
			t.Errorf("%s returned %d and not %d", what, fold, want)
		}
		for _, n := range divisors {
			if fold <= 0 || fold%n != 0 {
				continue
			}
			speeds, _ := speedsByHand(d)
			later, laterOK := impl.DesignLater(d, steps/n%steps)
			turned, turnedOK := impl.DesignTurned(d, turnWithinByHand(steps/n*speeds[0]))
			if laterOK && turnedOK {
				told++
				wantDesign(t, named(what+" later by the part", n), later, true, turned, true)
			}
		}
	}
	if told < 500 {
		t.Errorf("a later and a turned design are told %d times", told)
	}
}

func TestDesignPeriodPromise(t *testing.T) {
	told := 0
	for _, d := range symmetryDesigns() {
		what := namedDesigns("DesignPeriod", d)
		period := impl.DesignPeriod(d)
		if want := periodByHand(d); period != want {
			t.Errorf("%s returned %d and not %d", what, period, want)
		}
		if period <= 0 {
			continue
		}
		tidy, tidyOK := impl.DesignTidy(d)
		for _, n := range divisors {
			later, laterOK := impl.DesignLater(d, steps/n%steps)
			if period%n == 0 && laterOK {
				told++
				wantDesign(t, named(what+" later by the part", n), later, true, tidy, tidyOK)
			}
		}
		if faster, ok := impl.DesignFaster(d, 2); ok && impl.DesignPeriod(faster) != 2*period {
			t.Errorf("%s is %d, but %d twice as fast", what, period, impl.DesignPeriod(faster))
		}
	}
	if told < 500 {
		t.Errorf("a later design is told %d times", told)
	}
}

func TestDesignSpeedsTold(t *testing.T) {
	cases := []struct {
		d    []impl.Wheel
		want []int
		ok   bool
	}{
		{nil, nil, true},
		{wheelsOf(0), []int{0}, true},
		{wheelsOf(-7), []int{-7}, true},
		{wheelsOf(2, 1), []int{1, 2}, true},
		{wheelsOf(1000, -1000, 0), []int{-1000, 0, 1000}, true},
		{wheelsOf(5, 3, 5, -3, 5), []int{-3, 3, 5}, true},
		{design(wheel(4)), nil, true},
		{design(wheel(4, 1), wheel(2, 1), wheel(4, -1)), []int{2}, true},
		{wheelsFromTo(-5, 6, 1), []int{-5, -4, -3, -2, -1, 0, 1, 2, 3, 4, 5, 6}, true},
		{design(wheel(1, 1), wheel(1, -1), wheel(1, 1000000)), []int{1}, true},
		{design(wheel(1, 1000000), wheel(1, 1), wheel(1, -1)), nil, false},
		{wheelsOf(1, 1001), nil, false},
		{wheelsFromTo(1, 13, 1), nil, false},
	}
	for _, c := range cases {
		got, ok := impl.DesignSpeeds(c.d)
		wantTurns(t, namedDesigns("DesignSpeeds", c.d), got, ok, c.want, c.ok)
	}
}

func TestDesignSpeedsPromise(t *testing.T) {
	for _, d := range symmetryDesigns() {
		what := namedDesigns("DesignSpeeds", d)
		got, ok := impl.DesignSpeeds(d)
		want, wantOK := speedsByHand(d)
		if !wantOK {
			want = nil
		}
		wantTurns(t, what, got, ok, want, wantOK)
		tidy, tidyOK := impl.DesignTidy(d)
		if ok != tidyOK || len(got) != len(tidy) {
			t.Errorf("%s has %d speeds, and the tidy design %d wheels", what, len(got), len(tidy))
		}
		for i := range got {
			if i > 0 && got[i-1] >= got[i] {
				t.Errorf("%s returned %v, which does not ascend", what, got)
			}
		}
	}
}

func TestDesignAkinTold(t *testing.T) {
	trefoil := design(wheel(1, 2), wheel(-2, 1))
	turning := wheelsOf(0, 1)
	strange := design(wheel(1, 1, 2, 3, 4, 5, 6, 7, 8), wheel(2, 1))
	cases := []struct {
		a, b []impl.Wheel
		want int
		ok   bool
	}{
		{nil, nil, 0, true},
		{nil, design(wheel(3)), 0, true},
		{design(wheel(3, 1), wheel(3, -1)), nil, 0, true},
		{nil, wheelsOf(0), 0, false},
		{wheelsOf(0), nil, 0, false},
		{wheelsOf(0), wheelsOf(0), 0, true},
		{wheelsOf(5), wheelsOf(5), 0, true},
		{wheelsOf(5), wheelsOf(-5), 0, false},
		{wheelsOf(5), wheelsOf(29), 0, false},
		{wheelsOf(5), design(wheel(5, 2)), 0, false},
		{wheelsOf(5), wheelsOf(5, 6), 0, false},
		{wheelsOf(5, 6), wheelsOf(5), 0, false},
		{wheelsOf(5, 6), wheelsOf(6), 0, false},
		{wheelsOf(6, 5), wheelsOf(5, 6), 0, true},
		{wheelsOf(5, 5), design(wheel(5, 2)), 0, true},
		{design(wheel(5, 1), wheel(7), wheel(5, 1)), design(wheel(9), wheel(5, 2)), 0, true},
		// One wheel is turned alone, even if it might also be later.
		{wheelsOf(0), design(rootWheel(0, 23)), 23, true},
		{wheelsOf(1), design(rootWheel(1, 7)), 7, true},
		{design(rootWheel(1, 7)), wheelsOf(1), 17, true},
		{wheelsOf(24), design(rootWheel(24, 11)), 11, true},
		{trefoil, trefoil, 0, true},
		{trefoil, design(rootWheel(-2, 5), wheel(1, 0, 0, 0, 0, 0, 2)), 5, true},
		// The wheel with the speed 0 tells how far they are turned, and the other one then how much later they are.
		{turning, design(wheel(0, 1), rootWheel(1, 1)), 24, true},
		{turning, design(wheel(0, 1), rootWheel(1, 3)), 72, true},
		{turning, design(wheel(0, 1), rootWheel(1, 23)), 552, true},
		{turning, design(rootWheel(0, 23), rootWheel(1, 22)), 575, true},
		{turning, design(rootWheel(0, 5), rootWheel(1, 5)), 5, true},
		{turning, design(rootWheel(0, 5), rootWheel(1, 8)), 77, true},
		{design(rootWheel(0, 5), rootWheel(1, 8)), turning, 21*24 + 19, true},
		{wheelsOf(-1, 0), design(rootWheel(-1, 1), wheel(0, 1)), 552, true},
		// There are several pairs of turns, of which the least number is told, though not the least second turn.
		{wheelsOf(1, 3), design(rootWheel(1, 13), rootWheel(3, 15)), 24 + 12, true},
		{wheelsOf(1, 3), design(rootWheel(1, 19), rootWheel(3, 3)), 4*24 + 15, true},
		{wheelsOf(1, 3), design(rootWheel(1, 2), rootWheel(3, 4)), 24 + 1, true},
		{wheelsOf(0, 2), design(wheel(0, 1), rootWheel(2, 2)), 24, true},
		{wheelsOf(0, 2), design(wheel(0, 1), rootWheel(2, 1)), 0, false},
		{wheelsOf(0, 12), design(wheel(0, 1), rootWheel(12, 12)), 24, true},
		{wheelsOf(0, 24), design(rootWheel(0, 9), rootWheel(24, 9)), 9, true},
		{wheelsOf(0, 24), design(rootWheel(0, 9), rootWheel(24, 10)), 0, false},
		{wheelsOf(0, 25), design(rootWheel(0, 9), rootWheel(25, 10)), 24 + 9, true},
		{wheelsOf(0, 5), design(wheel(0, 1), rootWheel(5, 1)), 5 * 24, true},
		// A third wheel may not fit where both others do.
		{wheelsOf(0, 1, 2), design(wheel(0, 1), rootWheel(1, 3), rootWheel(2, 6)), 72, true},
		{wheelsOf(0, 1, 2), design(wheel(0, 1), rootWheel(1, 3), rootWheel(2, 7)), 0, false},
		{wheelsOf(0, 1, 2), design(wheel(0, 1), rootWheel(1, 3), wheel(2, 2)), 0, false},
		{wheelsOf(0, 1, 2), design(wheel(0, 1), rootWheel(1, 3), rootWheel(3, 6)), 0, false},
		{strange, design(wheel(1, 1, 2, 3, 4, 5, 6, 7, 8), wheel(2, 1)), 0, true},
		{strange, design(wheel(1, 8, 7, 6, 5, 4, 3, 2, 1), wheel(2, 1)), 0, false},
		{strange, design(wheel(1, 6, 4, 3, 2, -5, -12, -10, -8), wheel(2, 1)), 0, false},
	}
	for _, c := range cases {
		got, ok := impl.DesignAkin(c.a, c.b)
		wantNumber(t, namedDesigns("DesignAkin", c.a, c.b), got, ok, c.want, c.ok)
	}
}

// TestDesignAkinOnTheWay takes designs that are beyond later or turned, by some turns.
func TestDesignAkinOnTheWay(t *testing.T) {
	opposite := func(speed int) impl.Wheel { return wheel(speed, -1000000, 0, 0, 0, -1000000) }
	cases := []struct {
		a, b []impl.Wheel
		want int
		ok   bool
	}{
		{design(far(1)), design(opposite(1)), 12, true},
		{wheelsOf(0, 1), design(rootWheel(0, 8), rootWheel(1, 12)), 4*24 + 8, true},
		// 4 turns later the second wheel is beyond, and no other pair of turns fits.
		{design(wheel(0, 1), far(1)), design(rootWheel(0, 8), opposite(1)), 0, false},
		// It is first later and then turned: 9 turns later the second wheel is beyond, and turned by 9 first it would be.
		{design(wheel(0, 1), far(1)), design(rootWheel(0, 3), opposite(1)), 0, false},
		{design(wheel(0, 1), far(1)), design(rootWheel(0, 9), opposite(1)), 3*24 + 9, true},
		// 4 turns later and turned by 8 is the least number, but beyond on the way; 12 turns later is not.
		{design(far(1), wheel(4, 1)), design(opposite(1), wheel(4, 1)), 12 * 24, true},
		{design(wheel(1, 1), wheel(4, 1)), design(wheel(1, -1), wheel(4, 1)), 4*24 + 8, true},
		// The tidy design is moved, not the wheels of which it is made.
		{design(wheel(0, 1), far(1), wheel(1, 0, 0, 0, 0, -1000000)), design(wheel(0, 1), wheel(1, 0, 0, 0, 0, 1000000)), 4 * 24, true},
		{design(wheel(0, 1), wheel(1, 999999), wheel(1, 0, 0, 0, 0, 2), wheel(1, 1, 0, 0, 0, -2)), design(wheel(0, 1), wheel(1, 0, 0, 0, 0, 1000000)), 4 * 24, true},
		// There is no tidy design.
		{design(wheel(1, 1000000), wheel(1, 1)), design(wheel(1, 1000000), wheel(1, 1)), 0, false},
		{design(wheel(1, 1000000), wheel(1, 1), wheel(1, -1)), design(wheel(1, 1000000)), 0, false},
		{design(wheel(1, 1000000)), design(wheel(1, 1000000), wheel(1, 1), wheel(1, -1)), 0, false},
		{design(wheel(1, 1000000), wheel(1, 1)), nil, 0, false},
		{nil, design(wheel(1, 1000000), wheel(1, 1)), 0, false},
	}
	for _, c := range cases {
		got, ok := impl.DesignAkin(c.a, c.b)
		wantNumber(t, namedDesigns("DesignAkin", c.a, c.b), got, ok, c.want, c.ok)
	}
}

// TestDesignAkinMoved moves designs of several folds by all pairs of turns.
func TestDesignAkinMoved(t *testing.T) {
	for _, d := range [][]impl.Wheel{nil, wheelsOf(0), wheelsOf(-5), wheelsOf(0, 1), wheelsOf(7, 1), wheelsOf(1, -2), wheelsOf(0, 8), wheelsOf(2, 26), wheelsOf(-1, 3, 9), design(far(1), wheel(4, 1))} {
		for number := range steps * steps {
			moved, ok := movedByHand(d, number/steps, number%steps)
			want, wantOK := akinByHand(d, moved)
			got, gotOK := impl.DesignAkin(d, moved)
			what := named(namedDesigns("DesignAkin of the moved", d), number)
			wantNumber(t, what, got, gotOK, want, wantOK)
			if ok && (!gotOK || got > number) {
				t.Errorf("%s is %d, %t", what, got, gotOK)
			}
		}
	}
}

func TestDesignAkinPromise(t *testing.T) {
	akin := 0
	for _, pair := range akinPairs() {
		a, b := pair[0], pair[1]
		what := namedDesigns("DesignAkin", a, b)
		got, ok := impl.DesignAkin(a, b)
		want, wantOK := akinByHand(a, b)
		wantNumber(t, what, got, ok, want, wantOK)
		if !ok {
			continue
		}
		akin++
		first, _ := impl.DesignTidy(a)
		later, laterOK := impl.DesignLater(first, got/steps)
		turned, turnedOK := impl.DesignTurned(later, got%steps)
		second, secondOK := impl.DesignTidy(b)
		wantDesign(t, what+" moved", turned, laterOK && turnedOK, second, secondOK)
		if impl.DesignFold(a) != impl.DesignFold(b) {
			t.Errorf("%s holds for the folds %d and %d", what, impl.DesignFold(a), impl.DesignFold(b))
		}
	}
	if akin < 1500 {
		t.Errorf("%d pairs of designs are akin", akin)
	}
}

func TestDesignMirroredTold(t *testing.T) {
	cases := []struct {
		d    []impl.Wheel
		want bool
	}{
		{nil, true},
		{design(wheel(3)), true},
		{wheelsOf(0), true},
		{wheelsOf(-7), true},
		{design(rootWheel(5, 3)), true},
		{design(wheel(5, 1, 1)), true},
		{design(wheel(5, 1, 2)), false},
		{design(wheel(0, 1, 2)), false},
		{design(wheel(1, 2), wheel(-2, 1)), true},
		{wheelsFromTo(-5, 6, 3), true},
		{design(wheel(1, 5), wheel(1, -5)), true},
		// The axis is another one than the real line, at another turn than 0.
		{design(rootWheel(0, 3), rootWheel(1, 3)), true},
		{design(wheel(0, 1), rootWheel(1, 1)), true},
		{design(rootWheel(0, 7), rootWheel(1, 20)), true},
		{design(rootWheel(0, 1), wheel(24, 1)), false},
		{design(wheel(0, 1), rootWheel(24, 12)), true},
		{design(wheel(0, 1), rootWheel(2, 1)), true},
		{design(wheel(0, 1), rootWheel(12, 3)), false},
		// Each wheel is mirrored by itself, but not all at once.
		{design(wheel(0, 1), wheel(1, 1), rootWheel(2, 1)), false},
		{design(wheel(0, 1), wheel(1, 1), rootWheel(2, 12)), true},
		{design(wheel(0, 1), rootWheel(1, 1), rootWheel(2, 2)), true},
		{design(wheel(1, 1), wheel(2, 1, 2)), false},
		{design(wheel(1, 2, 3, 4, 5), wheel(2, 1), wheel(5, 1)), false},
		// The mirrored design is none.
		{design(wheel(1, 1000000, 0, 0, 0, 1)), false},
		{design(wheel(1, 1000000), wheel(1, 0, 0, 0, 0, 1), wheel(1, 0, 0, 0, 0, -1)), false},
		{design(wheel(1, 0, 0, 0, 0, 1), wheel(1, 0, 0, 0, 0, -1), wheel(1, 1000000)), true},
		{design(wheel(1, 1000000), wheel(1, 0, 0, 0, 0, 1), wheel(1, -1000000, 0, 0, 0, -1)), false},
		// There is no tidy design.
		{design(wheel(1, 1000000), wheel(1, 1), wheel(1, -1)), false},
		{design(wheel(1, 1000000), wheel(1, 1)), false},
		// 3 times a turn is to be twice the other way.
		{design(wheel(0, 1), rootWheel(3, 6)), true},
		{design(wheel(0, 1), rootWheel(3, 7)), false},
	}
	for _, c := range cases {
		if got := impl.DesignMirrored(c.d); got != c.want {
			t.Errorf("%s returned %t", namedDesigns("DesignMirrored", c.d), got)
		}
	}
}

func TestDesignMirroredPromise(t *testing.T) {
	count := map[bool]int{}
	for _, d := range symmetryDesigns() {
		what := namedDesigns("DesignMirrored", d)
		got := impl.DesignMirrored(d)
		if want := mirroredByHand(d); got != want {
			t.Errorf("%s returned %t", what, got)
		}
		mirror, mirrorOK := impl.DesignMirror(d)
		back, backOK := impl.DesignBack(mirror)
		_, akin := impl.DesignAkin(d, back)
		if want := mirrorOK && backOK && akin; got != want {
			t.Errorf("%s returned %t, but DesignAkin tells %t", what, got, want)
		}
		if got && impl.DesignFold(d) != impl.DesignFold(back) {
			t.Errorf("%s holds for the folds %d and %d", what, impl.DesignFold(d), impl.DesignFold(back))
		}
		count[got]++
	}
	if count[true] < 50 || count[false] < 50 {
		t.Errorf("DesignMirrored holds for %d designs and not for %d", count[true], count[false])
	}
}

func TestDesignStillTold(t *testing.T) {
	cases := []struct {
		d    []impl.Wheel
		want []int
		ok   bool
	}{
		{nil, multiplesOf(1), true},
		{design(wheel(3)), multiplesOf(1), true},
		{design(wheel(1, 1), wheel(1, -1)), multiplesOf(1), true},
		{wheelsOf(0), []int{0}, true},
		{wheelsOf(1), multiplesOf(1), true},
		{wheelsOf(-5), multiplesOf(1), true},
		{wheelsOf(2), multiplesOf(2), true},
		{wheelsOf(-3), multiplesOf(3), true},
		{wheelsOf(20), multiplesOf(4), true},
		{wheelsOf(12), multiplesOf(12), true},
		{wheelsOf(24), []int{0}, true},
		{wheelsOf(25), multiplesOf(1), true},
		{wheelsOf(1000), multiplesOf(8), true},
		{wheelsOf(0, 1), []int{0}, true},
		{wheelsOf(1, -2), multiplesOf(8), true},
		{wheelsOf(1, 2), []int{0}, true},
		{wheelsOf(1, 3), multiplesOf(12), true},
		{wheelsOf(2, 4), []int{0}, true},
		{wheelsOf(1, 25), multiplesOf(1), true},
		{wheelsOf(2, 26), multiplesOf(2), true},
		{wheelsOf(1, 13), multiplesOf(2), true},
		{wheelsOf(1, 7), multiplesOf(4), true},
		{wheelsOf(5, 1, 9), multiplesOf(6), true},
		{wheelsOf(1, 3, 4), []int{0}, true},
		{design(wheel(1, 1, 2, 3, 4, 5, 6, 7, 8), wheel(4, 9)), multiplesOf(8), true},
		{design(wheel(1, 1), wheel(2, 1), wheel(3, 1), wheel(2, -1)), multiplesOf(12), true},
		// Turned by others they are beyond.
		{design(far(0)), []int{0}, true},
		{design(far(1)), []int{0, 1, 2, 3, 12, 13, 14, 15}, true},
		{design(far(2)), []int{0, 2, 12, 14}, true},
		{design(wheel(1, 1000000, 0, 0, 0, 1000000), wheel(4, 1)), []int{0}, true},
		{design(far(1), wheel(1, 0, 0, 0, 0, -1000000)), multiplesOf(1), true},
		{design(wheel(1, 1000000, 0, 0, 0, 1)), []int{0, 1, 2, 3, 12, 13, 14, 15}, true},
		{design(wheel(1, 1000000, 0, 0, 0, -1)), multiplesOf(1), true},
		// There is no tidy design.
		{design(wheel(1, 1000000), wheel(1, 1), wheel(1, -1)), nil, false},
		{design(wheel(1, 1000000), wheel(1, 1)), nil, false},
	}
	for _, c := range cases {
		got, ok := impl.DesignStill(c.d)
		wantTurns(t, namedDesigns("DesignStill", c.d), got, ok, c.want, c.ok)
	}
}

func TestDesignStillPromise(t *testing.T) {
	count := map[int]int{}
	for _, d := range symmetryDesigns() {
		what := namedDesigns("DesignStill", d)
		got, ok := impl.DesignStill(d)
		want, wantOK := stillByHand(d)
		wantTurns(t, what, got, ok, want, wantOK)
		if !ok {
			continue
		}
		count[len(got)]++
		if !slices.Contains(got, 0) {
			t.Errorf("%s returned %v, without 0", what, got)
		}
		for _, w := range d {
			if slices.Max(w.Radius.C[:]) > 1000/mostWheels || slices.Min(w.Radius.C[:]) < -1000/mostWheels {
				got = nil
			}
		}
		for _, turn := range got {
			if !slices.Contains(got, turnWithinByHand(-turn)) {
				t.Errorf("%s returned %v, without the opposite of %d", what, got, turn)
			}
		}
	}
	for _, n := range []int{1, 2, 3, 4, 6, 8, 12, 24} {
		if count[n] == 0 {
			t.Errorf("DesignStill has for no design %d turns", n)
		}
	}
}

func TestDesignClosedTold(t *testing.T) {
	cases := []struct {
		d    []impl.Wheel
		want []int
	}{
		{nil, divisors},
		{design(wheel(3)), divisors},
		{wheelsOf(0), divisors},
		{wheelsOf(1), divisors},
		{wheelsOf(-5), divisors},
		{wheelsOf(0, 1), []int{1}},
		{wheelsOf(5, 6), []int{1}},
		{wheelsOf(1, -1), []int{1, 2}},
		{wheelsOf(1, -2), []int{1, 3}},
		{wheelsOf(-1, 3), []int{1, 2, 4}},
		{wheelsOf(3, -3), []int{1, 2, 3, 6}},
		{wheelsOf(0, 8), []int{1, 2, 4, 8}},
		{wheelsOf(7, -5), []int{1, 2, 3, 4, 6, 12}},
		{wheelsOf(1, 25), divisors},
		{wheelsOf(-12, 12), divisors},
		{wheelsOf(0, 48), divisors},
		{wheelsOf(0, 5), []int{1}},
		{wheelsOf(0, 16), []int{1, 2, 4, 8}},
		{wheelsOf(0, 25), []int{1}},
		{wheelsOf(1, 3, 7), []int{1, 2}},
		{wheelsOf(1, 7, 4), []int{1, 3}},
		{wheelsOf(-4, 2, 8), []int{1, 2, 3, 6}},
		// At all turns both points are the same: the curve is closed, though its speeds do not tell so.
		{design(wheel(1, 5), wheel(3, 1), wheel(27, -1)), divisors},
		{design(wheel(1, 1), wheel(4, 1), wheel(5, 1), wheel(29, -1)), []int{1, 3}},
		// The first speed is that of the tidy design, even if this wheel is not the first one.
		{design(wheel(5, 1), wheel(0, 1), wheel(24, -1)), []int{1}},
		{design(wheel(5, 1), wheel(29, -1), wheel(1, 1)), divisors},
		{design(wheel(0), wheel(5, 1), wheel(8, 1)), []int{1, 3}},
		{design(wheel(0, 1), wheel(5, 1), wheel(8, 1), wheel(0, -1)), []int{1, 3}},
		{design(wheel(7, 1), wheel(1, 1), wheel(4, 1)), []int{1, 3}},
		// A point at a turn is none, or there is no tidy design.
		{design(wheel(0, 1000000), wheel(24, 1)), nil},
		{design(far(0)), divisors},
		{design(far(1)), nil},
		{design(wheel(1, 1000000), wheel(1, 1)), nil},
		{design(wheel(1, 1000000), wheel(1, 1), wheel(1, -1)), nil},
		{design(wheel(1, 1), wheel(1, -1), wheel(1, 1000000)), divisors},
	}
	for _, c := range cases {
		for n := -50; n <= 50; n++ {
			if got := impl.DesignClosed(c.d, n); got != slices.Contains(c.want, n) {
				t.Errorf("%s returned %t", named(namedDesigns("DesignClosed", c.d), n), got)
			}
		}
	}
}

// TestDesignClosedOneTurn takes designs whose point at one turn alone is none, and of which this holds for no number, 1 among them.
func TestDesignClosedOneTurn(t *testing.T) {
	for none := range steps {
		for _, apart := range []int{1, 5, 25} {
			d := beyondAtOneTurn(none, apart)
			for _, n := range divisors {
				if impl.DesignClosed(d, n) {
					t.Errorf("%s holds", named(namedDesigns("DesignClosed", d), n))
				}
			}
		}
	}
}

// TestDesignClosedBeside changes the point of a closed curve at one turn, and half a turn later, alone: each turn is asked.
func TestDesignClosedBeside(t *testing.T) {
	for beside := range 12 {
		var row []impl.Cyc
		for k := range 12 {
			row = append(row, impl.Cyc{C: rootsByHand[turnWithinByHand(-10*k)]})
		}
		row[beside] = point()
		wheels, wheelsOK := impl.RowDesign(row)
		d, ok := impl.DesignFaster(wheels, 2)
		if speeds, _ := impl.DesignSpeeds(d); !wheelsOK || !ok || len(speeds) != 12 || speeds[0] != -10 {
			t.Fatalf("%s has the speeds %v", namedRows("RowDesign", row), speeds)
		}
		for _, n := range divisors {
			if got := impl.DesignClosed(d, n); got != closedByHand(d, n) || got != (n <= 2) {
				t.Errorf("%s returned %t", named(namedDesigns("DesignClosed", d), n), got)
			}
		}
	}
}

func TestDesignClosedPromise(t *testing.T) {
	count := map[int]int{}
	for _, d := range symmetryDesigns() {
		fold := impl.DesignFold(d)
		for _, n := range divisors {
			what := named(namedDesigns("DesignClosed", d), n)
			got := impl.DesignClosed(d, n)
			if want := closedByHand(d, n); got != want {
				t.Errorf("%s returned %t", what, got)
			}
			if _, told := impl.RowOf(d, steps); fold > 0 && fold%n == 0 && told && !got {
				t.Errorf("%s does not hold, and the fold is %d", what, fold)
			}
			if !got {
				continue
			}
			count[n]++
			for _, part := range divisors {
				if n%part == 0 && !impl.DesignClosed(d, part) {
					t.Errorf("%s holds, but not for %d", what, part)
				}
			}
		}
	}
	for i, n := range divisors {
		if count[n] == 0 || i > 0 && count[n] == count[1] {
			t.Errorf("DesignClosed holds for %d of %d designs for %d", count[n], count[1], n)
		}
	}
}

func TestDesignCentreTold(t *testing.T) {
	cases := []struct {
		d    []impl.Wheel
		want impl.Cyc
		ok   bool
	}{
		{nil, point(), true},
		{design(wheel(0, 5)), point(5), true},
		{design(wheel(0, 1, 2, 3, 4, 5, 6, 7, 8)), point(1, 2, 3, 4, 5, 6, 7, 8), true},
		{design(wheel(1, 5)), point(), true},
		{wheelsOf(-24, 24), point(), true},
		{design(wheel(-3, 1), wheel(0, 0, 7), wheel(3, 1)), point(0, 7), true},
		{design(wheel(0, 7), wheel(-2, 1), wheel(2, 1)), point(7), true},
		{design(wheel(0, 2), wheel(4, 1), wheel(0, 3)), point(5), true},
		{design(wheel(0, 2), wheel(4, 1), wheel(0, -2)), point(), true},
		{design(wheel(0, 1, 1), wheel(0, 2, 2), wheel(0, -3, -2)), point(0, 1), true},
		{design(wheel(0), wheel(1, 9)), point(), true},
		{design(far(0), wheel(1, 1)), point(1000000, 0, 0, 0, 1000000), true},
		{design(wheel(0, 1000000), wheel(0, -1), wheel(0, 1)), point(1000000), true},
		{wheelsFromTo(-5, 6, -9), point(-9), true},
		{wheelsFromTo(1, 12, 3), point(), true},
		{design(wheel(0, 1000000), wheel(0, 1), wheel(0, -1)), point(), false},
		{design(wheel(0, 4), wheel(1, 1000000), wheel(1, 1)), point(), false},
		{design(wheel(0, 4), wheel(1001, 1)), point(), false},
	}
	for _, c := range cases {
		got, ok := impl.DesignCentre(c.d)
		wantPoint(t, namedDesigns("DesignCentre", c.d), got, ok, c.want, c.ok)
	}
}

func TestDesignCentrePromise(t *testing.T) {
	told := 0
	for _, d := range symmetryDesigns() {
		what := namedDesigns("DesignCentre", d)
		got, ok := impl.DesignCentre(d)
		tidy, wantOK := tidyByHand(d)
		var want impl.Cyc
		slow := true
		for _, w := range tidy {
			slow = slow && -23 <= w.Speed && w.Speed <= 23
			if w.Speed == 0 {
				want = w.Radius
			}
		}
		wantPoint(t, what, got, ok, want, wantOK)
		var sum [8]int
		for turn := range steps {
			at, atOK := impl.DesignAt(d, turn)
			slow, sum = slow && atOK, sumByHand(sum, at.C, 1)
		}
		if scaled, scaledOK := impl.CycScale(got, steps); ok && slow && scaledOK {
			told++
			wantPoint(t, what+" times 24", scaled, true, impl.Cyc{C: sum}, true)
		}
	}
	if told < 150 {
		t.Errorf("all points and DesignCentre times 24 are told %d times", told)
	}
}

// TestSymmetriesFail checks that nothing is told of a list that is no design, whatever it would be when tidy.
func TestSymmetriesFail(t *testing.T) {
	for _, none := range noDesigns() {
		if fold, period := impl.DesignFold(none), impl.DesignPeriod(none); fold != -1 || period != -1 {
			t.Errorf("%s returned %d and %d", namedDesigns("DesignFold and DesignPeriod", none), fold, period)
		}
		speeds, ok := impl.DesignSpeeds(none)
		wantTurns(t, namedDesigns("DesignSpeeds", none), speeds, ok, nil, false)
		still, ok := impl.DesignStill(none)
		wantTurns(t, namedDesigns("DesignStill", none), still, ok, nil, false)
		centre, ok := impl.DesignCentre(none)
		wantPoint(t, namedDesigns("DesignCentre", none), centre, ok, impl.Cyc{}, false)
		for _, other := range [][]impl.Wheel{nil, wheelsOf(1), design(wheel(0)), none} {
			number, ok := impl.DesignAkin(none, other)
			wantNumber(t, namedDesigns("DesignAkin", none, other), number, ok, 0, false)
			number, ok = impl.DesignAkin(other, none)
			wantNumber(t, namedDesigns("DesignAkin", other, none), number, ok, 0, false)
		}
		if impl.DesignMirrored(none) {
			t.Errorf("%s holds", namedDesigns("DesignMirrored", none))
		}
		for _, n := range []int{-1, 0, 1, 2, 5, 24} {
			if impl.DesignClosed(none, n) {
				t.Errorf("%s holds", named(namedDesigns("DesignClosed", none), n))
			}
		}
	}
}

// TestDesignClosedNumbers checks that it holds for no number that does not divide a whole turn, whatever the design is.
func TestDesignClosedNumbers(t *testing.T) {
	for _, d := range [][]impl.Wheel{nil, design(wheel(3)), wheelsOf(0), wheelsOf(1), wheelsOf(0, 24), wheelsOf(0, 5, 10), wheelsOf(0, 240), wheelsOf(1001), make([]impl.Wheel, 13)} {
		for _, n := range noParts {
			if impl.DesignClosed(d, n) {
				t.Errorf("%s holds", named(namedDesigns("DesignClosed", d), n))
			}
		}
	}
}

func TestSymmetryArguments(t *testing.T) {
	designs := symmetryDesigns()
	for i, before := range designs {
		d := withRoom(before)
		otherBefore := designs[len(designs)-1-i]
		other := withRoom(otherBefore)
		for _, numbersOfDesign := range []func([]impl.Wheel) ([]int, bool){impl.DesignSpeeds, impl.DesignStill} {
			got, ok := numbersOfDesign(d)
			want := slices.Clone(got)
			again, againOK := numbersOfDesign(d)
			whole := got[:cap(got)]
			for k := range whole {
				whole[k] = -7
			}
			third, thirdOK := numbersOfDesign(d)
			wantTurns(t, namedDesigns("DesignSpeeds or DesignStill again", before), again, againOK, want, ok)
			wantTurns(t, namedDesigns("DesignSpeeds or DesignStill once more", before), third, thirdOK, want, ok)
			wantAsBefore(t, namedDesigns("DesignSpeeds or DesignStill", before), d, before)
		}
		impl.DesignFold(d)
		impl.DesignPeriod(d)
		impl.DesignMirrored(d)
		impl.DesignClosed(d, 6)
		impl.DesignCentre(d)
		wantAsBefore(t, namedDesigns("DesignFold, DesignPeriod, DesignMirrored, DesignClosed or DesignCentre", before), d, before)
		impl.DesignAkin(d, other)
		impl.DesignAkin(d, d)
		wantAsBefore(t, namedDesigns("DesignAkin", before, otherBefore), d, before)
		wantAsBefore(t, namedDesigns("DesignAkin", before, otherBefore), other, otherBefore)
	}
}
