package tests

import (
	"maps"
	"math"
	"math/cmplx"
	"math/rand/v2"
	"slices"
	"strconv"
	"testing"

	"loop.example/turningwheels/impl"
)

const (
	mostWheels = 12
	mostSpeed  = 1000
)

// noSpeeds are no speeds, though some are again in 8, 16 or 32 bits, or with wraparound.
var noSpeeds = []int{
	math.MinInt, math.MinInt + 1, math.MinInt32, -1 << 32, -65536, -2000, -1001,
	1001, 2000, 65536, math.MaxInt32, 1 << 32, math.MaxInt - 1, math.MaxInt,
}

// noFactors are no numbers that speeds are multiplied by.
var noFactors = []int{math.MinInt, math.MinInt32, -1 << 32, -256, -40, -22, -21, 21, 22, 40, 256, math.MaxInt32, 1 << 32, math.MaxInt}

func wheel(speed int, coefs ...int) impl.Wheel {
	return impl.Wheel{Speed: speed, Radius: point(coefs...)}
}

func design(wheels ...impl.Wheel) []impl.Wheel {
	return wheels
}

// wheelsOf returns a design with a wheel of radius 1 for each speed.
func wheelsOf(speeds ...int) []impl.Wheel {
	var d []impl.Wheel
	for _, speed := range speeds {
		d = append(d, wheel(speed, 1))
	}
	return d
}

// wheelsFromTo returns a design with a wheel of some radius for each speed of a range.
func wheelsFromTo(first int, last int, radius int) []impl.Wheel {
	var d []impl.Wheel
	for speed := first; speed <= last; speed++ {
		d = append(d, wheel(speed, radius))
	}
	return d
}

func designText(d []impl.Wheel) string {
	text := "["
	for i, w := range d {
		if i > 0 {
			text += " "
		}
		text += strconv.Itoa(w.Speed) + pointText(w.Radius)
	}
	return text + "]"
}

func namedDesigns(name string, designs ...[]impl.Wheel) string {
	text := name
	for _, d := range designs {
		text += " " + designText(d)
	}
	return text
}

// wantDesign checks a result with a design: an empty one and false where the document tells that there is none.
func wantDesign(t *testing.T, what string, got []impl.Wheel, ok bool, want []impl.Wheel, wantOK bool) {
	t.Helper()
	if !slices.Equal(got, want) || ok != wantOK {
		t.Errorf("%s returned %s, %t and not %s, %t", what, designText(got), ok, designText(want), wantOK)
	}
}

// turnWithinByHand returns a number of steps without whole turns.
func turnWithinByHand(n int) int {
	return ((n % steps) + steps) % steps
}

func designByHand(d []impl.Wheel) bool {
	for _, w := range d {
		if w.Speed < -mostSpeed || w.Speed > mostSpeed || !inCoefRange(w.Radius.C) {
			return false
		}
	}
	return len(d) <= mostWheels
}

// tidyByHand makes wheels tidy that may have any speeds and radii. Only sums of at least two radii are asked on the way.
func tidyByHand(list []impl.Wheel) ([]impl.Wheel, bool) {
	sums := map[int][8]int{}
	for _, w := range list {
		sum, more := sums[w.Speed]
		sum = sumByHand(sum, w.Radius.C, 1)
		if more && !inCoefRange(sum) {
			return nil, false
		}
		sums[w.Speed] = sum
	}
	var tidy []impl.Wheel
	for _, speed := range slices.Sorted(maps.Keys(sums)) {
		if sums[speed] != [8]int{} {
			tidy = append(tidy, impl.Wheel{Speed: speed, Radius: impl.Cyc{C: sums[speed]}})
		}
	}
	if !designByHand(tidy) {
		return nil, false
	}
	return tidy, true
}

// changedByHand changes each wheel and makes the list tidy.
func changedByHand(d []impl.Wheel, speed func(int) int, radius func(impl.Wheel) [8]int) ([]impl.Wheel, bool) {
	var list []impl.Wheel
	for _, w := range d {
		list = append(list, impl.Wheel{Speed: speed(w.Speed), Radius: impl.Cyc{C: radius(w)}})
	}
	return tidyByHand(list)
}

func sameSpeed(speed int) int {
	return speed
}

func oppositeSpeed(speed int) int {
	return -speed
}

func sameRadius(w impl.Wheel) [8]int {
	return w.Radius.C
}

// atByHand returns the point of a design at a turn, which may have any coefficients.
func atByHand(d []impl.Wheel, turn int) [8]int {
	var sum [8]int
	for _, w := range d {
		sum = sumByHand(sum, turnedByHand(w.Radius.C, turnWithinByHand(turn*w.Speed)), 1)
	}
	return sum
}

// timesByHand returns the product of two designs. Each product of radii is asked by itself, even if a sum would take it back.
func timesByHand(a []impl.Wheel, b []impl.Wheel) ([]impl.Wheel, bool) {
	var list []impl.Wheel
	for _, first := range a {
		for _, second := range b {
			product := productByHand(first.Radius.C, second.Radius.C)
			if !inCoefRange(product) {
				return nil, false
			}
			list = append(list, impl.Wheel{Speed: first.Speed + second.Speed, Radius: impl.Cyc{C: product}})
		}
	}
	return tidyByHand(list)
}

// randomDesign returns a design with speeds and coefficients of at most some sizes; the smaller the speeds, the more of them are equal.
func randomDesign(source *rand.Rand, count int, speed int, most int) []impl.Wheel {
	var d []impl.Wheel
	for range count {
		radius := randomPoint(source, most, source.IntN(8))
		d = append(d, impl.Wheel{Speed: source.IntN(2*speed+1) - speed, Radius: radius})
	}
	return d
}

// edgeDesigns returns the designs at the ends of what the document tells, and those with equal speeds.
func edgeDesigns() [][]impl.Wheel {
	list := [][]impl.Wheel{
		nil,
		{},
		design(wheel(4)),
		design(wheel(0), wheel(-1000), wheel(1000), wheel(0)),
		design(wheel(1, 2), wheel(-1, 1)),
		design(wheel(-1, 1), wheel(1, 2)),
		design(wheel(5, 1), wheel(5, 2), wheel(5, 4)),
		design(wheel(5, 1), wheel(3, 1), wheel(5, 2), wheel(3, 2), wheel(5, -3)),
		design(wheel(1, 1), wheel(1, -1)),
		design(wheel(1, 1), wheel(2, 3), wheel(1, -1)),
		design(wheel(1, 999999), wheel(1, 1)),
		design(wheel(1, 1000000), wheel(1, 1)),
		design(wheel(1, 1000000), wheel(1, 1), wheel(1, -1)),
		design(wheel(1, 1000000), wheel(1, -1), wheel(1, 1)),
		design(wheel(1, 1), wheel(1, -1), wheel(1, 1000000)),
		design(wheel(1, 1000000), wheel(2, 1), wheel(1, 1), wheel(0, 1), wheel(1, -1)),
		design(wheel(1, 1000000), wheel(2, 1), wheel(3, -1)),
		design(wheel(3, -1), wheel(1, 1000000), wheel(2, 1)),
		// These have greater coefficients when turned or mirrored, by themselves or in a sum.
		design(wheel(1, 1000000, 0, 0, 0, 1000000)),
		design(wheel(1, 1000000, 0, 0, 0, 1000000), wheel(1, -1000000)),
		design(wheel(1, 1000000, 0, 0, 0, 1000000), wheel(0, 0, 0, 0, 0, -1000000)),
		design(wheel(1, 1000000), wheel(1, 0, 0, 0, 0, 1000000)),
		design(wheel(1, 1000000, 0, 0, 0, -1000000), wheel(1, 1)),
		design(wheel(1, 1000000, 0, 0, 0, 1), wheel(1, 0, 0, 0, 0, -1)),
		wheelsFromTo(1, 12, 1),
		wheelsFromTo(-6, 5, 83333),
		wheelsFromTo(-6, 5, 83334),
		wheelsFromTo(-3, 2, -1000),
		wheelsOf(6, 5, 4, 3, 2, 1, 0, -1, -2, -3, -4, -5),
		wheelsOf(7, 7, 7, 7, 7, 7, 7, 7, 7, 7, 7, 7),
		make([]impl.Wheel, 12),
	}
	for _, speed := range []int{-1000, -999, -51, -50, -24, -1, 0, 1, 23, 50, 51, 500, 501, 999, 1000} {
		list = append(list, design(wheel(speed, 1, 2, 3, 4, 5, 6, 7, 8)), design(wheel(speed)), design(wheel(speed, 5), wheel(speed, -5), wheel(1, 1)))
	}
	for k := range 8 {
		for _, c := range []int{-mostCoef, mostCoef} {
			one := impl.Wheel{Speed: k - 3, Radius: only(k, c)}
			less := impl.Wheel{Speed: k - 3, Radius: only(k, -c/mostCoef)}
			more := impl.Wheel{Speed: k - 3, Radius: only(k, c/mostCoef)}
			list = append(list, design(one), design(one, less, more), design(one, more, less), design(less, one, more), design(one, more))
		}
	}
	return list
}

// validDesigns returns designs of all sizes, the same ones each time.
func validDesigns() [][]impl.Wheel {
	list := edgeDesigns()
	source := rand.New(rand.NewPCG(5, 12))
	for _, most := range []int{1, 9, 500, mostCoef / 4, mostCoef} {
		for _, speed := range []int{1, 3, 30, mostSpeed} {
			list = append(list, randomDesign(source, 1+source.IntN(3), speed, most), randomDesign(source, 12, speed, most))
		}
	}
	return list
}

// noDesigns returns lists of too many wheels, and wheels beyond their ranges in each place of a list, even where no wheel would be left.
func noDesigns() [][]impl.Wheel {
	list := [][]impl.Wheel{
		wheelsFromTo(1, 13, 1),
		wheelsOf(7, 7, 7, 7, 7, 7, 7, 7, 7, 7, 7, 7, 7),
		make([]impl.Wheel, 13),
		make([]impl.Wheel, 24),
		make([]impl.Wheel, 300),
		design(wheel(1, 1000001), wheel(1, -1)),
		design(wheel(1, -1), wheel(1, 1000001), wheel(1, -1000001)),
		design(wheel(1001, 1), wheel(1001, -1)),
	}
	var wheels []impl.Wheel
	for _, speed := range noSpeeds {
		wheels = append(wheels, wheel(speed), wheel(speed, 1, 2, 3, 4, 5, 6, 7, 8))
	}
	for _, none := range invalidPoints() {
		wheels = append(wheels, impl.Wheel{Speed: 1, Radius: none})
	}
	for _, none := range wheels {
		list = append(list, design(none), design(none, wheel(1, 1), wheel(0)), design(wheel(2, 1), none, wheel(1, 1)))
		list = append(list, append(wheelsFromTo(1, 11, 1), none))
	}
	return list
}

func TestDesignValidTold(t *testing.T) {
	for _, d := range validDesigns() {
		if !impl.DesignValid(d) {
			t.Errorf("%s does not hold", namedDesigns("DesignValid", d))
		}
	}
	for _, none := range noDesigns() {
		if impl.DesignValid(none) {
			t.Errorf("%s holds", namedDesigns("DesignValid", none))
		}
	}
	for _, radius := range validPoints() {
		if !impl.DesignValid(design(impl.Wheel{Speed: -7, Radius: radius})) {
			t.Errorf("%s does not hold", namedPoints("DesignValid of a wheel", radius))
		}
	}
	for speed := -1010; speed <= 1010; speed++ {
		if got := impl.DesignValid(design(wheel(speed, 1))); got != (-1000 <= speed && speed <= 1000) {
			t.Errorf("%s returned %t", named("DesignValid of a speed", speed), got)
		}
	}
}

func TestDesignValidPromise(t *testing.T) {
	for _, d := range slices.Concat(validDesigns(), noDesigns()) {
		if !impl.DesignValid(d) {
			continue
		}
		if len(d) > mostWheels {
			t.Errorf("%s holds", namedDesigns("DesignValid", d))
		}
		for len(d) > 0 {
			d = d[:len(d)-1]
			if !impl.DesignValid(d) {
				t.Errorf("%s without the last one does not hold", namedDesigns("DesignValid", d))
			}
		}
	}
}

func TestDesignTidyTold(t *testing.T) {
	cases := []struct {
		d, want []impl.Wheel
		ok      bool
	}{
		{nil, nil, true},
		{design(wheel(3)), nil, true},
		{make([]impl.Wheel, 12), nil, true},
		{design(wheel(1, 2), wheel(-1, 1)), design(wheel(-1, 1), wheel(1, 2)), true},
		{design(wheel(-1, 1), wheel(1, 2)), design(wheel(-1, 1), wheel(1, 2)), true},
		{design(wheel(5, 1), wheel(5, 2), wheel(5, 4)), design(wheel(5, 7)), true},
		{design(wheel(5, 1), wheel(3, 1), wheel(5, 2), wheel(3, 2), wheel(5, -3)), design(wheel(3, 3)), true},
		{design(wheel(1, 1), wheel(2), wheel(1, -1)), nil, true},
		{design(wheel(9, 1, 2), wheel(9, -1, 3)), design(wheel(9, 0, 5)), true},
		{design(wheel(1000, 0, 0, 0, 0, 0, 0, 0, 1), wheel(-1000, 1)), design(wheel(-1000, 1), wheel(1000, 0, 0, 0, 0, 0, 0, 0, 1)), true},
		{design(wheel(1, 999999), wheel(1, 1)), design(wheel(1, 1000000)), true},
		{design(wheel(1, 1000000), wheel(1, 1)), nil, false},
		{design(wheel(1, -1000000), wheel(1, -1)), nil, false},
		{design(wheel(1, 1000000), wheel(1, 1), wheel(1, -1)), nil, false},
		{design(wheel(1, 1000000), wheel(1, -1), wheel(1, 1)), design(wheel(1, 1000000)), true},
		{design(wheel(1, 1), wheel(1, -1), wheel(1, 1000000)), design(wheel(1, 1000000)), true},
		{design(wheel(1, 1000000), wheel(2, 1), wheel(1, 1), wheel(0, 1), wheel(1, -1)), nil, false},
		{design(wheel(1, 1000000), wheel(2, 1000000), wheel(1, -1000000), wheel(2, -999999)), design(wheel(2, 1)), true},
		{wheelsOf(6, 5, 4, 3, 2, 1, 0, -1, -2, -3, -4, -5), wheelsFromTo(-5, 6, 1), true},
		{wheelsOf(7, 7, 7, 7, 7, 7, 7, 7, 7, 7, 7, 7), design(wheel(7, 12)), true},
	}
	for _, c := range cases {
		got, ok := impl.DesignTidy(c.d)
		wantDesign(t, namedDesigns("DesignTidy", c.d), got, ok, c.want, c.ok)
	}
}

// TestDesignTidyPlaces adds in each of the eight places up to the greatest coefficient and beyond, on the way and at last.
func TestDesignTidyPlaces(t *testing.T) {
	for k := range 8 {
		for _, sign := range []int{-1, 1} {
			part := func(c int) impl.Wheel { return impl.Wheel{Speed: 2, Radius: only(k, sign*c)} }
			cases := []struct {
				d    []impl.Wheel
				want int
				ok   bool
			}{
				{design(part(600000), part(400000)), 1000000, true},
				{design(part(600000), part(400001)), 0, false},
				{design(part(600000), part(400001), part(-1)), 0, false},
				{design(part(600000), part(-1), part(400001)), 1000000, true},
				{design(part(1000000), part(1000000), part(-1000000)), 0, false},
				{design(part(1000000), part(-1000000), part(1000000)), 1000000, true},
			}
			for _, c := range cases {
				var want []impl.Wheel
				if c.ok {
					want = design(part(c.want))
				}
				got, ok := impl.DesignTidy(c.d)
				wantDesign(t, namedDesigns("DesignTidy", c.d), got, ok, want, c.ok)
			}
		}
	}
}

// isTidy tells whether speeds ascend and no radius is 0.
func isTidy(d []impl.Wheel) bool {
	for i, w := range d {
		if w.Radius == (impl.Cyc{}) || i > 0 && d[i-1].Speed >= w.Speed {
			return false
		}
	}
	return true
}

func TestDesignTidyPromise(t *testing.T) {
	for _, d := range validDesigns() {
		what := namedDesigns("DesignTidy", d)
		got, ok := impl.DesignTidy(d)
		want, wantOK := tidyByHand(d)
		wantDesign(t, what, got, ok, want, wantOK)
		if !ok {
			continue
		}
		if !isTidy(got) || !impl.DesignValid(got) {
			t.Errorf("%s returned %s, which is not tidy", what, designText(got))
		}
		again, againOK := impl.DesignTidy(got)
		wantDesign(t, what+" made tidy again", again, againOK, got, true)
		for turn := range steps {
			before, beforeOK := impl.DesignAt(d, turn)
			after, afterOK := impl.DesignAt(got, turn)
			wantPoint(t, named(what+" at", turn), after, afterOK, before, beforeOK)
		}
	}
}

func TestDesignAtTold(t *testing.T) {
	ellipse := design(wheel(1, 2), wheel(-1, 1))
	numbers := design(wheel(-1, 1, 2, 3, 4, 5, 6, 7, 8))
	beside := design(wheel(1, 1000000), wheel(2, 1000000))
	turning := design(wheel(1, 1000000, 0, 0, 0, 1000000), wheel(0, 0, 0, 0, 0, -1000000))
	cases := []struct {
		d    []impl.Wheel
		turn int
		want impl.Cyc
		ok   bool
	}{
		{nil, 0, point(), true},
		{nil, 23, point(), true},
		{ellipse, 0, point(3), true},
		{ellipse, 4, point(1, 0, 0, 0, 1), true},
		{ellipse, 6, point(0, 0, 0, 0, 0, 0, 1), true},
		{ellipse, 8, point(-2, 0, 0, 0, 1), true},
		{ellipse, 12, point(-3), true},
		{ellipse, 18, point(0, 0, 0, 0, 0, 0, -1), true},
		{numbers, 0, point(1, 2, 3, 4, 5, 6, 7, 8), true},
		{numbers, 1, point(2, 3, 4, 6, 6, 7, 8, -1), true},
		{numbers, 12, point(-1, -2, -3, -4, -5, -6, -7, -8), true},
		{numbers, 23, point(-8, 1, 2, 3, 12, 5, 6, 7), true},
		{wheelsOf(1000), 1, point(0, 0, 0, 0, -1), true},
		{wheelsOf(1000), 23, point(-1, 0, 0, 0, 1), true},
		{wheelsOf(-1000), 1, point(-1, 0, 0, 0, 1), true},
		{wheelsOf(-1000), 23, point(0, 0, 0, 0, -1), true},
		{wheelsOf(1, 1, 1), 5, point(0, 0, 0, 0, 0, 3), true},
		{beside, 0, point(), false},
		{beside, 1, point(0, 1000000, 1000000), true},
		{beside, 12, point(), true},
		{design(wheel(1, 1000000), wheel(1, 1), wheel(1, -1)), 3, point(0, 0, 0, 1000000), true},
		{design(wheel(1, 1000000), wheel(1, 1)), 3, point(), false},
		{turning, 0, point(1000000), true},
		{turning, 4, point(-1000000, 0, 0, 0, 1000000), true},
		{design(wheel(1, 1000000, 0, 0, 0, 1000000)), 4, point(), false},
		{wheelsFromTo(-6, 5, 83333), 0, point(999996), true},
		{wheelsFromTo(-6, 5, 83334), 0, point(), false},
	}
	for _, c := range cases {
		got, ok := impl.DesignAt(c.d, c.turn)
		wantPoint(t, named(namedDesigns("DesignAt", c.d), c.turn), got, ok, c.want, c.ok)
	}
}

// TestDesignAtSpeeds turns a single wheel with each speed by each turn.
func TestDesignAtSpeeds(t *testing.T) {
	for speed := -1000; speed <= 1000; speed++ {
		for turn := range steps {
			got, ok := impl.DesignAt(wheelsOf(speed), turn)
			wantPoint(t, named("DesignAt of a wheel", speed, turn), got, ok, impl.Cyc{C: rootsByHand[turnWithinByHand(speed*turn)]}, true)
		}
	}
}

func TestDesignAtPromise(t *testing.T) {
	for _, d := range validDesigns() {
		turned, turnedOK := impl.DesignTurned(d, 7)
		for turn := range steps {
			what := named(namedDesigns("DesignAt", d), turn)
			got, ok := impl.DesignAt(d, turn)
			wantTold(t, what, got, ok, atByHand(d, turn))
			if !ok {
				continue
			}
			var sum complex128
			for _, w := range d {
				sum += value(w.Radius) * cmplx.Rect(1, 2*math.Pi*float64(turn*w.Speed)/steps)
			}
			wantValue(t, what, got, sum)
			ofTurned, ofTurnedOK := impl.DesignAt(turned, turn)
			want, wantOK := impl.CycTurned(got, 7)
			if turnedOK && ofTurnedOK != wantOK {
				t.Errorf("%s of DesignTurned by 7 returned %t, but CycTurned %t", what, ofTurnedOK, wantOK)
			}
			if turnedOK && ofTurnedOK && wantOK {
				wantPoint(t, what+" of DesignTurned by 7", ofTurned, true, want, true)
			}
		}
	}
}

func TestDesignSumTold(t *testing.T) {
	full := wheelsFromTo(1, 12, 1)
	cases := []struct {
		a, b, want []impl.Wheel
		ok         bool
	}{
		{nil, nil, nil, true},
		{wheelsOf(1), nil, wheelsOf(1), true},
		{nil, wheelsOf(2, 1, 1), design(wheel(1, 2), wheel(2, 1)), true},
		{design(wheel(1, 2)), design(wheel(-1, 1)), design(wheel(-1, 1), wheel(1, 2)), true},
		{design(wheel(1, 2), wheel(3, 1)), design(wheel(3, -1), wheel(1, 5)), design(wheel(1, 7)), true},
		{design(wheel(1, 1000000)), design(wheel(1, -1000000)), nil, true},
		{design(wheel(1, 1000000)), design(wheel(1, 1)), nil, false},
		{design(wheel(1, 1000000)), design(wheel(1, 1), wheel(1, -1)), nil, false},
		{design(wheel(1, 1), wheel(1, -1)), design(wheel(1, 1000000)), design(wheel(1, 1000000)), true},
		{design(wheel(1, 1000000), wheel(1, 1)), design(wheel(1, -1)), nil, false},
		{full, nil, full, true},
		{full, full, wheelsFromTo(1, 12, 2), true},
		{full, wheelsFromTo(1, 12, -1), nil, true},
		{wheelsFromTo(1, 6, 3), wheelsFromTo(7, 12, 3), wheelsFromTo(1, 12, 3), true},
		{wheelsFromTo(1, 7, 3), wheelsFromTo(8, 13, 3), nil, false},
		{full, wheelsOf(13), nil, false},
		{full, design(wheel(13)), full, true},
		{full, design(wheel(0, 1), wheel(0, -1)), full, true},
		{full, design(wheel(0, 1), wheel(12, -1)), wheelsFromTo(0, 11, 1), true},
		{wheelsFromTo(1, 12, -1), wheelsFromTo(7, 18, 1), append(wheelsFromTo(1, 6, -1), wheelsFromTo(13, 18, 1)...), true},
	}
	for _, c := range cases {
		got, ok := impl.DesignSum(c.a, c.b)
		wantDesign(t, namedDesigns("DesignSum", c.a, c.b), got, ok, c.want, c.ok)
	}
}

func TestDesignSumPromise(t *testing.T) {
	for _, a := range validDesigns() {
		for _, b := range validDesigns() {
			what := namedDesigns("DesignSum", a, b)
			got, ok := impl.DesignSum(a, b)
			want, wantOK := tidyByHand(slices.Concat(a, b))
			wantDesign(t, what, got, ok, want, wantOK)
			exchanged, exchangedOK := impl.DesignSum(b, a)
			if ok && exchangedOK {
				wantDesign(t, what+" exchanged", exchanged, true, got, true)
			}
			first, firstOK := impl.DesignAt(a, 5)
			second, secondOK := impl.DesignAt(b, 5)
			sum, sumOK := impl.CycAdd(first, second)
			point, pointOK := impl.DesignAt(got, 5)
			if ok && firstOK && secondOK {
				wantPoint(t, what+" at 5", point, pointOK, sum, sumOK)
			}
		}
	}
}

func TestDesignTimesTold(t *testing.T) {
	ellipse := design(wheel(1, 2), wheel(-1, 1))
	var growing []impl.Wheel
	for i, n := range []int{1, 2, 3, 4, 5, 6, 6, 5, 4, 3, 2, 1} {
		growing = append(growing, wheel(i, n))
	}
	cases := []struct {
		a, b, want []impl.Wheel
		ok         bool
	}{
		{nil, nil, nil, true},
		{nil, ellipse, nil, true},
		{ellipse, nil, nil, true},
		{wheelsOf(-1), wheelsOf(-1), wheelsOf(-2), true},
		{ellipse, ellipse, design(wheel(-2, 1), wheel(0, 4), wheel(2, 4)), true},
		{wheelsOf(1, -1), design(wheel(1, 1), wheel(-1, -1)), design(wheel(-2, -1), wheel(2, 1)), true},
		{design(wheel(3, 2, 0, 0, 0, 0, 0, 3)), design(wheel(4, 5, 0, 0, 0, 0, 0, 7)), design(wheel(7, -11, 0, 0, 0, 0, 0, 29)), true},
		{wheelsOf(500), wheelsOf(500), wheelsOf(1000), true},
		{wheelsOf(501), wheelsOf(500), nil, false},
		{wheelsOf(-500), wheelsOf(-500), wheelsOf(-1000), true},
		{wheelsOf(-500), wheelsOf(-501), nil, false},
		{wheelsOf(1000, -1000), wheelsOf(1000, -1000), nil, false},
		{wheelsOf(1000), wheelsOf(-1000), wheelsOf(0), true},
		{design(wheel(1000)), wheelsOf(1000), nil, true},
		{design(wheel(1000, 1), wheel(1000, -1)), wheelsOf(1000), nil, true},
		{design(wheel(900, 1), wheel(901, 1)), design(wheel(101, 1), wheel(100, -1)), nil, false},
		{design(wheel(900, 1), wheel(901, 1)), design(wheel(99, 1), wheel(98, -1)), design(wheel(998, -1), wheel(1000, 1)), true},
		{design(wheel(1, 1000)), design(wheel(2, 1000)), design(wheel(3, 1000000)), true},
		{design(wheel(1, 1000)), design(wheel(2, 1001)), nil, false},
		{design(wheel(1, 1000), wheel(1, -1000)), design(wheel(2, 1001)), nil, false},
		{design(wheel(2, 1001)), design(wheel(1, 1000), wheel(1, -1000)), nil, false},
		{design(wheel(1, 1000000, 0, 0, 0, 1)), design(wheel(2, 1, 0, 0, 0, -1)), nil, false},
		{design(wheel(1, 0, 0, 0, 0, 1000000), wheel(0, 0, 0, 0, 0, 1)), design(wheel(0, 0, 0, 0, 0, 1)), design(wheel(0, -1, 0, 0, 0, 1), wheel(1, -1000000, 0, 0, 0, 1000000)), true},
		{wheelsOf(0, 1, 2), wheelsOf(0, 3, 6, 9), wheelsFromTo(0, 11, 1), true},
		{wheelsFromTo(0, 5, 1), wheelsFromTo(0, 6, 1), growing, true},
		{wheelsFromTo(0, 6, 1), wheelsFromTo(0, 6, 1), nil, false},
		{wheelsFromTo(0, 11, 1), wheelsFromTo(0, 11, 1), nil, false},
		{wheelsFromTo(0, 11, 1), design(wheel(1, -1), wheel(0, 1)), design(wheel(0, 1), wheel(12, -1)), true},
	}
	for _, c := range cases {
		got, ok := impl.DesignTimes(c.a, c.b)
		wantDesign(t, namedDesigns("DesignTimes", c.a, c.b), got, ok, c.want, c.ok)
	}
}

// TestDesignTimesMost multiplies as many wheels as there may be: of 144 pairs and 23 speeds just WheelsMax are left.
func TestDesignTimesMost(t *testing.T) {
	var changing, want []impl.Wheel
	for i := range 12 {
		changing = append(changing, wheel(i, 1-i%2*2))
		want = append(want, wheel(2*i, 1-i/6*2))
	}
	got, ok := impl.DesignTimes(wheelsFromTo(0, 11, 1), changing)
	wantDesign(t, "DesignTimes of 12 wheels each", got, ok, want, true)
}

// TestDesignTimesOrder multiplies designs of which three pairs have one speed: what is beyond on the way depends on their order.
func TestDesignTimesOrder(t *testing.T) {
	one := wheelsOf(0)
	cases := []struct {
		a, b []impl.Wheel
		want []impl.Wheel
		ok   bool
	}{
		{one, design(wheel(1, 1000000), wheel(1, 1), wheel(1, -1)), nil, false},
		{one, design(wheel(1, 1), wheel(1, -1), wheel(1, 1000000)), design(wheel(1, 1000000)), true},
		{design(wheel(1, 1000000), wheel(1, 1), wheel(1, -1)), one, nil, false},
		{design(wheel(1, 1), wheel(1, -1), wheel(1, 1000000)), one, design(wheel(1, 1000000)), true},
		{design(wheel(0, 1000), wheel(2, 1), wheel(4, 1)), design(wheel(4, 1000), wheel(2, 1), wheel(0, -1)), nil, false},
		{
			design(wheel(4, 1), wheel(2, 1), wheel(0, 1000)), design(wheel(4, 1000), wheel(2, 1), wheel(0, -1)),
			design(wheel(0, -1000), wheel(2, 999), wheel(4, 1000000), wheel(6, 1001), wheel(8, 1000)), true,
		},
		{
			design(wheel(4, 1000), wheel(2, 1), wheel(0, -1)), design(wheel(0, 1000), wheel(2, 1), wheel(4, 1)),
			nil, false,
		},
		{
			design(wheel(0, -1), wheel(2, 1), wheel(4, 1000)), design(wheel(0, 1000), wheel(2, 1), wheel(4, 1)),
			design(wheel(0, -1000), wheel(2, 999), wheel(4, 1000000), wheel(6, 1001), wheel(8, 1000)), true,
		},
	}
	for _, c := range cases {
		got, ok := impl.DesignTimes(c.a, c.b)
		wantDesign(t, namedDesigns("DesignTimes", c.a, c.b), got, ok, c.want, c.ok)
	}
}

// timesPairs returns pairs of designs, of which many have products that are told.
func timesPairs() [][2][]impl.Wheel {
	var pairs [][2][]impl.Wheel
	for i, a := range validDesigns() {
		for k, b := range validDesigns() {
			if len(a)*len(b) <= 12 || (i+k)%7 == 0 {
				pairs = append(pairs, [2][]impl.Wheel{a, b})
			}
		}
	}
	source := rand.New(rand.NewPCG(12, 144))
	for range 300 {
		most := 1 + source.IntN(300)
		speed := 1 + source.IntN(4)
		a, b := randomDesign(source, 1+source.IntN(5), speed, most), randomDesign(source, 1+source.IntN(5), speed, most)
		pairs = append(pairs, [2][]impl.Wheel{a, b})
	}
	return pairs
}

func TestDesignTimesPromise(t *testing.T) {
	for _, pair := range timesPairs() {
		a, b := pair[0], pair[1]
		what := namedDesigns("DesignTimes", a, b)
		got, ok := impl.DesignTimes(a, b)
		want, wantOK := timesByHand(a, b)
		wantDesign(t, what, got, ok, want, wantOK)
		if !ok {
			continue
		}
		for _, turn := range []int{0, 7, 14, 21} {
			first, firstOK := impl.DesignAt(a, turn)
			second, secondOK := impl.DesignAt(b, turn)
			product, productOK := impl.CycTimes(first, second)
			point, pointOK := impl.DesignAt(got, turn)
			if firstOK && secondOK {
				wantPoint(t, named(what+" at", turn), point, pointOK, product, productOK)
			}
		}
	}
}

func TestDesignTurnedTold(t *testing.T) {
	numbers := design(wheel(2, 1), wheel(-3, 1, 2, 3, 4, 5, 6, 7, 8))
	cases := []struct {
		d    []impl.Wheel
		turn int
		want []impl.Wheel
		ok   bool
	}{
		{nil, 0, nil, true},
		{nil, 23, nil, true},
		{numbers, 0, design(wheel(-3, 1, 2, 3, 4, 5, 6, 7, 8), wheel(2, 1)), true},
		{numbers, 1, design(wheel(-3, -8, 1, 2, 3, 12, 5, 6, 7), wheel(2, 0, 1)), true},
		{numbers, 4, design(wheel(-3, -5, -6, -7, -8, 6, 8, 10, 12), wheel(2, 0, 0, 0, 0, 1)), true},
		{numbers, 6, design(wheel(-3, -10, -12, -5, -6, 3, 4, 6, 8), wheel(2, 0, 0, 0, 0, 0, 0, 1)), true},
		{numbers, 12, design(wheel(-3, -1, -2, -3, -4, -5, -6, -7, -8), wheel(2, -1)), true},
		{numbers, 23, design(wheel(-3, 2, 3, 4, 6, 6, 7, 8, -1), wheel(2, 0, 0, 0, 1, 0, 0, 0, -1)), true},
		{design(wheel(1, 5), wheel(2), wheel(1, -5)), 3, nil, true},
		{design(wheel(1, 1000000, 0, 0, 0, 1000000)), 12, design(wheel(1, -1000000, 0, 0, 0, -1000000)), true},
		{design(wheel(1, 1000000, 0, 0, 0, 1000000)), 4, nil, false},
		// A radius by itself may be beyond where the sum is not, and the other way round; a sum on the way may not.
		{design(wheel(1, 1000000, 0, 0, 0, 1000000), wheel(1, -1000000)), 4, design(wheel(1, -1000000, 0, 0, 0, 1000000)), true},
		{design(wheel(1, -1000000), wheel(1, 1000000, 0, 0, 0, 1000000)), 4, design(wheel(1, -1000000, 0, 0, 0, 1000000)), true},
		{design(wheel(1, 1000000, 0, 0, 0, 1000000), wheel(1, 1), wheel(1, -1000000)), 4, nil, false},
		{design(wheel(1, 1000000), wheel(1, 0, 0, 0, 0, 1000000)), 4, nil, false},
		{design(wheel(1, 1000000, 0, 0, 0, -1000000), wheel(1, 1)), 4, design(wheel(1, 1000000, 0, 0, 0, 1)), true},
		{design(wheel(1, 1000000, 0, 0, 0, -1000000), wheel(1, 1)), 0, nil, false},
	}
	for _, c := range cases {
		got, ok := impl.DesignTurned(c.d, c.turn)
		wantDesign(t, named(namedDesigns("DesignTurned", c.d), c.turn), got, ok, c.want, c.ok)
	}
}

func TestDesignTurnedPromise(t *testing.T) {
	for _, d := range validDesigns() {
		tidy, tidyOK := impl.DesignTidy(d)
		for turn := range steps {
			what := named(namedDesigns("DesignTurned", d), turn)
			got, ok := impl.DesignTurned(d, turn)
			want, wantOK := changedByHand(d, sameSpeed, func(w impl.Wheel) [8]int { return turnedByHand(w.Radius.C, turn) })
			wantDesign(t, what, got, ok, want, wantOK)
			// Where only the turned radii add up without being beyond on the way, there is no tidy design.
			if !ok || !tidyOK {
				continue
			}
			on, onOK := impl.DesignTurned(got, steps-turn)
			if turn == 0 {
				wantDesign(t, what+" turned on by 24", on, onOK, nil, false)
				continue
			}
			wantDesign(t, what+" turned on", on, onOK, tidy, true)
		}
	}
}

func TestDesignLaterTold(t *testing.T) {
	ellipse := design(wheel(1, 2), wheel(-1, 1))
	numbers := design(wheel(4, 1, 2, 3, 4, 5, 6, 7, 8), wheel(-1, 1, 2, 3, 4, 5, 6, 7, 8))
	cases := []struct {
		d    []impl.Wheel
		turn int
		want []impl.Wheel
		ok   bool
	}{
		{nil, 5, nil, true},
		{ellipse, 0, design(wheel(-1, 1), wheel(1, 2)), true},
		{ellipse, 6, design(wheel(-1, 0, 0, 0, 0, 0, 0, -1), wheel(1, 0, 0, 0, 0, 0, 0, 2)), true},
		{ellipse, 12, design(wheel(-1, -1), wheel(1, -2)), true},
		{ellipse, 23, design(wheel(-1, 0, 1), wheel(1, 0, 0, 0, 2, 0, 0, 0, -2)), true},
		{numbers, 1, design(wheel(-1, 2, 3, 4, 6, 6, 7, 8, -1), wheel(4, -5, -6, -7, -8, 6, 8, 10, 12)), true},
		{numbers, 3, design(wheel(-1, 4, 6, 8, 10, 8, -1, -2, -3), wheel(4, -1, -2, -3, -4, -5, -6, -7, -8)), true},
		{wheelsOf(1000, -1000), 1, design(wheel(-1000, -1, 0, 0, 0, 1), wheel(1000, 0, 0, 0, 0, -1)), true},
		{wheelsOf(0, 24, 12, -24), 2, wheelsFromTwelve(), true},
		{design(wheel(1, 1000000, 0, 0, 0, 1000000)), 4, nil, false},
		{design(wheel(-4, 1000000, 0, 0, 0, 1000000)), 5, nil, false},
		{design(wheel(-4, 1000000, 0, 0, 0, 1000000)), 6, design(wheel(-4, 1000000, 0, 0, 0, 1000000)), true},
		{design(wheel(1, 1000000, 0, 0, 0, 1000000), wheel(1, -1000000)), 4, design(wheel(1, -1000000, 0, 0, 0, 1000000)), true},
	}
	for _, c := range cases {
		got, ok := impl.DesignLater(c.d, c.turn)
		wantDesign(t, named(namedDesigns("DesignLater", c.d), c.turn), got, ok, c.want, c.ok)
	}
}

// wheelsFromTwelve are wheels whose speeds are multiples of 12, and which are so the same two turns later.
func wheelsFromTwelve() []impl.Wheel {
	return wheelsOf(-24, 0, 12, 24)
}

func TestDesignLaterPromise(t *testing.T) {
	for _, d := range validDesigns() {
		for turn := range steps {
			what := named(namedDesigns("DesignLater", d), turn)
			got, ok := impl.DesignLater(d, turn)
			want, wantOK := changedByHand(d, sameSpeed, func(w impl.Wheel) [8]int {
				return turnedByHand(w.Radius.C, turnWithinByHand(turn*w.Speed))
			})
			wantDesign(t, what, got, ok, want, wantOK)
			if !ok {
				continue
			}
			for at := range steps {
				point, pointOK := impl.DesignAt(got, at)
				later, laterOK := impl.DesignAt(d, (at+turn)%steps)
				wantPoint(t, named(what+" at", at), point, pointOK, later, laterOK)
			}
		}
	}
}

func TestDesignBackTold(t *testing.T) {
	cases := []struct {
		d, want []impl.Wheel
		ok      bool
	}{
		{nil, nil, true},
		{design(wheel(0, 7)), design(wheel(0, 7)), true},
		{design(wheel(1, 2), wheel(-1, 1)), design(wheel(-1, 2), wheel(1, 1)), true},
		{design(wheel(-2, 1), wheel(0, 2), wheel(5, 1, 2, 3, 4, 5, 6, 7, 8)), design(wheel(-5, 1, 2, 3, 4, 5, 6, 7, 8), wheel(0, 2), wheel(2, 1)), true},
		{wheelsOf(1000), wheelsOf(-1000), true},
		{wheelsOf(-1000), wheelsOf(1000), true},
		{design(wheel(3, 1), wheel(-3, 1), wheel(3, -1)), design(wheel(3, 1)), true},
		{design(wheel(1, 1000000, 0, 0, 0, 1000000)), design(wheel(-1, 1000000, 0, 0, 0, 1000000)), true},
		{design(wheel(1, 1000000), wheel(1, 1), wheel(1, -1)), nil, false},
		{design(wheel(1, 1), wheel(1, -1), wheel(1, 1000000)), design(wheel(-1, 1000000)), true},
	}
	for _, c := range cases {
		got, ok := impl.DesignBack(c.d)
		wantDesign(t, namedDesigns("DesignBack", c.d), got, ok, c.want, c.ok)
	}
}

func TestDesignBackPromise(t *testing.T) {
	for _, d := range validDesigns() {
		what := namedDesigns("DesignBack", d)
		got, ok := impl.DesignBack(d)
		want, wantOK := changedByHand(d, oppositeSpeed, sameRadius)
		wantDesign(t, what, got, ok, want, wantOK)
		back, backOK := impl.DesignBack(got)
		tidy, tidyOK := impl.DesignTidy(d)
		wantDesign(t, what+" led back", back, ok && backOK, tidy, tidyOK)
		for turn := range steps {
			point, pointOK := impl.DesignAt(got, turn)
			before, beforeOK := impl.DesignAt(d, (steps-turn)%steps)
			if ok {
				wantPoint(t, named(what+" at", turn), point, pointOK, before, beforeOK)
			}
		}
	}
}

func TestDesignMirrorTold(t *testing.T) {
	cases := []struct {
		d, want []impl.Wheel
		ok      bool
	}{
		{nil, nil, true},
		{design(wheel(1, 2), wheel(-1, 1)), design(wheel(-1, 2), wheel(1, 1)), true},
		{design(wheel(1, 1, 2, 3, 4, 5, 6, 7, 8), wheel(-2, 5)), design(wheel(-1, 6, 4, 3, 2, -5, -12, -10, -8), wheel(2, 5)), true},
		{design(wheel(0, 0, 1)), design(wheel(0, 0, 0, 0, 1, 0, 0, 0, -1)), true},
		{wheelsOf(1000, -1000), wheelsOf(-1000, 1000), true},
		{design(wheel(1, 999999, 0, 0, 0, 1)), design(wheel(-1, 1000000, 0, 0, 0, -1)), true},
		{design(wheel(1, 1000000, 0, 0, 0, 1)), nil, false},
		{design(wheel(1, 1000000, 0, 0, 0, 1), wheel(1, 0, 0, 0, 0, -1)), design(wheel(-1, 1000000)), true},
		{design(wheel(1, 0, 0, 0, 0, 1), wheel(1, 1000000, 0, 0, 0, -1)), design(wheel(-1, 1000000)), true},
		{design(wheel(1, 1000000), wheel(1, 0, 0, 0, 0, 1), wheel(1, 0, 0, 0, 0, -1)), nil, false},
	}
	for _, c := range cases {
		got, ok := impl.DesignMirror(c.d)
		wantDesign(t, namedDesigns("DesignMirror", c.d), got, ok, c.want, c.ok)
	}
}

func TestDesignMirrorPromise(t *testing.T) {
	for _, d := range validDesigns() {
		what := namedDesigns("DesignMirror", d)
		got, ok := impl.DesignMirror(d)
		want, wantOK := changedByHand(d, oppositeSpeed, func(w impl.Wheel) [8]int { return mirrorByHand(w.Radius.C) })
		wantDesign(t, what, got, ok, want, wantOK)
		if !ok {
			continue
		}
		for turn := range steps {
			point, pointOK := impl.DesignAt(got, turn)
			before, beforeOK := impl.DesignAt(d, turn)
			mirror, mirrorOK := impl.CycMirror(before)
			if beforeOK {
				wantPoint(t, named(what+" at", turn), point, pointOK, mirror, mirrorOK)
			}
		}
	}
}

func TestDesignFasterTold(t *testing.T) {
	cases := []struct {
		d    []impl.Wheel
		n    int
		want []impl.Wheel
		ok   bool
	}{
		{nil, 0, nil, true},
		{nil, 20, nil, true},
		{design(wheel(1, 2), wheel(-1, 1)), 3, design(wheel(-3, 1), wheel(3, 2)), true},
		{design(wheel(1, 2), wheel(-1, 1)), -2, design(wheel(-2, 2), wheel(2, 1)), true},
		{design(wheel(2, 1), wheel(1, 2)), 1, design(wheel(1, 2), wheel(2, 1)), true},
		{design(wheel(1, 1), wheel(2, 2), wheel(-3, 4)), 0, design(wheel(0, 7)), true},
		{design(wheel(1, 1), wheel(2, 2), wheel(-3, -3)), 0, nil, true},
		{design(wheel(1, 1000000), wheel(2, 1), wheel(3, -1)), 0, nil, false},
		{design(wheel(2, 1), wheel(3, -1), wheel(1, 1000000)), 0, design(wheel(0, 1000000)), true},
		{design(wheel(3, -1), wheel(1, 1000000), wheel(2, 1)), 0, design(wheel(0, 1000000)), true},
		{wheelsOf(-1000, 1000), 0, design(wheel(0, 2)), true},
		{wheelsOf(-1000, 1000), 1, wheelsOf(-1000, 1000), true},
		{wheelsOf(-1000, 1000), -1, wheelsOf(-1000, 1000), true},
		{wheelsOf(1000), 2, nil, false},
		{wheelsOf(-1000), 2, nil, false},
		{wheelsOf(50, -50), 20, wheelsOf(-1000, 1000), true},
		{wheelsOf(50, -50), -20, wheelsOf(-1000, 1000), true},
		{wheelsOf(51), 20, nil, false},
		{wheelsOf(51), -20, nil, false},
		{wheelsOf(1, 51), 20, nil, false},
		{design(wheel(51), wheel(1, 1)), 20, wheelsOf(20), true},
		{design(wheel(1000, 1), wheel(2, 1), wheel(1000, -1)), 20, wheelsOf(40), true},
		{wheelsOf(1), 21, nil, false},
		{wheelsOf(1), -21, nil, false},
	}
	for _, c := range cases {
		got, ok := impl.DesignFaster(c.d, c.n)
		wantDesign(t, named(namedDesigns("DesignFaster", c.d), c.n), got, ok, c.want, c.ok)
	}
}

func TestDesignFasterPromise(t *testing.T) {
	for _, d := range validDesigns() {
		for n := -20; n <= 20; n++ {
			what := named(namedDesigns("DesignFaster", d), n)
			got, ok := impl.DesignFaster(d, n)
			want, wantOK := changedByHand(d, func(speed int) int { return speed * n }, sameRadius)
			wantDesign(t, what, got, ok, want, wantOK)
			for turn := range steps {
				point, pointOK := impl.DesignAt(got, turn)
				there, thereOK := impl.DesignAt(d, turnWithinByHand(n*turn))
				if ok {
					wantPoint(t, named(what+" at", turn), point, pointOK, there, thereOK)
				}
			}
		}
	}
}

func TestDesignSameTold(t *testing.T) {
	cases := []struct {
		a, b []impl.Wheel
		want bool
	}{
		{nil, nil, true},
		{nil, design(wheel(3)), true},
		{nil, design(wheel(3, 1), wheel(3, -1)), true},
		{nil, wheelsOf(0), false},
		{design(wheel(1, 2), wheel(-1, 1)), design(wheel(-1, 1), wheel(1, 2)), true},
		{design(wheel(1, 2), wheel(-1, 1)), design(wheel(-1, 1), wheel(1, 1), wheel(7), wheel(1, 1)), true},
		{design(wheel(1, 2), wheel(-1, 1)), design(wheel(-1, 2), wheel(1, 1)), false},
		{design(wheel(1, 2), wheel(-1, 1)), design(wheel(1, 2)), false},
		{wheelsOf(1), wheelsOf(2), false},
		{wheelsOf(1), wheelsOf(-1), false},
		{wheelsOf(1), wheelsOf(25), false},
		{wheelsOf(1), design(wheel(1, 0, 1)), false},
		{wheelsOf(7, 7, 7, 7, 7, 7, 7, 7, 7, 7, 7, 7), design(wheel(7, 12)), true},
		{design(wheel(1, 1000000), wheel(1, 1), wheel(1, -1)), design(wheel(1, 1000000)), false},
		{design(wheel(1, 1), wheel(1, -1), wheel(1, 1000000)), design(wheel(1, 1000000)), true},
	}
	for k := range 8 {
		one := impl.Wheel{Speed: 3, Radius: point(1, 2, 3, 4, 5, 6, 7, 8)}
		other := one
		other.Radius.C[k]++
		cases = append(cases, struct {
			a, b []impl.Wheel
			want bool
		}{design(one), design(other), false})
	}
	for _, c := range cases {
		if got := impl.DesignSame(c.a, c.b); got != c.want {
			t.Errorf("%s returned %t", namedDesigns("DesignSame", c.a, c.b), got)
		}
		if got := impl.DesignSame(c.b, c.a); got != c.want {
			t.Errorf("%s returned %t", namedDesigns("DesignSame", c.b, c.a), got)
		}
	}
}

func TestDesignSamePromise(t *testing.T) {
	for _, a := range validDesigns() {
		tidy, tidyOK := impl.DesignTidy(a)
		if impl.DesignSame(a, tidy) != tidyOK || impl.DesignSame(tidy, a) != tidyOK || impl.DesignSame(a, a) != tidyOK {
			t.Errorf("%s and of the tidy one is not %t", namedDesigns("DesignSame", a), tidyOK)
		}
		for _, b := range validDesigns() {
			first, firstOK := tidyByHand(a)
			second, secondOK := tidyByHand(b)
			want := firstOK && secondOK && slices.Equal(first, second)
			got := impl.DesignSame(a, b)
			if got != want || impl.DesignSame(b, a) != want {
				t.Errorf("%s is not %t both ways", namedDesigns("DesignSame", a, b), want)
			}
			there, thereOK := impl.DesignAt(a, 11)
			here, hereOK := impl.DesignAt(b, 11)
			if got {
				wantPoint(t, namedDesigns("DesignAt 11 of the same", a, b), there, thereOK, here, hereOK)
			}
		}
	}
}

// designChange is what makes a design of one.
type designChange struct {
	name string
	of   func([]impl.Wheel) ([]impl.Wheel, bool)
}

// designChanges returns all that makes a design of one, with valid turns and numbers.
func designChanges() []designChange {
	list := []designChange{{"DesignTidy", impl.DesignTidy}, {"DesignBack", impl.DesignBack}, {"DesignMirror", impl.DesignMirror}}
	for _, n := range []int{0, 7, 23} {
		list = append(list,
			designChange{named("DesignTurned", n), func(d []impl.Wheel) ([]impl.Wheel, bool) { return impl.DesignTurned(d, n) }},
			designChange{named("DesignLater", n), func(d []impl.Wheel) ([]impl.Wheel, bool) { return impl.DesignLater(d, n) }},
			designChange{named("DesignFaster", n-3), func(d []impl.Wheel) ([]impl.Wheel, bool) { return impl.DesignFaster(d, n-3) }},
		)
	}
	return list
}

// designPairs has all that makes a design of two.
var designPairs = []struct {
	name string
	of   func([]impl.Wheel, []impl.Wheel) ([]impl.Wheel, bool)
}{
	{"DesignSum", impl.DesignSum}, {"DesignTimes", impl.DesignTimes},
}

// TestDesignsFail checks that nothing is made of a list that is no design, whatever it would be when tidy.
func TestDesignsFail(t *testing.T) {
	for _, none := range noDesigns() {
		for _, change := range designChanges() {
			got, ok := change.of(none)
			wantDesign(t, namedDesigns(change.name, none), got, ok, nil, false)
		}
		for _, turn := range []int{-1, 0, 7, 23, 24} {
			got, ok := impl.DesignAt(none, turn)
			wantPoint(t, named(namedDesigns("DesignAt", none), turn), got, ok, impl.Cyc{}, false)
		}
		for _, other := range [][]impl.Wheel{nil, wheelsOf(1), design(wheel(0)), none} {
			for _, pair := range designPairs {
				got, ok := pair.of(none, other)
				wantDesign(t, namedDesigns(pair.name, none, other), got, ok, nil, false)
				got, ok = pair.of(other, none)
				wantDesign(t, namedDesigns(pair.name, other, none), got, ok, nil, false)
			}
			if impl.DesignSame(none, other) || impl.DesignSame(other, none) {
				t.Errorf("%s holds", namedDesigns("DesignSame", none, other))
			}
		}
	}
}

// TestDesignNumbersFail checks that nothing is made with what is no turn or no number of times, whatever the design is.
func TestDesignNumbersFail(t *testing.T) {
	designs := [][]impl.Wheel{nil, design(wheel(0)), wheelsOf(0), wheelsOf(1), wheelsOf(24, -12), wheelsOf(1001), make([]impl.Wheel, 13)}
	for _, d := range designs {
		for _, none := range noTurns {
			point, ok := impl.DesignAt(d, none)
			wantPoint(t, named(namedDesigns("DesignAt", d), none), point, ok, impl.Cyc{}, false)
			got, ok := impl.DesignTurned(d, none)
			wantDesign(t, named(namedDesigns("DesignTurned", d), none), got, ok, nil, false)
			got, ok = impl.DesignLater(d, none)
			wantDesign(t, named(namedDesigns("DesignLater", d), none), got, ok, nil, false)
		}
		for _, none := range noFactors {
			got, ok := impl.DesignFaster(d, none)
			wantDesign(t, named(namedDesigns("DesignFaster", d), none), got, ok, nil, false)
		}
	}
}

// withRoom returns a copy of a design with strange wheels in its spare capacity, where nothing may be written either.
func withRoom(d []impl.Wheel) []impl.Wheel {
	room := append(slices.Clone(d), wheel(-77, 7), wheel(-78, 8), wheel(-79, 9))
	return room[:len(d)]
}

// scribble overwrites a result up to its capacity.
func scribble(d []impl.Wheel) {
	d = d[:cap(d)]
	for i := range d {
		d[i] = wheel(i-500, 12345, -i)
	}
}

// wantAsBefore checks that a list with room is as it was.
func wantAsBefore(t *testing.T, what string, d []impl.Wheel, before []impl.Wheel) {
	t.Helper()
	if now := withRoom(before); !slices.Equal(d[:len(d)+3], now[:len(now)+3]) {
		t.Errorf("%s changed an argument, or the result shares memory with it", what)
	}
}

func TestDesignArguments(t *testing.T) {
	designs := validDesigns()
	for i, before := range designs {
		d := withRoom(before)
		for _, change := range designChanges() {
			what := namedDesigns(change.name, before)
			got, ok := change.of(d)
			wantAsBefore(t, what, d, before)
			want := slices.Clone(got)
			again, againOK := change.of(d)
			scribble(got)
			wantAsBefore(t, what+", whose result is written to,", d, before)
			wantDesign(t, what+" again", again, againOK, want, ok)
		}
		otherBefore := designs[len(designs)-1-i]
		other := withRoom(otherBefore)
		for _, pair := range designPairs {
			what := namedDesigns(pair.name, before, otherBefore)
			got, ok := pair.of(d, other)
			want := slices.Clone(got)
			again, againOK := pair.of(d, other)
			scribble(got)
			wantAsBefore(t, what, d, before)
			wantAsBefore(t, what, other, otherBefore)
			wantDesign(t, what+" again", again, againOK, want, ok)
			pair.of(d, d)
			wantAsBefore(t, what+" with itself", d, before)
		}
		impl.DesignValid(d)
		impl.DesignAt(d, 5)
		impl.DesignSame(d, other)
		wantAsBefore(t, namedDesigns("DesignValid, DesignAt or DesignSame", before), d, before)
		wantAsBefore(t, namedDesigns("DesignSame", otherBefore), other, otherBefore)
	}
}
