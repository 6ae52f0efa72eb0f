package tests

import (
	"math"
	"math/cmplx"
	"math/rand/v2"
	"slices"
	"strconv"
	"testing"

	"loop.example/turningwheels/impl"
)

const mostCoef = 1000000

// beyondCoefs are no coefficients, though some are again if they are added, multiplied or negated with wraparound or in 32 bits.
var beyondCoefs = []int{
	math.MinInt, math.MinInt + 1, math.MinInt32, -1 << 32, -2000000, -1000001,
	1000001, 2000000, math.MaxInt32, 1 << 32, math.MaxInt - 1, math.MaxInt,
}

var edgeCoefs = []int{-1000000, -999999, -1, 1, 999999, 1000000}

// rootsByHand has the powers of w from 0 to 23, by w to the power of 8 as that of 4 less 1, and that of 12 as -1.
var rootsByHand = [steps][8]int{
	{1, 0, 0, 0, 0, 0, 0, 0},
	{0, 1, 0, 0, 0, 0, 0, 0},
	{0, 0, 1, 0, 0, 0, 0, 0},
	{0, 0, 0, 1, 0, 0, 0, 0},
	{0, 0, 0, 0, 1, 0, 0, 0},
	{0, 0, 0, 0, 0, 1, 0, 0},
	{0, 0, 0, 0, 0, 0, 1, 0},
	{0, 0, 0, 0, 0, 0, 0, 1},
	{-1, 0, 0, 0, 1, 0, 0, 0},
	{0, -1, 0, 0, 0, 1, 0, 0},
	{0, 0, -1, 0, 0, 0, 1, 0},
	{0, 0, 0, -1, 0, 0, 0, 1},
	{-1, 0, 0, 0, 0, 0, 0, 0},
	{0, -1, 0, 0, 0, 0, 0, 0},
	{0, 0, -1, 0, 0, 0, 0, 0},
	{0, 0, 0, -1, 0, 0, 0, 0},
	{0, 0, 0, 0, -1, 0, 0, 0},
	{0, 0, 0, 0, 0, -1, 0, 0},
	{0, 0, 0, 0, 0, 0, -1, 0},
	{0, 0, 0, 0, 0, 0, 0, -1},
	{1, 0, 0, 0, -1, 0, 0, 0},
	{0, 1, 0, 0, 0, -1, 0, 0},
	{0, 0, 1, 0, 0, 0, -1, 0},
	{0, 0, 0, 1, 0, 0, 0, -1},
}

func point(coefs ...int) impl.Cyc {
	var a impl.Cyc
	copy(a.C[:], coefs)
	return a
}

// only returns the point with one coefficient.
func only(k int, c int) impl.Cyc {
	var a impl.Cyc
	a.C[k] = c
	return a
}

// pointText writes a point for the messages of the tests.
func pointText(a impl.Cyc) string {
	text := "("
	for k, c := range a.C {
		if k > 0 {
			text += ","
		}
		text += strconv.Itoa(c)
	}
	return text + ")"
}

func namedPoints(name string, points ...impl.Cyc) string {
	text := name
	for _, a := range points {
		text += " " + pointText(a)
	}
	return text
}

// wantPoint checks a result with a point: the zero value and false where the document tells that there is none.
func wantPoint(t *testing.T, what string, got impl.Cyc, ok bool, want impl.Cyc, wantOK bool) {
	t.Helper()
	if got != want || ok != wantOK {
		t.Errorf("%s returned %s, %t and not %s, %t", what, pointText(got), ok, pointText(want), wantOK)
	}
}

// wantTold checks a result against what is calculated by hand: it is told exactly if all its coefficients are in their range.
func wantTold(t *testing.T, what string, got impl.Cyc, ok bool, byHand [8]int) {
	t.Helper()
	for _, c := range byHand {
		if c < -mostCoef || c > mostCoef {
			wantPoint(t, what, got, ok, impl.Cyc{}, false)
			return
		}
	}
	wantPoint(t, what, got, ok, impl.Cyc{C: byHand}, true)
}

// sumByHand returns a plus n times b.
func sumByHand(a [8]int, b [8]int, n int) [8]int {
	for k := range a {
		a[k] += n * b[k]
	}
	return a
}

// turnedByHand multiplies by w one time after the other: what would be w to the power of 8 is that of 4 less 1.
func turnedByHand(a [8]int, times int) [8]int {
	for range times {
		a = [8]int{-a[7], a[0], a[1], a[2], a[3] + a[7], a[4], a[5], a[6]}
	}
	return a
}

func productByHand(a [8]int, b [8]int) [8]int {
	var product [8]int
	for k, n := range b {
		product = sumByHand(product, turnedByHand(a, k), n)
	}
	return product
}

func mirrorByHand(a [8]int) [8]int {
	var mirror [8]int
	for k, n := range a {
		mirror = sumByHand(mirror, turnedByHand([8]int{1}, steps-k), n)
	}
	return mirror
}

// opposite returns the point with all opposite coefficients.
func opposite(a impl.Cyc) impl.Cyc {
	return impl.Cyc{C: sumByHand([8]int{}, a.C, -1)}
}

// randomPoint returns a point with coefficients of a size of at most a number, from some power on; the others are 0.
func randomPoint(source *rand.Rand, most int, from int) impl.Cyc {
	var a impl.Cyc
	for k := from; k < 8; k++ {
		a.C[k] = source.IntN(2*most+1) - most
	}
	return a
}

// validPoints returns 0, the roots, points at the ends of the range, and points of all sizes, the same ones each time.
func validPoints() []impl.Cyc {
	list := []impl.Cyc{{}, point(1, 2, 3, 4, 5, 6, 7, 8), point(-8, 7, -6, 5, -4, 3, -2, 1)}
	for _, root := range rootsByHand {
		list = append(list, impl.Cyc{C: root})
	}
	for k := range 8 {
		for _, c := range edgeCoefs {
			list = append(list, only(k, c))
		}
	}
	all := impl.Cyc{C: [8]int{1, 1, 1, 1, 1, 1, 1, 1}}
	list = append(list, all, opposite(all), impl.Cyc{C: sumByHand([8]int{}, all.C, mostCoef)}, impl.Cyc{C: sumByHand([8]int{}, all.C, -mostCoef)})
	source := rand.New(rand.NewPCG(24, 8))
	for _, most := range []int{2, 9, 300, 1000, mostCoef / 2, mostCoef} {
		for range 6 {
			list = append(list, randomPoint(source, most, 0), randomPoint(source, most, 4))
		}
	}
	return list
}

// invalidPoints returns points with each coefficient beyond its range, the others 0 or at their ends.
func invalidPoints() []impl.Cyc {
	var list []impl.Cyc
	for k := range 8 {
		for _, c := range beyondCoefs {
			list = append(list, only(k, c))
			full := point(1000000, -1000000, 1, -1, 1000000, -1000000, 0, 7)
			full.C[k] = c
			list = append(list, full)
		}
	}
	for _, c := range beyondCoefs {
		list = append(list, point(c, c, c, c, c, c, c, c))
	}
	return list
}

// value returns the complex number that a point is, from the turns of its powers alone.
func value(a impl.Cyc) complex128 {
	var sum complex128
	for k, c := range a.C {
		sum += complex(float64(c), 0) * cmplx.Rect(1, 2*math.Pi*float64(k)/steps)
	}
	return sum
}

func wantValue(t *testing.T, what string, got impl.Cyc, want complex128) {
	t.Helper()
	if cmplx.Abs(value(got)-want) > 1e-4 {
		t.Errorf("%s returned %s, which is %v and not %v", what, pointText(got), value(got), want)
	}
}

func TestCycValidTold(t *testing.T) {
	for _, a := range validPoints() {
		if !impl.CycValid(a) {
			t.Errorf("%s does not hold", namedPoints("CycValid", a))
		}
	}
	for _, a := range invalidPoints() {
		if impl.CycValid(a) {
			t.Errorf("%s holds", namedPoints("CycValid", a))
		}
	}
}

func TestCycValidPromise(t *testing.T) {
	for _, a := range validPoints() {
		got, ok := impl.CycScale(a, -1)
		wantPoint(t, namedPoints("CycScale by -1 of", a), got, ok, opposite(a), true)
		sum, ok := impl.CycAdd(a, got)
		wantPoint(t, namedPoints("CycAdd", a, got), sum, ok, impl.Cyc{}, true)
	}
}

func TestCycRootTold(t *testing.T) {
	for turn, want := range rootsByHand {
		got, ok := impl.CycRoot(turn)
		wantPoint(t, named("CycRoot", turn), got, ok, impl.Cyc{C: want}, true)
		wantValue(t, named("CycRoot", turn), got, cmplx.Rect(1, 2*math.Pi*float64(turn)/steps))
	}
	for _, none := range noTurns {
		got, ok := impl.CycRoot(none)
		wantPoint(t, named("CycRoot", none), got, ok, impl.Cyc{}, false)
	}
}

func TestCycRootPromise(t *testing.T) {
	for a := range steps {
		root, ok := impl.CycRoot(a)
		if !ok {
			t.Errorf("%s failed", named("CycRoot", a))
		}
		for b := range steps {
			got, ok := impl.CycTurned(root, b)
			want, _ := impl.CycRoot((a + b) % steps)
			wantPoint(t, named("CycTurned of the root", a, b), got, ok, want, true)
		}
		mirrored, ok := impl.CycMirror(root)
		if !ok {
			t.Errorf("%s failed", namedPoints("CycMirror", root))
		}
		got, ok := impl.CycTimes(root, mirrored)
		wantPoint(t, namedPoints("CycTimes", root, mirrored), got, ok, point(1), true)
	}
}

func TestCycAddTold(t *testing.T) {
	cases := []struct {
		a, b, want impl.Cyc
		ok         bool
	}{
		{point(1, 2, 3, 4, 5, 6, 7, 8), point(10, -20, 30, -40, 50, -60, 70, -80), point(11, -18, 33, -36, 55, -54, 77, -72), true},
		{point(), point(), point(), true},
		{point(999999), point(1), point(1000000), true},
		{point(1000000), point(1), point(), false},
		{point(-999999), point(-1), point(-1000000), true},
		{point(-1000000), point(-1), point(), false},
		{point(1000000), point(1000000), point(), false},
		{point(1000000), point(-1000000), point(), true},
		{point(1, 1000000), point(1, 1), point(), false},
	}
	for _, c := range cases {
		got, ok := impl.CycAdd(c.a, c.b)
		wantPoint(t, namedPoints("CycAdd", c.a, c.b), got, ok, c.want, c.ok)
	}
}

func TestCycAddPromise(t *testing.T) {
	for _, a := range validPoints() {
		for _, b := range validPoints() {
			what := namedPoints("CycAdd", a, b)
			got, ok := impl.CycAdd(a, b)
			wantTold(t, what, got, ok, sumByHand(a.C, b.C, 1))
			exchanged, exchangedOK := impl.CycAdd(b, a)
			wantPoint(t, what+" exchanged", exchanged, exchangedOK, got, ok)
			if ok {
				first, firstOK := impl.CycLess(got, b)
				wantPoint(t, what+" less the second one", first, firstOK, a, true)
				wantValue(t, what, got, value(a)+value(b))
			}
		}
	}
}

func TestCycLessTold(t *testing.T) {
	cases := []struct {
		a, b, want impl.Cyc
		ok         bool
	}{
		{point(1, 2, 3, 4, 5, 6, 7, 8), point(10, -20, 30, -40, 50, -60, 70, -80), point(-9, 22, -27, 44, -45, 66, -63, 88), true},
		{point(), point(1), point(-1), true},
		{point(999999), point(-1), point(1000000), true},
		{point(1000000), point(-1), point(), false},
		{point(-999999), point(1), point(-1000000), true},
		{point(-1000000), point(1), point(), false},
		{point(1000000), point(1000000), point(), true},
		{point(1000000), point(-1000000), point(), false},
		{point(5, 0, 0, 0, 0, 0, 0, -1000000), point(5, 0, 0, 0, 0, 0, 0, 1), point(), false},
	}
	for _, c := range cases {
		got, ok := impl.CycLess(c.a, c.b)
		wantPoint(t, namedPoints("CycLess", c.a, c.b), got, ok, c.want, c.ok)
	}
}

func TestCycLessPromise(t *testing.T) {
	for _, a := range validPoints() {
		for _, b := range validPoints() {
			what := namedPoints("CycLess", a, b)
			got, ok := impl.CycLess(a, b)
			wantTold(t, what, got, ok, sumByHand(a.C, b.C, -1))
			exchanged, exchangedOK := impl.CycLess(b, a)
			wantPoint(t, what+" exchanged", exchanged, exchangedOK, opposite(got), ok)
			if ok {
				first, firstOK := impl.CycAdd(got, b)
				wantPoint(t, what+" plus the second one", first, firstOK, a, true)
			}
		}
	}
}

// TestPairsFail checks what is made of two points: it fails if one of both is invalid, whatever the result would be.
func TestPairsFail(t *testing.T) {
	pairs := []struct {
		name string
		of   func(impl.Cyc, impl.Cyc) (impl.Cyc, bool)
	}{
		{"CycAdd", impl.CycAdd}, {"CycLess", impl.CycLess}, {"CycTimes", impl.CycTimes},
	}
	for _, none := range invalidPoints() {
		for _, other := range []impl.Cyc{{}, point(1), point(-1), point(0, 1, 0, 0, 0, 0, 0, 1), opposite(none), none} {
			for _, pair := range pairs {
				got, ok := pair.of(none, other)
				wantPoint(t, namedPoints(pair.name, none, other), got, ok, impl.Cyc{}, false)
				got, ok = pair.of(other, none)
				wantPoint(t, namedPoints(pair.name, other, none), got, ok, impl.Cyc{}, false)
			}
		}
	}
}

func TestCycTimesTold(t *testing.T) {
	cases := []struct {
		a, b, want impl.Cyc
		ok         bool
	}{
		{point(), point(1000000, 1000000), point(), true},
		{point(1), point(1, 2, 3, 4, 5, 6, 7, 8), point(1, 2, 3, 4, 5, 6, 7, 8), true},
		{point(0, 1), point(1, 2, 3, 4, 5, 6, 7, 8), point(-8, 1, 2, 3, 12, 5, 6, 7), true},
		{point(2, 0, 0, 0, 0, 0, 3), point(5, 0, 0, 0, 0, 0, 7), point(-11, 0, 0, 0, 0, 0, 29), true},
		{point(0, 0, 0, 0, 1, 1, 1, 1), point(0, 0, 0, 0, 1, 1, 1, 1), point(-4, -4, -4, -4, 1, 2, 3, 4), true},
		{point(0, 0, 0, 0, 1, -1, 1, -1), point(0, 0, 0, 0, 1, 1, 1, 1), point(0, 0, 0, 0, 1, 0, 1, 0), true},
		{point(0, 0, 0, 0, 1, 2, 3, 4), point(0, 0, 0, 0, 5, 6, 7, 8), point(-66, -68, -66, -60, 5, 16, 34, 60), true},
		// What comes down takes back what would be beyond.
		{point(600000, 0, 0, 0, -300000), point(2, 0, 0, 0, -1), point(900000, 0, 0, 0, -900000), true},
		// Units, of which the products have terms of up to 12 digits, and leave 1.
		{point(665857, 470832, 0, 470832, 0, -470832), point(665857, -470832, 0, -470832, 0, 470832), point(1), true},
		{point(262087, 0, 302632, 0, 0, 0, -151316), point(262087, 0, -302632, 0, 0, 0, 151316), point(1), true},
		{point(1000, 0, 0, 0, 1), point(1000, 0, 0, 0, 1), point(999999, 0, 0, 0, 2001), true},
		{point(1000, 0, 0, 0, 0, 0, 1), point(1000, 0, 0, 0, 0, 0, -1), point(), false},
		{point(999999, 0, 0, 0, 1), point(1, 0, 0, 0, -1), point(1000000, 0, 0, 0, -999999), true},
		{point(1000000, 0, 0, 0, 1), point(1, 0, 0, 0, -1), point(), false},
		{point(500000, 500000), point(1, 1), point(500000, 1000000, 500000), true},
		{point(500000, 500001), point(1, 1), point(), false},
	}
	for _, c := range cases {
		got, ok := impl.CycTimes(c.a, c.b)
		wantPoint(t, namedPoints("CycTimes", c.a, c.b), got, ok, c.want, c.ok)
	}
}

// TestCycTimesHighPowers multiplies all powers from 0 to 7 with each other, in all sizes up to the ends of the range.
func TestCycTimesHighPowers(t *testing.T) {
	cases := []struct {
		m, n int
		ok   bool
	}{
		{1, 1, true}, {-1, 1, true}, {-3, -5, true}, {1000, 1000, true}, {1000, -1000, true}, {-1000, -1000, true},
		{1, 1000000, true}, {-1000000, 1, true}, {-1000000, -1, true}, {999999, 1, true},
		{101, 9901, false}, {-101, 9901, false}, {101, -9901, false}, {-101, -9901, false},
		{1000000, 1000000, false}, {-1000000, 1000000, false}, {-1000000, -1000000, false}, {65536, 65536, false}, {2, 500001, false},
	}
	for i := range 8 {
		for k := range 8 {
			for _, c := range cases {
				a, b := only(i, c.m), only(k, c.n)
				want := impl.Cyc{}
				if c.ok {
					want.C = sumByHand([8]int{}, rootsByHand[i+k], c.m*c.n)
				}
				got, ok := impl.CycTimes(a, b)
				wantPoint(t, namedPoints("CycTimes", a, b), got, ok, want, c.ok)
			}
		}
	}
}

// TestCycTimesUnits multiplies turned units: all powers of both take part, the terms have up to 11 digits, and what is left is a root.
func TestCycTimesUnits(t *testing.T) {
	pairs := [][2][8]int{
		{{275807, 195025, 0, 195025, 0, -195025, 0, 0}, {-275807, 195025, 0, 195025, 0, -195025, 0, 0}},
		{{262087, 0, 302632, 0, 0, 0, -151316, 0}, {262087, 0, -302632, 0, 0, 0, 151316, 0}},
	}
	for _, pair := range pairs {
		for i := range steps {
			for k := range steps {
				a, b := impl.Cyc{C: turnedByHand(pair[0], i)}, impl.Cyc{C: turnedByHand(pair[1], k)}
				got, ok := impl.CycTimes(a, b)
				wantPoint(t, namedPoints("CycTimes", a, b), got, ok, impl.Cyc{C: rootsByHand[(i+k)%steps]}, true)
			}
		}
	}
}

func TestCycTimesPromise(t *testing.T) {
	for _, a := range validPoints() {
		for _, b := range validPoints() {
			what := namedPoints("CycTimes", a, b)
			got, ok := impl.CycTimes(a, b)
			wantTold(t, what, got, ok, productByHand(a.C, b.C))
			exchanged, exchangedOK := impl.CycTimes(b, a)
			wantPoint(t, what+" exchanged", exchanged, exchangedOK, got, ok)
			if !ok {
				continue
			}
			wantValue(t, what, got, value(a)*value(b))
			first, firstOK := impl.CycMirror(a)
			second, secondOK := impl.CycMirror(b)
			mirrored, mirroredOK := impl.CycMirror(got)
			product, productOK := impl.CycTimes(first, second)
			if firstOK && secondOK && mirroredOK && productOK {
				wantPoint(t, what+" of both mirrored", product, true, mirrored, true)
			}
		}
	}
}

func TestCycTimesSumPromise(t *testing.T) {
	for _, a := range validPoints() {
		for _, b := range validPoints() {
			product, productOK := impl.CycTimes(a, b)
			more, moreOK := impl.CycAdd(b, point(1))
			sum, sumOK := impl.CycAdd(product, a)
			got, ok := impl.CycTimes(a, more)
			if productOK && moreOK && sumOK != ok {
				t.Errorf("%s returned %t, but the sum %t", namedPoints("CycTimes", a, more), ok, sumOK)
			}
			if productOK && moreOK && sumOK && ok {
				wantPoint(t, namedPoints("CycTimes", a, more), got, ok, sum, true)
			}
		}
	}
}

func TestCycTurnedTold(t *testing.T) {
	cases := []struct {
		a    impl.Cyc
		turn int
		want impl.Cyc
		ok   bool
	}{
		{point(1, 2, 3, 4, 5, 6, 7, 8), 0, point(1, 2, 3, 4, 5, 6, 7, 8), true},
		{point(1, 2, 3, 4, 5, 6, 7, 8), 1, point(-8, 1, 2, 3, 12, 5, 6, 7), true},
		{point(1, 2, 3, 4, 5, 6, 7, 8), 4, point(-5, -6, -7, -8, 6, 8, 10, 12), true},
		{point(1, 2, 3, 4, 5, 6, 7, 8), 6, point(-10, -12, -5, -6, 3, 4, 6, 8), true},
		{point(1, 2, 3, 4, 5, 6, 7, 8), 12, point(-1, -2, -3, -4, -5, -6, -7, -8), true},
		{point(1, 2, 3, 4, 5, 6, 7, 8), 23, point(2, 3, 4, 6, 6, 7, 8, -1), true},
		{point(1000000, 0, 0, 0, 1000000), 0, point(1000000, 0, 0, 0, 1000000), true},
		{point(1000000, 0, 0, 0, 1000000), 12, point(-1000000, 0, 0, 0, -1000000), true},
		{point(1000000, 0, 0, 0, 1000000), 4, point(), false},
		{point(1000000, 0, 0, 0, -1000000), 4, point(1000000), true},
		{point(1000000, 0, 0, 0, 1), 4, point(), false},
		{point(999999, 0, 0, 0, 1), 4, point(-1, 0, 0, 0, 1000000), true},
		{point(0, 0, 0, 0, 0, 0, 0, -1000000), 23, point(0, 0, 0, 0, 0, 0, -1000000), true},
	}
	for _, c := range cases {
		got, ok := impl.CycTurned(c.a, c.turn)
		wantPoint(t, namedPoints(named("CycTurned by", c.turn)+" of", c.a), got, ok, c.want, c.ok)
	}
}

func TestCycTurnedPromise(t *testing.T) {
	for _, a := range validPoints() {
		for turn := range steps {
			what := namedPoints(named("CycTurned by", turn)+" of", a)
			got, ok := impl.CycTurned(a, turn)
			wantTold(t, what, got, ok, turnedByHand(a.C, turn))
			root, _ := impl.CycRoot(turn)
			product, productOK := impl.CycTimes(a, root)
			wantPoint(t, what+" by the product", product, productOK, got, ok)
			if ok {
				wantValue(t, what, got, value(a)*cmplx.Rect(1, 2*math.Pi*float64(turn)/steps))
				on, onOK := impl.CycTurned(got, (steps-turn)%steps)
				wantPoint(t, what+" turned on", on, onOK, a, true)
			}
		}
	}
}

func TestCycTurnedFails(t *testing.T) {
	for _, none := range noTurns {
		for _, a := range []impl.Cyc{{}, point(1), point(1, 2, 3, 4, 5, 6, 7, 8), point(0, math.MaxInt)} {
			got, ok := impl.CycTurned(a, none)
			wantPoint(t, namedPoints(named("CycTurned by", none)+" of", a), got, ok, impl.Cyc{}, false)
		}
	}
	for _, none := range invalidPoints() {
		for turn := range steps {
			got, ok := impl.CycTurned(none, turn)
			wantPoint(t, namedPoints(named("CycTurned by", turn)+" of", none), got, ok, impl.Cyc{}, false)
		}
	}
}

func TestCycMirrorTold(t *testing.T) {
	cases := []struct {
		a, want impl.Cyc
		ok      bool
	}{
		{point(), point(), true},
		{point(7), point(7), true},
		{point(0, 1), point(0, 0, 0, 1, 0, 0, 0, -1), true},
		{point(0, 0, 1), point(0, 0, 1, 0, 0, 0, -1), true},
		{point(0, 0, 0, 1), point(0, 1, 0, 0, 0, -1), true},
		{point(0, 0, 0, 0, 1), point(1, 0, 0, 0, -1), true},
		{point(0, 0, 0, 0, 0, 1), point(0, 0, 0, 0, 0, 0, 0, -1), true},
		{point(0, 0, 0, 0, 0, 0, 1), point(0, 0, 0, 0, 0, 0, -1), true},
		{point(0, 0, 0, 0, 0, 0, 0, 1), point(0, 0, 0, 0, 0, -1), true},
		{point(1, 2, 3, 4, 5, 6, 7, 8), point(6, 4, 3, 2, -5, -12, -10, -8), true},
		{point(999999, 0, 0, 0, 1), point(1000000, 0, 0, 0, -1), true},
		{point(1000000, 0, 0, 0, 1), point(), false},
		{point(-1000000, 0, 0, 0, -1), point(), false},
		{point(0, 1000000, 0, 0, 0, 0, 0, 0), point(0, 0, 0, 1000000, 0, 0, 0, -1000000), true},
		{point(0, 1000000, 0, 0, 0, 1), point(), false},
	}
	for _, c := range cases {
		got, ok := impl.CycMirror(c.a)
		wantPoint(t, namedPoints("CycMirror", c.a), got, ok, c.want, c.ok)
	}
	for _, none := range invalidPoints() {
		got, ok := impl.CycMirror(none)
		wantPoint(t, namedPoints("CycMirror", none), got, ok, impl.Cyc{}, false)
	}
}

func TestCycMirrorPromise(t *testing.T) {
	for _, a := range validPoints() {
		what := namedPoints("CycMirror", a)
		got, ok := impl.CycMirror(a)
		wantTold(t, what, got, ok, mirrorByHand(a.C))
		if !ok {
			continue
		}
		wantValue(t, what, got, cmplx.Conj(value(a)))
		back, backOK := impl.CycMirror(got)
		wantPoint(t, what+" led back", back, backOK, a, true)
		if sum, sumOK := impl.CycAdd(a, got); sumOK && !impl.CycReal(sum) {
			t.Errorf("%s returned %s, and the sum is not real", what, pointText(got))
		}
	}
}

var edgeNumbers = []int{-1000000, -999999, -1000, -24, -2, -1, 0, 1, 2, 3, 24, 1000, 999999, 1000000}

func TestCycScaleTold(t *testing.T) {
	cases := []struct {
		a    impl.Cyc
		n    int
		want impl.Cyc
		ok   bool
	}{
		{point(1, 2, 3, 4, 5, 6, 7, 8), 3, point(3, 6, 9, 12, 15, 18, 21, 24), true},
		{point(1, 2, 3, 4, 5, 6, 7, 8), -2, point(-2, -4, -6, -8, -10, -12, -14, -16), true},
		{point(1, 2, 3, 4, 5, 6, 7, 8), 0, point(), true},
		{point(1, -1), 1000000, point(1000000, -1000000), true},
		{point(1, -1), -1000000, point(-1000000, 1000000), true},
		{point(), 1000001, point(), false},
		{point(), -1000001, point(), false},
		{point(101), 9901, point(), false},
		{point(-101), 9901, point(), false},
		{point(0, 0, 0, 0, 0, 0, 0, 500000), 2, point(0, 0, 0, 0, 0, 0, 0, 1000000), true},
		{point(0, 0, 0, 0, 0, 0, 0, 500001), 2, point(), false},
		{point(0, 0, 0, 0, 0, 0, 0, 500001), -2, point(), false},
		{point(1000000), 1000000, point(), false},
		{point(65536), 65536, point(), false},
	}
	for _, c := range cases {
		got, ok := impl.CycScale(c.a, c.n)
		wantPoint(t, namedPoints(named("CycScale by", c.n)+" of", c.a), got, ok, c.want, c.ok)
	}
}

func TestCycScalePromise(t *testing.T) {
	for _, a := range validPoints() {
		for _, n := range edgeNumbers {
			what := namedPoints(named("CycScale by", n)+" of", a)
			got, ok := impl.CycScale(a, n)
			wantTold(t, what, got, ok, sumByHand([8]int{}, a.C, n))
			if !ok || n == mostCoef {
				continue
			}
			sum, sumOK := impl.CycAdd(got, a)
			more, moreOK := impl.CycScale(a, n+1)
			wantPoint(t, what+" once more", more, moreOK, sum, sumOK)
		}
	}
}

func TestCycScaleFails(t *testing.T) {
	for _, n := range beyondCoefs {
		for _, a := range []impl.Cyc{{}, point(1), point(-1, 0, 0, 0, 0, 0, 0, 1), point(math.MinInt)} {
			got, ok := impl.CycScale(a, n)
			wantPoint(t, namedPoints(named("CycScale by", n)+" of", a), got, ok, impl.Cyc{}, false)
		}
	}
	for _, none := range invalidPoints() {
		for _, n := range edgeNumbers {
			got, ok := impl.CycScale(none, n)
			wantPoint(t, namedPoints(named("CycScale by", n)+" of", none), got, ok, impl.Cyc{}, false)
		}
	}
}

func TestCycGaussPromise(t *testing.T) {
	numbers := slices.Concat(edgeNumbers, []int{-7, 5})
	for _, re := range numbers {
		for _, im := range numbers {
			what := named("CycGauss", re, im)
			got, ok := impl.CycGauss(re, im)
			wantPoint(t, what, got, ok, point(re, 0, 0, 0, 0, 0, im, 0), true)
			wantValue(t, what, got, complex(float64(re), float64(im)))
			turned, turnedOK := impl.CycTurned(got, 6)
			want, wantOK := impl.CycGauss(-im, re)
			wantPoint(t, what+" turned by a quarter", turned, turnedOK, want, wantOK)
			if impl.CycReal(got) != (im == 0) {
				t.Errorf("CycReal of %s returned %t", what, !(im == 0))
			}
		}
	}
}

func TestCycGaussFails(t *testing.T) {
	for _, none := range beyondCoefs {
		for _, other := range slices.Concat(edgeNumbers, beyondCoefs) {
			got, ok := impl.CycGauss(none, other)
			wantPoint(t, named("CycGauss", none, other), got, ok, impl.Cyc{}, false)
			got, ok = impl.CycGauss(other, none)
			wantPoint(t, named("CycGauss", other, none), got, ok, impl.Cyc{}, false)
		}
	}
}

// realByHand tells by the roots of 2, 3 and 6, of which an imaginary part is made, whether each one is missing from it.
func realByHand(c [8]int) bool {
	return c[4] == 0 && c[2] == -2*c[6] && c[1] == c[3] && c[1]+c[5]+c[7] == 0
}

// realPoints returns 0, whole numbers, multiples of the roots of 2, 3 and 6, up to the ends of the range, and sums of them.
func realPoints() []impl.Cyc {
	list := []impl.Cyc{
		{}, point(1), point(-1), point(1000000), point(-1000000),
		point(0, 1, 0, 1, 0, -1), point(0, 0, 2, 0, 0, 0, -1), point(0, 1, 0, 1, 0, 1, 0, -2),
		point(0, 1000000, 0, 1000000, 0, -1000000), point(0, 0, -1000000, 0, 0, 0, 500000),
		point(0, 500000, 0, 500000, 0, 500000, 0, -1000000), point(665857, -470832, 0, -470832, 0, 470832),
	}
	source := rand.New(rand.NewPCG(2, 3))
	for _, most := range []int{9, 300, 100000} {
		for range 12 {
			a := randomPoint(source, most, 0)
			a.C[2], a.C[3], a.C[4], a.C[7] = -2*a.C[6], a.C[1], 0, -a.C[1]-a.C[5]
			list = append(list, a)
		}
	}
	return list
}

func TestCycRealTold(t *testing.T) {
	for _, a := range slices.Concat(realPoints(), validPoints()) {
		if got := impl.CycReal(a); got != realByHand(a.C) {
			t.Errorf("%s returned %t", namedPoints("CycReal", a), got)
		}
	}
	// The last two are less than two millionths beside the real line.
	none := []impl.Cyc{
		point(0, 0, 0, 0, 0, 0, 1), point(7, 0, 0, 0, 0, 0, -1000000), point(0, 1), point(0, 0, 0, 0, 1), point(0, 0, 1, 0, 0, 0, -1),
		point(0, 1, 0, 1, 0, 1), point(0, 1, 0, -1, 0, -1), point(-1, 0, 0, 0, 1), point(1000000, 0, 0, 0, 1), point(-1000000, 0, 0, 0, -1),
		{C: turnedByHand([8]int{275807, -195025, 0, -195025, 0, 195025, 0, 0}, 6)},
		{C: sumByHand([8]int{1000000}, turnedByHand([8]int{275807, -195025, 0, -195025, 0, 195025, 0, 0}, 6), 1)},
	}
	for _, a := range none {
		if impl.CycReal(a) {
			t.Errorf("%s holds", namedPoints("CycReal", a))
		}
	}
	for _, a := range invalidPoints() {
		if impl.CycReal(a) {
			t.Errorf("%s holds", namedPoints("CycReal", a))
		}
	}
}

func TestCycRealPromise(t *testing.T) {
	for _, a := range realPoints() {
		if !impl.CycReal(a) {
			t.Errorf("%s does not hold", namedPoints("CycReal", a))
			continue
		}
		mirror, ok := impl.CycMirror(a)
		wantPoint(t, namedPoints("CycMirror", a), mirror, ok, a, true)
		square, ok := impl.CycTimes(a, a)
		wantTold(t, namedPoints("CycTimes", a, a), square, ok, productByHand(a.C, a.C))
		if ok && !impl.CycReal(square) {
			t.Errorf("%s is %s, which is not real", namedPoints("CycTimes", a, a), pointText(square))
		}
	}
}
