package tests

import (
	"math"
	"math/cmplx"
	"math/rand/v2"
	"slices"
	"strconv"
	"testing"

	"loop.example/turningwheels/impl"
)

// noLengths are lengths of lists that are no rows, though the points are.
var noLengths = []int{0, 5, 7, 9, 10, 11, 13, 14, 15, 16, 18, 20, 21, 22, 23, 25, 26, 36, 48, 72}

// noParts are numbers that a whole turn is not divided by for a row.
var noParts = []int{
	math.MinInt, math.MinInt32, -1 << 32, -48, -24, -12, -6, -2, -1, 0, 5, 7, 9, 10, 11, 13, 16, 18, 23, 25, 36, 48, 72, 240,
	math.MaxInt32, 1 << 32, math.MaxInt - 1, math.MaxInt,
}

// noShifts are no numbers that a row is shifted by.
var noShifts = []int{math.MinInt, math.MinInt32, -1 << 32, -48, -25, -24, -23, -2, -1, 24, 25, 26, 47, 48, 256, math.MaxInt32, 1 << 32, math.MaxInt}

func rowOfPoints(points ...impl.Cyc) []impl.Cyc {
	return points
}

// wholes returns a row of whole numbers.
func wholes(numbers ...int) []impl.Cyc {
	var row []impl.Cyc
	for _, n := range numbers {
		row = append(row, point(n))
	}
	return row
}

// alike returns a row of so many times the same point.
func alike(n int, a impl.Cyc) []impl.Cyc {
	return slices.Repeat(rowOfPoints(a), n)
}

// onlyAt returns a row of n points that are 0 but for one.
func onlyAt(n int, k int, a impl.Cyc) []impl.Cyc {
	row := make([]impl.Cyc, n)
	row[k] = a
	return row
}

// rootsAt returns the points of size 1 at some turns.
func rootsAt(turns ...int) []impl.Cyc {
	var row []impl.Cyc
	for _, t := range turns {
		row = append(row, impl.Cyc{C: rootsByHand[turnWithinByHand(t)]})
	}
	return row
}

func rowText(row []impl.Cyc) string {
	text := "[" + strconv.Itoa(len(row)) + ":"
	for _, a := range row {
		text += " " + pointText(a)
	}
	return text + "]"
}

func namedRows(name string, rows ...[]impl.Cyc) string {
	text := name
	for _, row := range rows {
		text += " " + rowText(row)
	}
	return text
}

// wantRow checks a result with a row: an empty one and false where the document tells that there is none.
func wantRow(t *testing.T, what string, got []impl.Cyc, ok bool, want []impl.Cyc, wantOK bool) {
	t.Helper()
	if !slices.Equal(got, want) || ok != wantOK {
		t.Errorf("%s returned %s, %t and not %s, %t", what, rowText(got), ok, rowText(want), wantOK)
	}
}

// addedByHand returns a sum from the first term on. It fails if one on the way is beyond.
func addedByHand(terms [][8]int) (impl.Cyc, bool) {
	var sum [8]int
	for _, term := range terms {
		sum = sumByHand(sum, term, 1)
		if !inCoefRange(sum) {
			return impl.Cyc{}, false
		}
	}
	return impl.Cyc{C: sum}, true
}

// transformByHand returns the transform of a row with the way -1, and the back transform with the way 1.
func transformByHand(row []impl.Cyc, way int) ([]impl.Cyc, bool) {
	var result []impl.Cyc
	for j := range row {
		var terms [][8]int
		for k, a := range row {
			terms = append(terms, turnedByHand(a.C, turnWithinByHand(way*j*k*steps/len(row))))
		}
		sum, ok := addedByHand(terms)
		if !ok {
			return nil, false
		}
		result = append(result, sum)
	}
	return result, true
}

// circularByHand returns the circular product of two rows. Each product of points is asked by itself, even if a sum would take it back.
func circularByHand(a []impl.Cyc, b []impl.Cyc) ([]impl.Cyc, bool) {
	var result []impl.Cyc
	for k := range a {
		var terms [][8]int
		for i := range a {
			product := productByHand(a[i].C, b[(k+len(b)-i)%len(b)].C)
			if !inCoefRange(product) {
				return nil, false
			}
			terms = append(terms, product)
		}
		sum, ok := addedByHand(terms)
		if !ok {
			return nil, false
		}
		result = append(result, sum)
	}
	return result, true
}

// productsByHand returns the products of the points of two rows, one by one.
func productsByHand(a []impl.Cyc, b []impl.Cyc) ([]impl.Cyc, bool) {
	var result []impl.Cyc
	for i := range a {
		product := productByHand(a[i].C, b[i].C)
		if !inCoefRange(product) {
			return nil, false
		}
		result = append(result, impl.Cyc{C: product})
	}
	return result, true
}

// squaresByHand adds the squares of sizes, each of which is asked as SurdNorm asks it.
func squaresByHand(row []impl.Cyc) ([4]int, bool) {
	var sum [4]int
	for _, a := range row {
		mirror := mirrorByHand(a.C)
		product := productByHand(a.C, mirror)
		if !inCoefRange(mirror) || !inCoefRange(product) {
			return [4]int{}, false
		}
		sum = fourSum(sum, reByHand(product, 0), 1)
		if slices.Max(sum[:]) > mostSurd || slices.Min(sum[:]) < -mostSurd {
			return [4]int{}, false
		}
	}
	return sum, true
}

// shiftedByHand begins with the point of an index, and goes on from the beginning beyond the end.
func shiftedByHand(row []impl.Cyc, m int) []impl.Cyc {
	var result []impl.Cyc
	for k := range row {
		result = append(result, row[(k+m)%len(row)])
	}
	return result
}

// scaledRow returns a row with all points times a number, by CycScale, and whether all are told.
func scaledRow(row []impl.Cyc, n int) ([]impl.Cyc, bool) {
	var result []impl.Cyc
	for _, a := range row {
		scaled, ok := impl.CycScale(a, n)
		if !ok {
			return nil, false
		}
		result = append(result, scaled)
	}
	return result, true
}

func randomRow(source *rand.Rand, n int, most int, from int) []impl.Cyc {
	var row []impl.Cyc
	for range n {
		row = append(row, randomPoint(source, most, from))
	}
	return row
}

// edgeRows returns rows of one length at the ends of what the document tells: with sums up to CoefMax and beyond, at last, on the way, and when turned.
func edgeRows(n int) [][]impl.Cyc {
	whole := mostCoef / n
	beyond := min(whole+1, mostCoef) // n of them, unless one point by itself is all
	list := [][]impl.Cyc{
		make([]impl.Cyc, n),
		alike(n, point(1)),
		alike(n, point(whole)),
		alike(n, point(beyond)),
		alike(n, only(5, -whole)),
		alike(n, only(5, -beyond)),
		alike(n, point(mostCoef)),
	}
	for k := range n {
		far := onlyAt(n, k, point(mostCoef))
		before, after := slices.Clone(far), slices.Clone(far)
		// The sums of the transform differ in where both small points stand: ahead of the great one, or behind.
		before[(k+1)%n], after[(k+1)%n] = point(1), point(-1)
		before[(k+n/2)%n], after[(k+n/2)%n] = point(-1), point(1)
		list = append(list, far, before, after, onlyAt(n, k, point(mostCoef, 0, 0, 0, mostCoef)), onlyAt(n, k, point(1, 2, 3, 4, 5, 6, 7, 8)))
		if k > 0 {
			// The second point is beyond when it is turned by itself.
			turning := onlyAt(n, k, point(600000, 0, 0, 0, 600000))
			turning[0] = point(300000, 0, 0, 0, 300000)
			list = append(list, turning)
		}
	}
	for k := range 8 {
		for _, c := range []int{-mostCoef, mostCoef} {
			near := onlyAt(n, n-1, only(k, -c/mostCoef))
			near[0] = impl.Cyc{C: sumByHand(near[0].C, only(k, c).C, 1)}
			if inCoefRange(near[0].C) {
				list = append(list, near)
			}
			list = append(list, onlyAt(n, 0, only(k, c)), onlyAt(n, n-1, only(k, c)))
		}
	}
	return list
}

// rowsOfLength returns rows of one length and of all sizes, the same ones each time.
func rowsOfLength(n int) [][]impl.Cyc {
	list := edgeRows(n)
	source := rand.New(rand.NewPCG(6, uint64(n)))
	for _, most := range []int{1, 3, 30, 200, 700, 5000, 20000, 100000, 400000, mostCoef} {
		list = append(list, randomRow(source, n, most, 0), randomRow(source, n, most, 6))
	}
	return list
}

func validRows() [][]impl.Cyc {
	var list [][]impl.Cyc
	for _, n := range divisors {
		list = append(list, rowsOfLength(n)...)
	}
	return list
}

// noRows returns lists of lengths that are none of a row, and lists with an invalid point in each place.
func noRows() [][]impl.Cyc {
	list := [][]impl.Cyc{nil}
	for _, n := range noLengths {
		list = append(list, make([]impl.Cyc, n), alike(n, point(1)))
	}
	for _, n := range divisors {
		for k := range n {
			list = append(list, onlyAt(n, k, point(mostCoef+1)), onlyAt(n, k, only(7, -mostCoef-1)))
		}
	}
	for i, none := range invalidPoints() {
		n := divisors[i%len(divisors)]
		row := alike(n, point(1))
		row[i%n] = none
		list = append(list, rowOfPoints(none), rowOfPoints(point(1), none), row)
	}
	return list
}

func TestRowValidTold(t *testing.T) {
	for _, row := range validRows() {
		if !impl.RowValid(row) {
			t.Errorf("%s does not hold", namedRows("RowValid", row))
		}
	}
	for _, none := range noRows() {
		if impl.RowValid(none) {
			t.Errorf("%s holds", namedRows("RowValid", none))
		}
	}
	for n := range 100 {
		if got := impl.RowValid(make([]impl.Cyc, n)); got != slices.Contains(divisors, n) {
			t.Errorf("%s returned %t", named("RowValid of a list of the length", n), got)
		}
	}
	for _, a := range validPoints() {
		if !impl.RowValid(rowOfPoints(a)) || !impl.RowValid(onlyAt(24, 23, a)) {
			t.Errorf("%s does not hold", namedPoints("RowValid of a row with", a))
		}
	}
}

func TestRowValidPromise(t *testing.T) {
	for _, row := range slices.Concat(validRows(), noRows()) {
		if !impl.RowValid(row) {
			continue
		}
		got, ok := impl.RowShift(row, 0)
		wantRow(t, namedRows("RowShift by 0 of", row), got, ok, row, true)
		if len(row) < 24 {
			got, ok = impl.RowShift(row, len(row))
			wantRow(t, namedRows("RowShift by its length of", row), got, ok, row, true)
		}
	}
}

func TestRowOfTold(t *testing.T) {
	ellipse := design(wheel(1, 2), wheel(-1, 1))
	cases := []struct {
		d    []impl.Wheel
		n    int
		want []impl.Cyc
		ok   bool
	}{
		{nil, 1, wholes(0), true},
		{nil, 3, wholes(0, 0, 0), true},
		{nil, 24, make([]impl.Cyc, 24), true},
		{design(wheel(0, 7)), 2, wholes(7, 7), true},
		{ellipse, 1, wholes(3), true},
		{ellipse, 2, wholes(3, -3), true},
		{ellipse, 3, rowOfPoints(point(3), point(-2, 0, 0, 0, 1), point(-1, 0, 0, 0, -1)), true},
		{ellipse, 4, rowOfPoints(point(3), point(0, 0, 0, 0, 0, 0, 1), point(-3), point(0, 0, 0, 0, 0, 0, -1)), true},
		{wheelsOf(1), 6, rootsAt(0, 4, 8, 12, 16, 20), true},
		{wheelsOf(-1), 6, rootsAt(0, 20, 16, 12, 8, 4), true},
		{wheelsOf(5), 8, rootsAt(0, 15, 6, 21, 12, 3, 18, 9), true},
		{wheelsOf(1), 12, rootsAt(0, 2, 4, 6, 8, 10, 12, 14, 16, 18, 20, 22), true},
		{wheelsOf(1), 24, rootsAt(0, 1, 2, 3, 4, 5, 6, 7, 8, 9, 10, 11, 12, 13, 14, 15, 16, 17, 18, 19, 20, 21, 22, 23), true},
		{wheelsOf(1000), 3, rootsAt(0, 8, 16), true},
		// A sum at last alone is asked of the point of a design.
		{design(wheel(0, 1000000), wheel(1, 1), wheel(1, -1)), 2, wholes(1000000, 1000000), true},
		{design(wheel(0, 1000000), wheel(1, -1)), 1, wholes(999999), true},
		{design(wheel(0, 1000000), wheel(1, -1)), 2, nil, false},
		{design(wheel(0, 1000000), wheel(1, 1)), 1, nil, false},
	}
	for _, c := range cases {
		got, ok := impl.RowOf(c.d, c.n)
		wantRow(t, named(namedDesigns("RowOf", c.d), c.n), got, ok, c.want, c.ok)
	}
}

// TestRowOfOneTurn takes designs whose point at one turn alone is none: only rows with this turn fail.
func TestRowOfOneTurn(t *testing.T) {
	for none := range steps {
		var d []impl.Wheel
		for speed := -6; speed <= 5; speed++ {
			d = append(d, impl.Wheel{Speed: speed, Radius: impl.Cyc{C: sumByHand([8]int{}, rootsByHand[turnWithinByHand(-none*speed)], 83334)}})
		}
		for turn := range steps {
			if _, ok := impl.DesignAt(d, turn); ok == (turn == none) {
				t.Fatalf("%s returned %t", named(namedDesigns("DesignAt", d), turn), ok)
			}
		}
		for _, n := range divisors {
			if got, ok := impl.RowOf(d, n); ok == (none%(steps/n) == 0) || !ok && len(got) > 0 {
				t.Errorf("%s returned %s, %t", named(namedDesigns("RowOf", d), n), rowText(got), ok)
			}
		}
	}
}

func TestRowOfPromise(t *testing.T) {
	for _, d := range validDesigns() {
		for _, n := range divisors {
			what := named(namedDesigns("RowOf", d), n)
			var want []impl.Cyc
			wantOK := true
			for k := range n {
				at, told := impl.DesignAt(d, k*steps/n)
				want, wantOK = append(want, at), wantOK && told && inCoefRange(atByHand(d, k*steps/n))
			}
			if !wantOK {
				want = nil
			}
			got, ok := impl.RowOf(d, n)
			wantRow(t, what, got, ok, want, wantOK)
			later, laterTold := impl.DesignLater(d, steps/n%steps)
			shifted, shiftedOK := impl.RowShift(got, 1)
			if ok && laterTold {
				row, rowOK := impl.RowOf(later, n)
				wantRow(t, what+" later", row, rowOK, shifted, shiftedOK)
			}
		}
	}
}

// TestRowOfFails checks that there is no row of lists that are no designs, and none of a number that does not divide a whole turn.
func TestRowOfFails(t *testing.T) {
	for _, n := range noParts {
		for _, d := range [][]impl.Wheel{nil, design(wheel(0)), wheelsOf(1), wheelsOf(1001), make([]impl.Wheel, 13)} {
			got, ok := impl.RowOf(d, n)
			wantRow(t, named(namedDesigns("RowOf", d), n), got, ok, nil, false)
		}
	}
	for _, none := range noDesigns() {
		for _, n := range []int{1, 24} {
			got, ok := impl.RowOf(none, n)
			wantRow(t, named(namedDesigns("RowOf", none), n), got, ok, nil, false)
		}
	}
}

func TestTransformTold(t *testing.T) {
	numbers := point(1, 2, 3, 4, 5, 6, 7, 8)
	cases := []struct {
		row, want []impl.Cyc
		ok        bool
	}{
		{wholes(7), wholes(7), true},
		{rowOfPoints(numbers), rowOfPoints(numbers), true},
		{rowOfPoints(point(1000000, 0, 0, 0, 1000000)), rowOfPoints(point(1000000, 0, 0, 0, 1000000)), true},
		{rowOfPoints(point(-1000000, 1000000, -1000000, 1000000, -1000000, 1000000, -1000000, 1000000)),
			rowOfPoints(point(-1000000, 1000000, -1000000, 1000000, -1000000, 1000000, -1000000, 1000000)), true},
		{wholes(1, -1), wholes(0, 2), true},
		{wholes(5, 3), wholes(8, 2), true},
		{wholes(1, 0, 0), wholes(1, 1, 1), true},
		{wholes(0, 1, 0), rootsAt(0, 16, 8), true},
		{wholes(0, 0, 1), rootsAt(0, 8, 16), true},
		{wholes(1, 1, 1), wholes(3, 0, 0), true},
		{wholes(0, 1, 0, 0), rootsAt(0, 18, 12, 6), true},
		{wholes(1, 2, 3, 4), rowOfPoints(point(10), point(-2, 0, 0, 0, 0, 0, 2), point(-2), point(-2, 0, 0, 0, 0, 0, -2)), true},
		{rootsAt(0, 4, 8, 12, 16, 20), wholes(0, 6, 0, 0, 0, 0), true},
		{rootsAt(0, 20, 16, 12, 8, 4), wholes(0, 0, 0, 0, 0, 6), true},
		{onlyAt(8, 3, point(1)), rootsAt(0, 15, 6, 21, 12, 3, 18, 9), true},
		{onlyAt(12, 1, point(1)), rootsAt(0, 22, 20, 18, 16, 14, 12, 10, 8, 6, 4, 2), true},
		{onlyAt(24, 1, point(1)), rootsAt(0, 23, 22, 21, 20, 19, 18, 17, 16, 15, 14, 13, 12, 11, 10, 9, 8, 7, 6, 5, 4, 3, 2, 1), true},
		{onlyAt(24, 5, point(0, 1)), rootsAt(1, 20, 15, 10, 5, 0, 19, 14, 9, 4, 23, 18, 13, 8, 3, 22, 17, 12, 7, 2, 21, 16, 11, 6), true},
		{alike(24, point(41666)), onlyAt(24, 0, point(999984)), true},
		{alike(24, point(41667)), nil, false},
		{wholes(500000, 500000), wholes(1000000, 0), true},
		{wholes(500000, 500001), nil, false},
		{wholes(1000000, -1), nil, false},
		// A sum on the way is beyond for the index 0 alone, while all are told at last.
		{rowOfPoints(point(1000000), point(2, 0, 0, 0, -1), point(-2, 0, 0, 0, 1)), nil, false},
		{wholes(1000000, 1, 0, -1), nil, false},
		// The same for the index 2 alone.
		{wholes(1000000, -1, 0, 1), nil, false},
		// A sum from the end on would be beyond on the way.
		{wholes(-1, 0, 1, 1000000), rowOfPoints(point(1000000), point(-2, 0, 0, 0, 0, 0, 1000000), point(-1000000), point(-2, 0, 0, 0, 0, 0, -1000000)), true},
		// The second point turned by itself has coefficients of 1200000.
		{rowOfPoints(point(300000, 0, 0, 0, 300000), point(600000, 0, 0, 0, 600000), point()),
			rowOfPoints(point(900000, 0, 0, 0, 900000), point(900000, 0, 0, 0, -900000), point(-900000, 0, 0, 0, 900000)), true},
		{rowOfPoints(point(), point(600000, 0, 0, 0, 600000), point()), nil, false},
	}
	for _, c := range cases {
		got, ok := impl.TransformOf(c.row)
		wantRow(t, namedRows("TransformOf", c.row), got, ok, c.want, c.ok)
		// The back transform has the same points, those behind the first one in the opposite order.
		want := slices.Clone(c.want)
		if c.ok {
			slices.Reverse(want[1:])
		}
		got, ok = impl.TransformBack(c.row)
		wantRow(t, namedRows("TransformBack", c.row), got, ok, want, c.ok)
	}
}

// transforms has both transforms, with the way in which they turn.
var transforms = []struct {
	name     string
	of, back func([]impl.Cyc) ([]impl.Cyc, bool)
	way      int
}{
	{"TransformOf", impl.TransformOf, impl.TransformBack, -1}, {"TransformBack", impl.TransformBack, impl.TransformOf, 1},
}

// TestTransformPromises checks what leads back, both ways, and each point by hand.
func TestTransformPromises(t *testing.T) {
	for _, transform := range transforms {
		for _, row := range validRows() {
			what := namedRows(transform.name, row)
			got, ok := transform.of(row)
			want, wantOK := transformByHand(row, transform.way)
			wantRow(t, what, got, ok, want, wantOK)
			back, backOK := transform.back(got)
			scaled, scaledOK := scaledRow(row, len(row))
			if ok && backOK {
				wantRow(t, what+" led back", back, true, scaled, scaledOK)
			}
			for j, a := range got {
				var sum complex128
				for k, b := range row {
					sum += value(b) * cmplx.Rect(1, 2*math.Pi*float64(transform.way*j*k)/float64(len(row)))
				}
				wantValue(t, named(what+" at", j), a, sum)
			}
		}
	}
}

// addedOften adds a surd to itself, as often as told, and tells whether all sums are told.
func addedOften(s impl.Surd, n int) (impl.Surd, bool) {
	sum, ok := impl.Surd{}, true
	for range n {
		sum, ok = impl.SurdAdd(sum, s)
		if !ok {
			return impl.Surd{}, false
		}
	}
	return sum, true
}

func TestTransformSquaresPromise(t *testing.T) {
	told := 0
	for _, row := range validRows() {
		transformed, ok := impl.TransformOf(row)
		squares, squaresOK := impl.RowSquares(row)
		often, oftenOK := addedOften(squares, len(row))
		got, gotOK := impl.RowSquares(transformed)
		if ok && squaresOK && oftenOK && gotOK {
			told++
			wantSurd(t, namedRows("RowSquares of TransformOf", row), got, true, often, true)
		}
	}
	if told < 100 {
		t.Errorf("RowSquares of a row and of its transform are told %d times", told)
	}
}

func TestRowShiftTold(t *testing.T) {
	six := wholes(10, 11, 12, 13, 14, 15)
	var all []impl.Cyc
	for k := range steps {
		all = append(all, point(k, -k))
	}
	cases := []struct {
		row  []impl.Cyc
		m    int
		want []impl.Cyc
	}{
		{wholes(5), 0, wholes(5)},
		{wholes(5), 1, wholes(5)},
		{wholes(5), 23, wholes(5)},
		{wholes(5, 6), 1, wholes(6, 5)},
		{wholes(5, 6), 22, wholes(5, 6)},
		{wholes(5, 6), 23, wholes(6, 5)},
		{wholes(5, 6, 7), 1, wholes(6, 7, 5)},
		{wholes(5, 6, 7), 23, wholes(7, 5, 6)},
		{six, 0, six},
		{six, 1, wholes(11, 12, 13, 14, 15, 10)},
		{six, 5, wholes(15, 10, 11, 12, 13, 14)},
		{six, 6, six},
		{six, 7, wholes(11, 12, 13, 14, 15, 10)},
		{six, 20, wholes(12, 13, 14, 15, 10, 11)},
		{six, 23, wholes(15, 10, 11, 12, 13, 14)},
		{all, 0, all},
		{all, 1, append(slices.Clone(all[1:]), all[0])},
		{all, 23, append([]impl.Cyc{all[23]}, all[:23]...)},
	}
	for _, c := range cases {
		got, ok := impl.RowShift(c.row, c.m)
		wantRow(t, named(namedRows("RowShift", c.row), c.m), got, ok, c.want, true)
	}
}

func TestRowShiftPromise(t *testing.T) {
	for _, row := range validRows() {
		transformed, ok := impl.TransformOf(row)
		for m := range steps {
			what := named(namedRows("RowShift", row), m)
			shifted, shiftedOK := impl.RowShift(row, m)
			wantRow(t, what, shifted, shiftedOK, shiftedByHand(row, m), true)
			got, gotOK := impl.TransformOf(shifted)
			if !ok || !gotOK {
				continue
			}
			for j, a := range transformed {
				want, told := impl.CycTurned(a, j*m*steps/len(row)%steps)
				if told {
					wantPoint(t, named("TransformOf "+what+" at", j), got[j], true, want, true)
				}
			}
		}
	}
}

func TestRowShiftFails(t *testing.T) {
	for _, m := range noShifts {
		for _, row := range [][]impl.Cyc{nil, wholes(1), make([]impl.Cyc, 24), wholes(1, 2, 3), make([]impl.Cyc, 5)} {
			got, ok := impl.RowShift(row, m)
			wantRow(t, named(namedRows("RowShift", row), m), got, ok, nil, false)
		}
	}
}

func TestRowTimesTold(t *testing.T) {
	cases := []struct {
		a, b, want []impl.Cyc
		ok         bool
	}{
		{wholes(3), wholes(-4), wholes(-12), true},
		{rowOfPoints(point(2, 0, 0, 0, 0, 0, 3)), rowOfPoints(point(5, 0, 0, 0, 0, 0, 7)), rowOfPoints(point(-11, 0, 0, 0, 0, 0, 29)), true},
		{wholes(1, 2, 3), wholes(4, 5, 6), wholes(4, 10, 18), true},
		{rootsAt(1, 2, 3, 4), rootsAt(23, 10, 5, 20), rootsAt(0, 12, 8, 0), true},
		{make([]impl.Cyc, 24), alike(24, point(1000000)), make([]impl.Cyc, 24), true},
		{wholes(1, 1000), wholes(1000000, 1000), wholes(1000000, 1000000), true},
		{wholes(1, 1000), wholes(1000000, 1001), nil, false},
		{wholes(1001, 1), wholes(1000, 1), nil, false},
		{wholes(1000, 0, 1000), wholes(1001, 5, -1001), nil, false},
		{rowOfPoints(point(1000000, 0, 0, 0, 1000000)), rootsAt(12), rowOfPoints(point(-1000000, 0, 0, 0, -1000000)), true},
		{rowOfPoints(point(1000000, 0, 0, 0, 1000000)), rootsAt(4), nil, false},
		{wholes(1), wholes(1, 1), nil, false},
		{wholes(1, 1, 1), wholes(1, 1), nil, false},
		{make([]impl.Cyc, 12), make([]impl.Cyc, 24), nil, false},
		{make([]impl.Cyc, 5), make([]impl.Cyc, 5), nil, false},
		{nil, nil, nil, false},
		{wholes(1), nil, nil, false},
	}
	for _, c := range cases {
		got, ok := impl.RowTimes(c.a, c.b)
		wantRow(t, namedRows("RowTimes", c.a, c.b), got, ok, c.want, c.ok)
		got, ok = impl.RowTimes(c.b, c.a)
		wantRow(t, namedRows("RowTimes", c.b, c.a), got, ok, c.want, c.ok)
	}
}

// rowPairs returns pairs of rows of one length, of which many have products that are told, with sums up to CoefMax and beyond.
func rowPairs() [][2][]impl.Cyc {
	var pairs [][2][]impl.Cyc
	source := rand.New(rand.NewPCG(53, 24))
	for _, n := range divisors {
		rows := rowsOfLength(n)
		units := [][]impl.Cyc{alike(n, point(1)), onlyAt(n, n-1, point(0, 0, 1)), onlyAt(n, 0, point(-1)), randomRow(source, n, 1, 5), randomRow(source, n, 2, 7)}
		for i, row := range rows {
			for _, unit := range units {
				pairs = append(pairs, [2][]impl.Cyc{row, unit}, [2][]impl.Cyc{unit, row})
			}
			pairs = append(pairs, [2][]impl.Cyc{row, rows[len(rows)-1-i]})
		}
		for _, most := range []int{1, 5, 20, 60, 100, 200, 400} {
			for range 3 {
				from := source.IntN(8)
				pairs = append(pairs, [2][]impl.Cyc{randomRow(source, n, most, from), randomRow(source, n, most, from)})
			}
		}
	}
	return pairs
}

func TestRowTimesPromise(t *testing.T) {
	for _, pair := range rowPairs() {
		a, b := pair[0], pair[1]
		what := namedRows("RowTimes", a, b)
		got, ok := impl.RowTimes(a, b)
		want, wantOK := productsByHand(a, b)
		wantRow(t, what, got, ok, want, wantOK)
		exchanged, exchangedOK := impl.RowTimes(b, a)
		wantRow(t, what+" exchanged", exchanged, exchangedOK, got, ok)
		if ok && len(got) != len(a) {
			t.Errorf("%s has the length %d", what, len(got))
		}
	}
}

func TestRowCircularTold(t *testing.T) {
	cases := []struct {
		a, b, want []impl.Cyc
		ok         bool
	}{
		{wholes(3), wholes(-4), wholes(-12), true},
		{rowOfPoints(point(2, 0, 0, 0, 0, 0, 3)), rowOfPoints(point(5, 0, 0, 0, 0, 0, 7)), rowOfPoints(point(-11, 0, 0, 0, 0, 0, 29)), true},
		{wholes(1, 2), wholes(3, 4), wholes(11, 10), true},
		{wholes(1, 2, 3), wholes(4, 5, 6), wholes(31, 31, 28), true},
		{wholes(1, 0, 0), wholes(4, 5, 6), wholes(4, 5, 6), true},
		{wholes(0, 1, 0), wholes(4, 5, 6), wholes(6, 4, 5), true},
		{wholes(4, 5, 6), wholes(0, 1, 0), wholes(6, 4, 5), true},
		{wholes(0, 0, 1), wholes(4, 5, 6), wholes(5, 6, 4), true},
		{onlyAt(24, 20, point(0, 1)), onlyAt(24, 7, point(0, 0, 1)), onlyAt(24, 3, point(0, 0, 0, 1)), true},
		{onlyAt(12, 1, point(0, 1)), rootsAt(0, 1, 2, 3, 4, 5, 6, 7, 8, 9, 10, 11), rootsAt(12, 1, 2, 3, 4, 5, 6, 7, 8, 9, 10, 11), true},
		{alike(24, point(1)), alike(24, point(41666)), alike(24, point(999984)), true},
		{alike(24, point(1)), alike(24, point(41667)), nil, false},
		{make([]impl.Cyc, 24), alike(24, point(1000000)), make([]impl.Cyc, 24), true},
		// A product is beyond, while each sum would take it back.
		{wholes(1000, 1000), wholes(1001, -1001), nil, false},
		{wholes(1001, -1001), wholes(1000, 1000), nil, false},
		{rowOfPoints(point(1000000, 0, 0, 0, 1000000), point(1000000, 0, 0, 0, 1000000)), rowOfPoints(point(0, 0, 0, 0, 1), point(0, 0, 0, 0, -1)), nil, false},
		// The sums on the way are not beyond either.
		{wholes(-100, 1000), wholes(10, 1001), nil, false},
		{wholes(10, 1001), wholes(-100, 1000), nil, false},
		{wholes(-100, 1000), wholes(10, 1000), wholes(999000, -90000), true},
		{wholes(-20, 0, 1000), wholes(50, 1001, 0), nil, false},
		{wholes(-20, 0, 1000), wholes(50, 1000, 0), wholes(999000, -20000, 50000), true},
		{rowOfPoints(point(0, 0, 0, 0, -1), point(1000000, 0, 0, 0, 1)), rowOfPoints(point(1), point(0, 0, 0, 0, 1)), nil, false},
		{onlyAt(24, 0, point(1001)), onlyAt(24, 23, point(1000)), nil, false},
		{onlyAt(24, 23, point(1001)), onlyAt(24, 0, point(1000)), nil, false},
		{onlyAt(24, 17, point(1000)), onlyAt(24, 23, point(1000)), onlyAt(24, 16, point(1000000)), true},
		{wholes(1), wholes(1, 1), nil, false},
		{wholes(1, 1), wholes(1), nil, false},
		{wholes(1, 0, 0), wholes(1, 0), nil, false},
		{make([]impl.Cyc, 24), make([]impl.Cyc, 12), nil, false},
		{make([]impl.Cyc, 5), make([]impl.Cyc, 5), nil, false},
		{nil, nil, nil, false},
	}
	for _, c := range cases {
		got, ok := impl.RowCircular(c.a, c.b)
		wantRow(t, namedRows("RowCircular", c.a, c.b), got, ok, c.want, c.ok)
	}
}

// TestRowCircularOrder adds in the order of the first row: what is beyond on the way depends on which of both rows it is.
func TestRowCircularOrder(t *testing.T) {
	ones, most := wholes(1, 1, 1), wholes(1000000, 1000000, 1000000)
	cases := []struct {
		a, b, want []impl.Cyc
		ok         bool
	}{
		{wholes(1000000, -1, 1), ones, most, true},
		{ones, wholes(1000000, -1, 1), nil, false},
		{wholes(1000000, 1, -1), ones, nil, false},
		{ones, wholes(1000000, 1, -1), nil, false},
		{wholes(-1, 1, 1000000), ones, most, true},
		{wholes(1, -1, 1000000), ones, most, true},
		{wholes(1, 1000000, -1), ones, nil, false},
		{wholes(-1, 1000000, 1), ones, most, true},
		{ones, wholes(-1, 1000000, 1), nil, false},
		{wholes(1, 1, 0, 0), wholes(1000000, -1000000, 1000000, -1000000), make([]impl.Cyc, 4), true},
		{wholes(1000000, 1000000, -1000000, -1000000), alike(4, point(1)), nil, false},
		{wholes(1000000, -1000000, 1000000, -1000000), alike(4, point(1)), make([]impl.Cyc, 4), true},
	}
	for _, c := range cases {
		got, ok := impl.RowCircular(c.a, c.b)
		wantRow(t, namedRows("RowCircular", c.a, c.b), got, ok, c.want, c.ok)
	}
}

func TestRowCircularPromise(t *testing.T) {
	told := 0
	for _, pair := range rowPairs() {
		a, b := pair[0], pair[1]
		what := namedRows("RowCircular", a, b)
		got, ok := impl.RowCircular(a, b)
		want, wantOK := circularByHand(a, b)
		wantRow(t, what, got, ok, want, wantOK)
		if exchanged, exchangedOK := impl.RowCircular(b, a); ok && exchangedOK {
			wantRow(t, what+" exchanged", exchanged, true, got, true)
		}
		transformed, transformedOK := impl.TransformOf(got)
		first, firstOK := impl.TransformOf(a)
		second, secondOK := impl.TransformOf(b)
		products, productsOK := impl.RowTimes(first, second)
		if transformedOK && firstOK && secondOK && productsOK {
			told++
			wantRow(t, "TransformOf "+what, transformed, true, products, true)
		}
	}
	if told < 300 {
		t.Errorf("TransformOf RowCircular and RowTimes of both transforms are told %d times", told)
	}
}

func TestRowSquaresTold(t *testing.T) {
	cases := []struct {
		row  []impl.Cyc
		want impl.Surd
		ok   bool
	}{
		{wholes(0), surd(), true},
		{wholes(-3), surd(36), true},
		{wholes(1, 2), surd(20), true},
		{make([]impl.Cyc, 24), surd(), true},
		{rowOfPoints(point(1, 1)), surd(8, 2, 0, 2), true},
		{rowOfPoints(point(1, 1), point(1, -1)), surd(16), true},
		{rowOfPoints(point(1, 1), point(1, 0, 0, 1), point(1, 0, 1)), surd(24, 6, 4, 2), true},
		{rootsAt(0, 1, 2, 3, 4, 5, 6, 7, 8, 9, 10, 11, 12, 13, 14, 15, 16, 17, 18, 19, 20, 21, 22, 23), surd(96), true},
		{rowOfPoints(point(), point(), point(), point(), point(), point(), point(), point(1, 0, 0, 0, 1)), surd(12), true},
		{wholes(1000), surd(4000000), true},
		{wholes(1000, 1000), surd(8000000), true},
		{wholes(1000, 1000, 700), surd(9960000), true},
		{wholes(1000, 1000, 708), surd(), false},
		{wholes(1000, 1000, 700, 100), surd(10000000), true},
		{wholes(1000, 1000, 700, 100, 0, 1), surd(), false},
		{alike(24, point(322)), surd(9953664), true},
		{alike(24, point(323)), surd(), false},
		// A size is not valid, whatever the sum would be.
		{wholes(1001), surd(), false},
		{wholes(0, 0, 1001), surd(), false},
		{wholes(1001, 0), surd(), false},
		{rowOfPoints(point(1000000, 0, 0, 0, 1)), surd(), false},
		{rowOfPoints(point(0, 707, 0, 707, 0, -707), point()), surd(3998792), true},
		{rowOfPoints(point(0, 708, 0, 708, 0, -708), point()), surd(), false},
		// Sums on the way are not valid, even far ahead of the end.
		{wholes(1000, 1000, 1000, 0, 0, 0, 0, 0), surd(), false},
		{wholes(0, 0, 0, 0, 0, 1000, 1000, 1000), surd(), false},
		{alike(24, point(1000)), surd(), false},
	}
	for _, c := range cases {
		got, ok := impl.RowSquares(c.row)
		wantSurd(t, namedRows("RowSquares", c.row), got, ok, c.want, c.ok)
	}
}

func TestRowSquaresPromise(t *testing.T) {
	var rows [][]impl.Cyc
	for i, a := range normPoints() {
		n := divisors[i%len(divisors)]
		rows = append(rows, rowOfPoints(a), onlyAt(n, i%n, a), alike(n, a), rowOfPoints(point(900, 0, 0, 200), a))
	}
	for _, row := range slices.Concat(rows, validRows()) {
		what := namedRows("RowSquares", row)
		got, ok := impl.RowSquares(row)
		numbers, told := squaresByHand(row)
		wantSurd(t, what, got, ok, surdOf(numbers), told)
		shifted, _ := impl.RowShift(row, 1)
		again, againOK := impl.RowSquares(shifted)
		wantSurd(t, what+" shifted by 1", again, againOK, got, ok)
		if !ok {
			continue
		}
		want := 1
		if slices.Equal(row, make([]impl.Cyc, len(row))) {
			want = 0
		}
		sign, signOK := impl.SurdSign(got)
		wantSign(t, "SurdSign of "+what, sign, signOK, want, true)
	}
}

func TestRowDesignTold(t *testing.T) {
	cases := []struct {
		row  []impl.Cyc
		want []impl.Wheel
		ok   bool
	}{
		{wholes(7), design(wheel(0, 7)), true},
		{wholes(0), nil, true},
		{rowOfPoints(point(1000000, 0, 0, 0, 1000000)), design(wheel(0, 1000000, 0, 0, 0, 1000000)), true},
		{wholes(1, -1), design(wheel(1, 2)), true},
		{wholes(1, 1), design(wheel(0, 2)), true},
		{wholes(5, 3), design(wheel(0, 8), wheel(1, 2)), true},
		{wholes(0, 1, 0), design(wheel(-1, -1, 0, 0, 0, 1), wheel(0, 1), wheel(1, 0, 0, 0, 0, -1)), true},
		{wholes(0, 1, 0, 0), design(wheel(-1, 0, 0, 0, 0, 0, 0, 1), wheel(0, 1), wheel(1, 0, 0, 0, 0, 0, 0, -1), wheel(2, -1)), true},
		{wholes(1, -1, 1, -1), design(wheel(2, 4)), true},
		{wholes(1, -1, 1, -1, 1, -1), design(wheel(3, 6)), true},
		{rootsAt(0, 4, 8, 12, 16, 20), design(wheel(1, 6)), true},
		{rootsAt(0, 20, 16, 12, 8, 4), design(wheel(-1, 6)), true},
		{rootsAt(0, 16, 8, 0, 16, 8), design(wheel(-2, 6)), true},
		{onlyAt(6, 0, point(2)), wheelsFromTo(-2, 3, 2), true},
		{onlyAt(8, 0, point(1)), wheelsFromTo(-3, 4, 1), true},
		{onlyAt(12, 0, point(0, 5)), design(
			wheel(-5, 0, 5), wheel(-4, 0, 5), wheel(-3, 0, 5), wheel(-2, 0, 5), wheel(-1, 0, 5), wheel(0, 0, 5),
			wheel(1, 0, 5), wheel(2, 0, 5), wheel(3, 0, 5), wheel(4, 0, 5), wheel(5, 0, 5), wheel(6, 0, 5),
		), true},
		{rootsAt(0, 10, 20, 6, 16, 2, 12, 22, 8, 18, 4, 14), design(wheel(5, 12)), true},
		{rootsAt(0, 14, 4, 18, 8, 22, 12, 2, 16, 6, 20, 10), design(wheel(-5, 12)), true},
		{rootsAt(0, 12, 0, 12, 0, 12, 0, 12, 0, 12, 0, 12), design(wheel(6, 12)), true},
		{make([]impl.Cyc, 12), nil, true},
		{alike(12, point(83333)), design(wheel(0, 999996)), true},
		{alike(12, point(83334)), nil, false},
		// Even a row that fewer wheels would do for.
		{make([]impl.Cyc, 24), nil, false},
		{alike(24, point(1)), nil, false},
		{wholes(1000000, 1), nil, false},
		{wholes(1000000, 1, 0, -1), nil, false},
		{nil, nil, false},
		{make([]impl.Cyc, 5), nil, false},
	}
	for _, c := range cases {
		got, ok := impl.RowDesign(c.row)
		wantDesign(t, namedRows("RowDesign", c.row), got, ok, c.want, c.ok)
	}
}

// designOfByHand returns the design of a row: the points of the transform, with the speeds of their indexes but for those beyond the middle.
func designOfByHand(row []impl.Cyc) ([]impl.Wheel, bool) {
	n := len(row)
	points, ok := transformByHand(row, -1)
	if !ok || n > mostWheels {
		return nil, false
	}
	var d []impl.Wheel
	for speed := -n; speed <= n; speed++ {
		if -n < 2*speed && 2*speed <= n && points[(speed+n)%n] != (impl.Cyc{}) {
			d = append(d, impl.Wheel{Speed: speed, Radius: points[(speed+n)%n]})
		}
	}
	return d, true
}

func TestRowDesignPromise(t *testing.T) {
	for _, row := range validRows() {
		what := namedRows("RowDesign", row)
		got, ok := impl.RowDesign(row)
		want, wantOK := designOfByHand(row)
		wantDesign(t, what, got, ok, want, wantOK)
		if !ok {
			continue
		}
		if !isTidy(got) {
			t.Errorf("%s returned %s, which is not tidy", what, designText(got))
		}
		scaled, scaledOK := scaledRow(row, len(row))
		back, backOK := impl.RowOf(got, len(row))
		wantRow(t, "RowOf "+what, back, backOK, scaled, scaledOK)
	}
}

// rowChange is what makes a row of one.
type rowChange struct {
	name string
	of   func([]impl.Cyc) ([]impl.Cyc, bool)
}

// rowChanges returns all that makes a row of one, with valid numbers.
func rowChanges() []rowChange {
	list := []rowChange{{"TransformOf", impl.TransformOf}, {"TransformBack", impl.TransformBack}}
	for _, m := range []int{0, 1, 2, 12, 23} {
		list = append(list, rowChange{named("RowShift", m), func(row []impl.Cyc) ([]impl.Cyc, bool) { return impl.RowShift(row, m) }})
	}
	return list
}

// rowJoins has all that makes a row of two.
var rowJoins = []struct {
	name string
	of   func([]impl.Cyc, []impl.Cyc) ([]impl.Cyc, bool)
}{
	{"RowTimes", impl.RowTimes}, {"RowCircular", impl.RowCircular},
}

// TestRowsFail checks that nothing is made of a list that is no row.
func TestRowsFail(t *testing.T) {
	for _, none := range noRows() {
		for _, change := range rowChanges() {
			got, ok := change.of(none)
			wantRow(t, namedRows(change.name, none), got, ok, nil, false)
		}
		for _, m := range []int{-1, 24} {
			got, ok := impl.RowShift(none, m)
			wantRow(t, named(namedRows("RowShift", none), m), got, ok, nil, false)
		}
		for _, other := range [][]impl.Cyc{nil, wholes(1), wholes(0, 0), make([]impl.Cyc, len(none)), none} {
			for _, join := range rowJoins {
				got, ok := join.of(none, other)
				wantRow(t, namedRows(join.name, none, other), got, ok, nil, false)
				got, ok = join.of(other, none)
				wantRow(t, namedRows(join.name, other, none), got, ok, nil, false)
			}
		}
		squares, ok := impl.RowSquares(none)
		wantSurd(t, namedRows("RowSquares", none), squares, ok, impl.Surd{}, false)
		d, ok := impl.RowDesign(none)
		wantDesign(t, namedRows("RowDesign", none), d, ok, nil, false)
	}
}

// TestRowsOfTwoLengthsFail checks that rows of different lengths are not joined, even if one is part of the other.
func TestRowsOfTwoLengthsFail(t *testing.T) {
	for _, n := range divisors {
		for _, m := range divisors {
			for _, join := range rowJoins {
				a, b := alike(n, point(1)), make([]impl.Cyc, m)
				got, ok := join.of(a, b)
				wantRow(t, namedRows(join.name, a, b), got, ok, make([]impl.Cyc, len(got)), n == m)
			}
		}
	}
}

// rowWithRoom returns a copy of a row with strange points in its spare capacity, where nothing may be written either.
func rowWithRoom(row []impl.Cyc) []impl.Cyc {
	room := append(slices.Clone(row), point(-77, 7), point(-78, 8), point(-79, 9))
	return room[:len(row)]
}

// scribblePoints overwrites a result up to its capacity.
func scribblePoints(row []impl.Cyc) {
	row = row[:cap(row)]
	for i := range row {
		row[i] = point(i-500, 12345, -i)
	}
}

// wantRowAsBefore checks that a row with room is as it was.
func wantRowAsBefore(t *testing.T, what string, row []impl.Cyc, before []impl.Cyc) {
	t.Helper()
	if now := rowWithRoom(before); !slices.Equal(row[:len(row)+3], now[:len(now)+3]) {
		t.Errorf("%s changed an argument, or the result shares memory with it", what)
	}
}

func TestRowArguments(t *testing.T) {
	for _, before := range validRows() {
		row := rowWithRoom(before)
		for _, change := range rowChanges() {
			what := namedRows(change.name, before)
			got, ok := change.of(row)
			wantRowAsBefore(t, what, row, before)
			want := slices.Clone(got)
			again, againOK := change.of(row)
			scribblePoints(got)
			wantRowAsBefore(t, what+", whose result is written to,", row, before)
			wantRow(t, what+" again", again, againOK, want, ok)
		}
		d, ok := impl.RowDesign(row)
		want := slices.Clone(d)
		again, againOK := impl.RowDesign(row)
		scribble(d)
		wantDesign(t, namedRows("RowDesign", before)+" again", again, againOK, want, ok)
		impl.RowValid(row)
		impl.RowSquares(row)
		wantRowAsBefore(t, namedRows("RowDesign, RowValid or RowSquares", before), row, before)
	}
}

func TestRowPairArguments(t *testing.T) {
	for _, pair := range rowPairs() {
		a, b := rowWithRoom(pair[0]), rowWithRoom(pair[1])
		for _, join := range rowJoins {
			what := namedRows(join.name, pair[0], pair[1])
			got, ok := join.of(a, b)
			want := slices.Clone(got)
			again, againOK := join.of(a, b)
			scribblePoints(got)
			wantRowAsBefore(t, what, a, pair[0])
			wantRowAsBefore(t, what, b, pair[1])
			wantRow(t, what+" again", again, againOK, want, ok)
			join.of(a, a)
			wantRowAsBefore(t, what+" with itself", a, pair[0])
		}
	}
}

func TestRowOfArguments(t *testing.T) {
	for _, before := range validDesigns() {
		d := withRoom(before)
		for _, n := range divisors {
			what := named(namedDesigns("RowOf", before), n)
			got, ok := impl.RowOf(d, n)
			want := slices.Clone(got)
			again, againOK := impl.RowOf(d, n)
			scribblePoints(got)
			wantAsBefore(t, what, d, before)
			wantRow(t, what+" again", again, againOK, want, ok)
		}
	}
}
