package tests

import (
	"math"
	"math/big"
	"math/rand/v2"
	"slices"
	"strconv"
	"testing"

	"loop.example/turningwheels/impl"
)

const (
	mostGrid       = 8
	mostPath       = 100
	mostPart       = 4096
	mostMoveNumber = 10000000
)

var (
	negativeZero = float32(math.Copysign(0, -1))
	infinity     = float32(math.Inf(1))
	noNumber     = float32(math.NaN())
)

// noGrids are no numbers of halvings, though some are again in 8, 16 or 32 bits, or as the count of a shift modulo 32 or 64.
var noGrids = []int{
	math.MinInt, math.MinInt + 1, math.MinInt32, -1 << 32, -65536, -256, -64, -32, -8, -2, -1,
	9, 10, 16, 31, 32, 33, 63, 64, 65, 256, 264, 65536, math.MaxInt32, 1 << 32, 1<<32 + 8, math.MaxInt,
}

// edgeParts are parts of points of paths: those at the ends of the range, zeros, the smallest floats, and others about halves of units.
var edgeParts = []float32{
	0, negativeZero, 1, -1, 2, -2, 3, 0.5, -0.5, 0.25, -0.25, 0.75, -0.75, 1.5, -1.5, 2.5, -2.5,
	below(0.5), above(0.5), below(-0.5), above(-0.5), below(1), above(1), below(-1), above(-1), below(1.5), above(1.5), below(-1.5), above(-1.5),
	math.SmallestNonzeroFloat32, -math.SmallestNonzeroFloat32, 1e-40, -1e-40, 1e-30, -1e-30, 0x1p-126, -0x1p-126,
	0x1p-9, -0x1p-9, 0x3p-9, -0x3p-9, below(0x1p-9), above(-0x1p-9), below(-0x1p-9), 0x1p-10, -0x1p-10,
	123.456, -123.456, 1000, -1000, 2048, -2048, 4095, -4095, 4095.5, -4095.5, 4095.75, -4095.75,
	0x1p12 - 0x1p-9, 0x1p-9 - 0x1p12, below(4096), above(-4096), 4096, -4096,
}

// noPathParts are no parts of points of paths.
var noPathParts = []float32{
	above(4096), below(-4096), 4096.5, -4096.5, 4097, -4097, 8192, -8192, 65536, -65536, 1e10, -1e10,
	0x1p31, -0x1p31, 0x1p32, 0x1p63, -0x1p63, 0x1p64, math.MaxFloat32, -math.MaxFloat32,
	infinity, -infinity, noNumber, -noNumber, math.Float32frombits(0x7f800001), math.Float32frombits(0xffffffff),
}

// beyondMoves are no numbers of moves, though some are again in 8, 16 or 32 bits.
var beyondMoves = []int{
	math.MinInt, math.MinInt + 1, math.MinInt32, -1 << 32, -20000000, -10000002, -10000001,
	10000001, 10000002, 20000000, 1 << 24, math.MaxInt32, 1 << 32, 1<<32 + 5, math.MaxInt - 1, math.MaxInt,
}

// above returns the next greater float32.
func above(x float32) float32 {
	return math.Nextafter32(x, infinity)
}

// below returns the next lesser float32.
func below(x float32) float32 {
	return math.Nextafter32(x, -infinity)
}

func move(x int, y int) impl.Move {
	return impl.Move{X: x, Y: y}
}

// movesOf returns moves with these numbers, two for each.
func movesOf(numbers ...int) []impl.Move {
	var list []impl.Move
	for k := 0; k < len(numbers); k += 2 {
		list = append(list, move(numbers[k], numbers[k+1]))
	}
	return list
}

func pathText(list []complex64) string {
	text := "["
	for _, z := range list {
		text += " " + strconv.FormatComplex(complex128(z), 'g', -1, 64)
	}
	return text + " ]"
}

func movesText(list []impl.Move) string {
	text := "["
	for _, m := range list {
		text += " " + strconv.Itoa(m.X) + "," + strconv.Itoa(m.Y)
	}
	return text + " ]"
}

func namedPaths(name string, paths ...[]complex64) string {
	for _, list := range paths {
		name += " " + pathText(list)
	}
	return name
}

func namedMoves(name string, list []impl.Move) string {
	return name + " " + movesText(list)
}

// sameSingle reports whether two complex64 have the same bits.
func sameSingle(a complex64, b complex64) bool {
	return singleBits(a) == singleBits(b)
}

// wantPath checks a result with a path bit by bit: an empty one and false where the document tells that there is none.
func wantPath(t *testing.T, what string, got []complex64, ok bool, want []complex64, wantOK bool) {
	t.Helper()
	if !slices.EqualFunc(got, want, sameSingle) || ok != wantOK {
		t.Errorf("%s returned %s, %t and not %s, %t", what, pathText(got), ok, pathText(want), wantOK)
	}
}

func wantMove(t *testing.T, what string, got impl.Move, ok bool, want impl.Move, wantOK bool) {
	t.Helper()
	if got != want || ok != wantOK {
		t.Errorf("%s returned %v, %t and not %v, %t", what, got, ok, want, wantOK)
	}
}

func wantMoves(t *testing.T, what string, got []impl.Move, ok bool, want []impl.Move, wantOK bool) {
	t.Helper()
	if !slices.Equal(got, want) || ok != wantOK {
		t.Errorf("%s returned %s, %t and not %s, %t", what, movesText(got), ok, movesText(want), wantOK)
	}
}

// wantBox checks both results of PathBox bit by bit.
func wantBox(t *testing.T, list []complex64, least complex64, greatest complex64, ok bool) {
	t.Helper()
	gotLeast, gotGreatest, gotOK := impl.PathBox(list)
	if !sameSingle(gotLeast, least) || !sameSingle(gotGreatest, greatest) || gotOK != ok {
		t.Errorf("%s returned %v, %v, %t and not %v, %v, %t", namedPaths("PathBox", list), gotLeast, gotGreatest, gotOK, least, greatest, ok)
	}
}

// wantFar checks a result of PathFar bit by bit: of both zeros it is never the negative one.
func wantFar(t *testing.T, a []complex64, b []complex64, want float32, wantOK bool) {
	t.Helper()
	got, ok := impl.PathFar(a, b)
	if math.Float32bits(got) != math.Float32bits(want) || ok != wantOK {
		t.Errorf("%s returned %v, %t and not %v, %t", namedPaths("PathFar", a, b), got, ok, want, wantOK)
	}
}

// pathByHand reports whether a list is a path.
func pathByHand(list []complex64) bool {
	within := 0
	for _, z := range list {
		for _, x := range []float32{real(z), imag(z)} {
			if x >= -mostPart && x <= mostPart {
				within++
			}
		}
	}
	return len(list) > 0 && len(list) <= mostPath && within == 2*len(list)
}

// movesByHand reports whether a list is one of moves.
func movesByHand(list []impl.Move) bool {
	for _, m := range list {
		for _, n := range []int{m.X, m.Y} {
			if n < -mostMoveNumber || n > mostMoveNumber {
				return false
			}
		}
	}
	return len(list) <= mostPath
}

func floorByHand(x *big.Float) int {
	whole, accuracy := x.Int64()
	if accuracy == big.Above {
		// What is cut off is greater than the number itself.
		whole--
	}
	return int(whole)
}

// unitsByHand returns the number of units of a part: the product and the sum are rounded to 24 bits by themselves.
func unitsByHand(x float32, g int) int {
	const bits = 24
	product := rounded(0, bits).Mul(rounded(float64(x), bits), rounded(math.Ldexp(1, g), bits))
	return floorByHand(rounded(0, bits).Add(product, rounded(0.5, bits)))
}

func gridPointByHand(z complex64, g int) impl.Move {
	return move(unitsByHand(real(z), g), unitsByHand(imag(z), g))
}

func pathMovesByHand(list []complex64, g int) []impl.Move {
	var moves []impl.Move
	for k, z := range list {
		m := gridPointByHand(z, g)
		if k > 0 {
			ahead := gridPointByHand(list[k-1], g)
			m = move(m.X-ahead.X, m.Y-ahead.Y)
		}
		moves = append(moves, m)
	}
	return moves
}

// reachedByHand returns the sum of both numbers of the first moves.
func reachedByHand(list []impl.Move, count int) (int, int) {
	x, y := 0, 0
	for _, m := range list[:count] {
		x, y = x+m.X, y+m.Y
	}
	return x, y
}

func movesPathByHand(list []impl.Move, g int) ([]complex64, bool) {
	if len(list) == 0 || !movesByHand(list) || g < 0 || g > mostGrid {
		return nil, false
	}
	var path []complex64
	for k := range list {
		x, y := reachedByHand(list, k+1)
		most := mostPart << g
		if max(x, -x, y, -y) > most {
			return nil, false
		}
		// So few units are exact in both widths.
		path = append(path, complex(float32(math.Ldexp(float64(x), -g)), float32(math.Ldexp(float64(y), -g))))
	}
	return path, true
}

// alongByHand reports whether two moves, neither of 0 and 0, go in the same direction: side by side, and not one against the other.
func alongByHand(a impl.Move, b impl.Move) bool {
	return a.X*b.Y == a.Y*b.X && a.X*b.X+a.Y*b.Y > 0
}

func tidyMovesByHand(list []impl.Move) ([]impl.Move, bool) {
	if !movesByHand(list) {
		return nil, false
	}
	others := slices.DeleteFunc(slices.Clone(list), func(m impl.Move) bool { return m == move(0, 0) })
	var tidy []impl.Move
	for from := 0; from < len(others); {
		to := from + 1
		for to < len(others) && alongByHand(others[from], others[to]) {
			to++
		}
		x, y := reachedByHand(others[from:to], to-from)
		tidy = append(tidy, move(x, y))
		from = to
	}
	if !movesByHand(tidy) {
		return nil, false
	}
	return tidy, true
}

func lengthByHand(list []impl.Move) int {
	if !movesByHand(list) {
		return -1
	}
	length := 0
	for _, m := range list {
		for _, n := range []int{m.X, m.Y} {
			if n < 0 {
				n = -n
			}
			length += n
		}
	}
	return length
}

// partsByHand returns one of both parts of each point.
func partsByHand(list []complex64, part func(z complex64) float32) []float32 {
	var parts []float32
	for _, z := range list {
		parts = append(parts, part(z))
	}
	return parts
}

func realByHandOf(z complex64) float32 {
	return real(z)
}

func imagByHandOf(z complex64) float32 {
	return imag(z)
}

// boxByHand returns for each of both ends the first one of the parts that are equal to it.
func boxByHand(list []complex64) (complex64, complex64) {
	var ends [2][2]float32
	for i, part := range []func(z complex64) float32{realByHandOf, imagByHandOf} {
		parts := partsByHand(list, part)
		ends[0][i] = parts[slices.Index(parts, slices.Min(parts))]
		ends[1][i] = parts[slices.Index(parts, slices.Max(parts))]
	}
	return complex(ends[0][0], ends[0][1]), complex(ends[1][0], ends[1][1])
}

// farByHand returns the greatest one of the exact differences, rounded at last.
func farByHand(a []complex64, b []complex64) float32 {
	const enough = 400
	most := new(big.Float).SetPrec(enough)
	for _, part := range []func(z complex64) float32{realByHandOf, imagByHandOf} {
		first, second := partsByHand(a, part), partsByHand(b, part)
		for k, x := range first {
			difference := rounded(0, enough).Sub(rounded(float64(x), enough), rounded(float64(second[k]), enough))
			if difference.Abs(difference).Cmp(most) > 0 {
				most = difference
			}
		}
	}
	far, _ := most.Float32()
	return far
}

// randomPart returns a part of a point of a path: of any size, or a multiple of a small unit.
func randomPart(source *rand.Rand) float32 {
	x := float32(source.Float64()*2-1) * mostPart
	switch source.IntN(5) {
	case 0:
		return edgeParts[source.IntN(len(edgeParts))]
	case 1:
		return float32(math.Ldexp(float64(x), -source.IntN(30)))
	case 2:
		return float32(source.IntN(2*mostPart+1) - mostPart)
	case 3:
		return float32(math.Ldexp(float64(source.IntN(20001)-10000), -source.IntN(11)-2))
	}
	return x
}

func randomPath(source *rand.Rand, n int) []complex64 {
	var list []complex64
	for range n {
		list = append(list, complex(randomPart(source), randomPart(source)))
	}
	return list
}

// validPaths returns paths of all lengths, the same ones each time.
func validPaths() [][]complex64 {
	var list [][]complex64
	for _, x := range edgeParts {
		list = append(list, []complex64{complex(x, 0)}, []complex64{complex(0, x)}, []complex64{complex(x, -x), complex(-x, x)}, []complex64{1, complex(x, x), 2})
	}
	source := rand.New(rand.NewPCG(10, 4096))
	for n := 1; n <= mostPath; n++ {
		list = append(list, randomPath(source, n), randomPath(source, n))
	}
	for range 300 {
		list = append(list, randomPath(source, 1+source.IntN(8)))
	}
	return append(list, make([]complex64, 1), make([]complex64, mostPath), slices.Repeat([]complex64{4096 - 4096i}, mostPath))
}

// noPaths returns lists of other lengths, and lists with no part in each place, the last one among them.
func noPaths() [][]complex64 {
	list := [][]complex64{nil, {}}
	for _, n := range []int{mostPath + 1, mostPath + 2, 128, 200, 256, 257, 300} {
		list = append(list, make([]complex64, n), slices.Repeat([]complex64{1 + 2i}, n))
	}
	for _, x := range noPathParts {
		for _, n := range []int{1, 2, 3} {
			for place := range n {
				first, second := slices.Repeat([]complex64{1 - 1i}, n), slices.Repeat([]complex64{2i}, n)
				first[place], second[place] = complex(x, 1), complex(1, x)
				list = append(list, first, second)
			}
		}
		for _, place := range []int{0, 50, mostPath - 1} {
			long := make([]complex64, mostPath)
			long[place] = complex(0, x)
			list = append(list, long)
		}
	}
	return append(list, []complex64{complex(infinity, noNumber)}, []complex64{complex(noNumber, infinity)}, []complex64{complex(noNumber, noNumber)})
}

// randomMoves returns moves of which some are 0 and 0, and many neighbours go in the same direction, or in the opposite one.
func randomMoves(source *rand.Rand, n int, most int) []impl.Move {
	var list []impl.Move
	ahead := move(1, 0)
	for range n {
		m := move(source.IntN(2*most+1)-most, source.IntN(2*most+1)-most)
		times := source.IntN(7) - 3
		switch source.IntN(4) {
		case 0:
			m = move(0, 0)
		case 1:
			m = move(source.IntN(3)-1, source.IntN(3)-1)
		case 2:
			m = move(max(-most, min(most, ahead.X*times)), max(-most, min(most, ahead.Y*times)))
		}
		if m != move(0, 0) {
			ahead = m
		}
		list = append(list, m)
	}
	return list
}

// validMoves returns lists of moves of all lengths, the same ones each time.
func validMoves() [][]impl.Move {
	list := [][]impl.Move{nil, make([]impl.Move, 1), make([]impl.Move, mostPath), slices.Repeat(movesOf(mostMoveNumber, -mostMoveNumber), mostPath)}
	source := rand.New(rand.NewPCG(10, 8))
	for _, most := range []int{1, 3, 30, 1000, 20000, 1000000, mostMoveNumber} {
		for n := 1; n <= mostPath; n++ {
			list = append(list, randomMoves(source, n, most), randomMoves(source, 1+source.IntN(6), most))
		}
	}
	return list
}

// noMoves returns lists with too many moves, and lists with a number beyond in each place.
func noMoves() [][]impl.Move {
	var list [][]impl.Move
	for _, n := range []int{mostPath + 1, mostPath + 2, 128, 200, 256, 257, 300} {
		list = append(list, make([]impl.Move, n), slices.Repeat(movesOf(1, -1), n))
	}
	for _, number := range beyondMoves {
		for _, n := range []int{1, 2, 3, mostPath} {
			for _, place := range []int{0, n / 2, n - 1} {
				first, second := slices.Repeat(movesOf(1, -1), n), make([]impl.Move, n)
				first[place], second[place] = move(number, 1), move(0, number)
				list = append(list, first, second)
			}
		}
	}
	return append(list, movesOf(math.MinInt, math.MinInt), movesOf(math.MinInt, math.MaxInt), movesOf(math.MaxInt, 1, -math.MaxInt, 1))
}

func TestPathValidTold(t *testing.T) {
	for _, list := range validPaths() {
		wantHolds(t, namedPaths("PathValid", list), impl.PathValid(list), true)
	}
	for _, none := range noPaths() {
		wantHolds(t, namedPaths("PathValid", none), impl.PathValid(none), false)
	}
	for n := range 3 * mostPath {
		wantHolds(t, named("PathValid of the length", n), impl.PathValid(slices.Repeat([]complex64{-4096 + 1i}, n)), n >= 1 && n <= mostPath)
	}
}

// TestPathValidParts takes all pairs of parts of which both, one or none is in range.
func TestPathValidParts(t *testing.T) {
	for i, x := range slices.Concat(edgeParts, noPathParts) {
		for k, y := range slices.Concat(edgeParts, noPathParts) {
			list := []complex64{complex(x, y)}
			wantHolds(t, namedPaths("PathValid", list), impl.PathValid(list), i < len(edgeParts) && k < len(edgeParts))
		}
	}
}

func TestPathValidPromise(t *testing.T) {
	for _, list := range slices.Concat(validPaths(), noPaths()) {
		got := impl.PathValid(list)
		wantHolds(t, namedPaths("PathValid", list), got, pathByHand(list))
		if !got {
			continue
		}
		if len(list) > 1 {
			wantHolds(t, namedPaths("PathValid of the path without the last point", list), impl.PathValid(list[:len(list)-1]), true)
		}
		wantFar(t, list, list, 0, true)
	}
}

// edgePathPoints are exact points at the ends of the parts of paths. Some are rounded to where the exact point is not.
var edgePathPoints = []struct {
	a  impl.Cyc
	ok bool
}{
	{point(4096), true},
	{point(-4096), true},
	{point(4097), false},
	{point(-4097), false},
	{gauss(0, 4096), true},
	{gauss(0, -4096), true},
	{gauss(0, 4097), false},
	{gauss(0, -4097), false},
	{gauss(4096, -4096), true},
	{gauss(4096, -4097), false},
	{gauss(-4097, 4096), false},
	// The exact point is beyond, and the single point is not.
	{point(4104, -5, -4, -5, 3, 8, -1, -1), true},
	{point(4087, 5, 8, 1, -9, 8, -2, 4), true},
	{point(4076, 3, 8, 8, 8, -6, 9, -8), true},
	{point(0, -7, 9, 4, -7, -7, -4080, -9), true},
	{point(0, -3, -5, 3, 3, 6, -4110, 7), true},
	{point(0, 4, -3, 1, 8, -1, 4084, 6), true},
	// The single point is beyond, and the exact point is not.
	{point(4094, 4, 9, -9, -4, 3, 1, 8), false},
	{point(-4104, -2, -1, 8, 2, 8, -8, -8), false},
	{point(-4101, 1, 4, -5, 2, 6, -4, -6), false},
	// All coefficients are small, but the sum is beyond; they are great, but the sum is not.
	{point(2000, 1000, 1000, 1000, 1000), false},
	{point(10000, 0, 0, 0, -13000), false},
	{point(10000, 0, 0, 0, -20000), false},
	{point(6000, 0, 0, 0, -4700), true},
	{point(4179, 13811, -36794, 13811, 0, 1941, 18397, -15752), true},
	{point(mostCoef), false},
}

func TestPathOfTold(t *testing.T) {
	for _, c := range edgePathPoints {
		for _, n := range divisors {
			for _, place := range []int{0, n / 2, n - 1} {
				row := onlyAt(n, place, c.a)
				want := make([]complex64, n)
				want[place], _ = impl.SinglePoint(c.a)
				if !c.ok {
					want = nil
				}
				got, ok := impl.PathOf(row)
				wantPath(t, namedRows("PathOf", row), got, ok, want, c.ok)
			}
		}
	}
	row := rowOfPoints(point(1), gauss(2, -3), point(-4096), gauss(0, 4096))
	got, ok := impl.PathOf(row)
	wantPath(t, namedRows("PathOf", row), got, ok, []complex64{1, 2 - 3i, -4096, 4096i}, true)
	roots := rootsAt(1, 3, 13)
	got, ok = impl.PathOf(roots)
	wantPath(t, namedRows("PathOf", roots), got, ok, []complex64{0.9659258 + 0.25881904i, 0.70710677 + 0.70710677i, -0.9659258 - 0.25881904i}, true)
}

func TestPathOfPromise(t *testing.T) {
	count := map[bool]int{}
	for _, row := range validRows() {
		what := namedRows("PathOf", row)
		var want []complex64
		for _, a := range row {
			bits := singleByHand(a)
			want = append(want, complex(math.Float32frombits(bits[0]), math.Float32frombits(bits[1])))
		}
		wantOK := pathByHand(want)
		if !wantOK {
			want = nil
		}
		got, ok := impl.PathOf(row)
		wantPath(t, what, got, ok, want, wantOK)
		count[ok]++
		for k, z := range got {
			single, singleOK := impl.SinglePoint(row[k])
			wantSingle(t, namedPoints("SinglePoint", row[k]), single, singleOK, singleBits(z), true)
		}
	}
	if count[true] < 100 || count[false] < 100 {
		t.Errorf("%d rows have a path and %d have none", count[true], count[false])
	}
	for _, none := range noRows() {
		got, ok := impl.PathOf(none)
		wantPath(t, namedRows("PathOf", none), got, ok, nil, false)
	}
}

func wantGrid(t *testing.T, x float32, y float32, g int, want impl.Move) {
	t.Helper()
	got, ok := impl.GridPoint(complex(x, y), g)
	wantMove(t, named(namedPaths("GridPoint", []complex64{complex(x, y)}), g), got, ok, want, true)
}

// TestGridPointHalves takes parts about halves of units, on each grid.
func TestGridPointHalves(t *testing.T) {
	cases := []struct {
		units float32
		want  int
	}{
		{0, 0}, {negativeZero, 0}, {1, 1}, {-1, -1}, {7, 7}, {-7, -7},
		{0.5, 1}, {-0.5, 0}, {1.5, 2}, {-1.5, -1}, {2.5, 3}, {-2.5, -2}, {3.5, 4}, {-3.5, -3}, {10.5, 11}, {-10.5, -10},
		{0.25, 0}, {-0.25, 0}, {0.75, 1}, {-0.75, -1}, {1.25, 1}, {-1.25, -1}, {1.75, 2}, {-1.75, -2},
		// The sum of what is just below a half and a half is rounded to 1.
		{below(0.5), 1}, {below(below(0.5)), 0}, {above(0.5), 1},
		{above(-0.5), 0}, {below(-0.5), -1}, {below(below(-0.5)), -1},
		{below(1.5), 1}, {above(1.5), 2}, {above(-1.5), -1}, {below(-1.5), -2},
		{below(2.5), 2}, {above(2.5), 3}, {above(-2.5), -2}, {below(-2.5), -3},
		{below(3.5), 3}, {above(-3.5), -3}, {below(-3.5), -4},
		{below(1), 1}, {above(1), 1}, {below(-1), -1}, {above(-1), -1}, {below(2), 2}, {above(-2), -2},
		// A half less than a power of 2: the sum is of another size.
		{below(7.5), 7}, {7.5, 8}, {above(7.5), 8}, {below(-7.5), -8}, {-7.5, -7}, {above(-7.5), -7},
		{below(4095.5), 4095}, {4095.5, 4096}, {-4095.5, -4095}, {below(-4095.5), -4096}, {below(4096), 4096}, {above(-4096), -4096},
		{1e-40, 0}, {-1e-40, 0}, {-1e-10, 0}, {1e-10, 0}, {-1e-5, 0}, {4096, 4096}, {-4096, -4096},
	}
	for _, c := range cases {
		for g := 0; g <= mostGrid; g++ {
			x := float32(math.Ldexp(float64(c.units), -g))
			wantGrid(t, x, 0, g, move(c.want, 0))
			wantGrid(t, 0, x, g, move(0, c.want))
			wantGrid(t, x, x, g, move(c.want, c.want))
		}
	}
}

func TestGridPointTold(t *testing.T) {
	wantGrid(t, 0.75, -0.25, 1, move(2, 0))
	wantGrid(t, 0.75, -0.25, 0, move(1, 0))
	wantGrid(t, 0.75, -0.25, 2, move(3, -1))
	wantGrid(t, -0.75, 1.25, 1, move(-1, 3))
	wantGrid(t, 3, -5, 0, move(3, -5))
	wantGrid(t, 3, -5, 3, move(24, -40))
	wantGrid(t, 3, -5, 8, move(768, -1280))
	wantGrid(t, 0.1, -0.1, 8, move(26, -26))
	wantGrid(t, 0.1, -0.1, 3, move(1, -1))
	wantGrid(t, 0x1p-9, -0x1p-9, 8, move(1, 0))
	wantGrid(t, 0x3p-9, -0x3p-9, 8, move(2, -1))
	wantGrid(t, below(0x1p-9), below(-0x1p-9), 8, move(1, -1))
	wantGrid(t, below(below(0x1p-9)), above(-0x1p-9), 8, move(0, 0))
	wantGrid(t, 0x1p-9, -0x1p-9, 7, move(0, 0))
	for g := 0; g <= mostGrid; g++ {
		wantGrid(t, 4096, -4096, g, move(4096<<g, -4096<<g))
		wantGrid(t, below(4096), above(-4096), g, move(4096<<g, -4096<<g))
		wantGrid(t, negativeZero, 0, g, move(0, 0))
		wantGrid(t, math.SmallestNonzeroFloat32, -math.SmallestNonzeroFloat32, g, move(0, 0))
	}
	wantGrid(t, 0x1p12-0x1p-9, 0x1p-9-0x1p12, 8, move(1048576, -1048575))
	wantGrid(t, 0x1p12-0x1p-8, 0x1p-8-0x1p12, 8, move(1048575, -1048575))
}

// checkGridPoint checks GridPoint against the document, and that its numbers are near to the parts in units.
func checkGridPoint(t *testing.T, x float32, y float32, g int) {
	t.Helper()
	what := named(namedPaths("GridPoint", []complex64{complex(x, y)}), g)
	got, ok := impl.GridPoint(complex(x, y), g)
	wantMove(t, what, got, ok, gridPointByHand(complex(x, y), g), true)
	for _, part := range []struct {
		x float32
		n int
	}{{x, got.X}, {y, got.Y}} {
		units := math.Ldexp(float64(part.x), g)
		off := math.Abs(float64(part.n) - units)
		if off >= 0.7 || units == math.Trunc(units) && off != 0 {
			t.Errorf("%s returned %v, which is off by %v", what, got, off)
		}
	}
}

func TestGridPointPromise(t *testing.T) {
	source := rand.New(rand.NewPCG(82, 0))
	for g := 0; g <= mostGrid; g++ {
		for _, x := range edgeParts {
			for _, y := range edgeParts {
				checkGridPoint(t, x, y, g)
			}
		}
		// All quarters of units about 0, with the floats beside them.
		for n := -4000; n <= 4000; n++ {
			x := float32(math.Ldexp(float64(n), -g-2))
			checkGridPoint(t, x, -x, g)
			checkGridPoint(t, below(x), above(x), g)
		}
		for range 5000 {
			checkGridPoint(t, randomPart(source), randomPart(source), g)
		}
	}
}

func TestGridPointFails(t *testing.T) {
	for _, none := range noGrids {
		for _, x := range []float32{0, 0.5, 1, -4096, 4097, noNumber} {
			got, ok := impl.GridPoint(complex(x, x), none)
			wantMove(t, named(namedPaths("GridPoint", []complex64{complex(x, x)}), none), got, ok, move(0, 0), false)
		}
	}
	for _, none := range noPathParts {
		for g := -1; g <= mostGrid+1; g++ {
			for _, other := range []float32{0, 1, -4096, none, -none, infinity, noNumber} {
				for _, z := range []complex64{complex(none, other), complex(other, none)} {
					got, ok := impl.GridPoint(z, g)
					wantMove(t, named(namedPaths("GridPoint", []complex64{z}), g), got, ok, move(0, 0), false)
				}
			}
		}
	}
}

func TestPathMovesTold(t *testing.T) {
	cases := []struct {
		list []complex64
		g    int
		want []impl.Move
	}{
		{[]complex64{0}, 0, movesOf(0, 0)},
		{[]complex64{1, 1 + 1i}, 0, movesOf(1, 0, 0, 1)},
		{[]complex64{1 + 2i}, 0, movesOf(1, 2)},
		{[]complex64{1 + 2i}, 3, movesOf(8, 16)},
		{[]complex64{1 + 2i, 3 - 1i, 3 - 1i, 0}, 0, movesOf(1, 2, 2, -3, 0, 0, -3, 1)},
		{[]complex64{1 + 2i, 3 - 1i, 3 - 1i, 0}, 1, movesOf(2, 4, 4, -6, 0, 0, -6, 2)},
		// Each point has its grid point by itself: a half is not lost from one step to the next.
		{[]complex64{0.5, 1, 1.5, 2, 2.5}, 0, movesOf(1, 0, 0, 0, 1, 0, 0, 0, 1, 0)},
		{[]complex64{0.25, 0.5, 0.75, 1}, 0, movesOf(0, 0, 1, 0, 0, 0, 0, 0)},
		{[]complex64{-0.5i, -1i, -1.5i, -2i, -2.5i}, 0, movesOf(0, 0, 0, -1, 0, 0, 0, -1, 0, 0)},
		{[]complex64{-0.25 - 0.5i, 0.25 + 0.5i}, 1, movesOf(0, -1, 1, 2)},
		{[]complex64{4096 - 4096i, -4096 + 4096i}, 8, movesOf(1048576, -1048576, -2097152, 2097152)},
		{[]complex64{complex(below(0.5), negativeZero)}, 0, movesOf(1, 0)},
	}
	for _, c := range cases {
		got, ok := impl.PathMoves(c.list, c.g)
		wantMoves(t, named(namedPaths("PathMoves", c.list), c.g), got, ok, c.want, true)
	}
}

func TestPathMovesPromise(t *testing.T) {
	for i, list := range validPaths() {
		for g := i % 3; g <= mostGrid; g += 2 {
			what := named(namedPaths("PathMoves", list), g)
			got, ok := impl.PathMoves(list, g)
			wantMoves(t, what, got, ok, pathMovesByHand(list, g), true)
			if len(got) != len(list) {
				t.Fatalf("%s returned %d moves", what, len(got))
			}
			x, y := reachedByHand(got, len(got))
			last, lastOK := impl.GridPoint(list[len(list)-1], g)
			wantMove(t, "GridPoint of the last point of "+what, last, lastOK, move(x, y), true)
			if len(list) > 1 {
				shorter, shorterOK := impl.PathMoves(list[:len(list)-1], g)
				wantMoves(t, what+" without the last point", shorter, shorterOK, got[:len(got)-1], true)
			}
		}
	}
}

func TestPathMovesFails(t *testing.T) {
	for _, none := range noPaths() {
		for _, g := range []int{-1, 0, 1, mostGrid, mostGrid + 1} {
			got, ok := impl.PathMoves(none, g)
			wantMoves(t, named(namedPaths("PathMoves", none), g), got, ok, nil, false)
		}
	}
	for _, none := range noGrids {
		for _, list := range [][]complex64{{0}, {1, 2}, make([]complex64, mostPath), make([]complex64, mostPath+1), nil} {
			got, ok := impl.PathMoves(list, none)
			wantMoves(t, named(namedPaths("PathMoves", list), none), got, ok, nil, false)
		}
	}
}

func TestMovesPathTold(t *testing.T) {
	cases := []struct {
		list []impl.Move
		g    int
		want []complex64
	}{
		{movesOf(0, 0), 0, []complex64{0}},
		{movesOf(1, 0, 0, 1), 0, []complex64{1, 1 + 1i}},
		{movesOf(1, 0, 0, 1), 1, []complex64{0.5, 0.5 + 0.5i}},
		{movesOf(1, -2, 2, -3, 0, 0, -3, 5), 2, []complex64{0.25 - 0.5i, 0.75 - 1.25i, 0.75 - 1.25i, 0}},
		{movesOf(1, 0), 8, []complex64{0.00390625}},
		{movesOf(-1, 3), 8, []complex64{-0.00390625 + 0.01171875i}},
		{movesOf(4096, -4096), 0, []complex64{4096 - 4096i}},
		{movesOf(4096, 0, -8192, 0), 0, []complex64{4096, -4096}},
		{movesOf(1048576, -1048576), 8, []complex64{4096 - 4096i}},
		{movesOf(1048575, -1048575), 8, []complex64{4096 - 0x1p-8 - (4096-0x1p-8)*1i}},
		{movesOf(-1048576, 1048576, 2097152, -2097152), 8, []complex64{-4096 + 4096i, 4096 - 4096i}},
		// Back at 0 both parts are 0, not the negative 0.
		{movesOf(-3, 3, 3, -3), 0, []complex64{-3 + 3i, 0}},
	}
	for _, c := range cases {
		got, ok := impl.MovesPath(c.list, c.g)
		wantPath(t, named(namedMoves("MovesPath", c.list), c.g), got, ok, c.want, true)
	}
}

// TestMovesPathBeyond takes moves that leave the numbers of a path by one unit, and some of them come back.
func TestMovesPathBeyond(t *testing.T) {
	for g := 0; g <= mostGrid; g++ {
		most := mostPart << g
		for _, none := range [][]impl.Move{
			movesOf(most+1, 0), movesOf(-most-1, 0), movesOf(0, most+1), movesOf(0, -most-1),
			movesOf(most+1, 0, -1, 0), movesOf(-most-1, 0, 1, 0), movesOf(0, most+1, 0, -1), movesOf(0, -most-1, 0, 1),
			movesOf(most, 0, 1, 0, -1, 0), movesOf(0, -most, 0, -1, 0, 1), movesOf(most, most, 1, -1, -1, 1), movesOf(1, 1, most, 0, -most, 0),
			movesOf(most, 0, most, 0, -most, 0, -most, 0), movesOf(mostMoveNumber, 0, -mostMoveNumber, 0), movesOf(0, -mostMoveNumber, 0, mostMoveNumber),
			slices.Repeat(movesOf(mostMoveNumber, mostMoveNumber), mostPath), slices.Repeat(movesOf(0, most/mostPath+1), mostPath),
			append(slices.Repeat(movesOf(0, 0), mostPath-1), move(0, most+1)),
		} {
			got, ok := impl.MovesPath(none, g)
			wantPath(t, named(namedMoves("MovesPath", none), g), got, ok, nil, false)
		}
		for _, list := range [][]impl.Move{
			movesOf(most, 0, 0, most, -most, 0, 0, -most), movesOf(-most, -most, 2*most, 2*most), movesOf(most, 0, -1, 0, 1, 0),
			slices.Repeat(movesOf(0, -(most/mostPath)), mostPath), append(slices.Repeat(movesOf(0, 0), mostPath-1), move(-most, most)),
		} {
			want, wantOK := movesPathByHand(list, g)
			got, ok := impl.MovesPath(list, g)
			wantPath(t, named(namedMoves("MovesPath", list), g), got, ok, want, true)
			if !wantOK {
				t.Errorf("%s fails by hand", named(namedMoves("MovesPath", list), g))
			}
		}
	}
}

func TestMovesPathPromise(t *testing.T) {
	count := map[bool]int{}
	for i, list := range validMoves() {
		for g := i % 2; g <= mostGrid; g += 2 {
			what := named(namedMoves("MovesPath", list), g)
			want, wantOK := movesPathByHand(list, g)
			got, ok := impl.MovesPath(list, g)
			wantPath(t, what, got, ok, want, wantOK)
			count[ok]++
			if ok {
				again, againOK := impl.PathMoves(got, g)
				wantMoves(t, "PathMoves of "+what, again, againOK, list, true)
			}
		}
	}
	if count[true] < 1000 || count[false] < 1000 {
		t.Errorf("%d lists of moves have a path and %d have none", count[true], count[false])
	}
}

// TestMovesPathOfPath checks that the moves of a path of whole units lead along it.
func TestMovesPathOfPath(t *testing.T) {
	for _, list := range validPaths() {
		for _, g := range []int{0, 1, mostGrid} {
			moves, movesOK := impl.PathMoves(list, g)
			path, pathOK := impl.MovesPath(moves, g)
			if !movesOK || !pathOK || len(path) != len(list) {
				t.Fatalf("%s returned %s, %t", named(namedMoves("MovesPath", moves), g), pathText(path), pathOK)
			}
			for k, z := range path {
				off := complex128(z) - complex128(list[k])
				if most := math.Ldexp(0.7, -g); math.Abs(real(off)) >= most || math.Abs(imag(off)) >= most {
					t.Errorf("%s is %v and not near to %v", named("the point", k, g), z, list[k])
				}
			}
		}
	}
}

func TestMovesPathFails(t *testing.T) {
	for _, none := range append(noMoves(), nil, []impl.Move{}) {
		for _, g := range []int{-1, 0, 1, mostGrid, mostGrid + 1} {
			got, ok := impl.MovesPath(none, g)
			wantPath(t, named(namedMoves("MovesPath", none), g), got, ok, nil, false)
		}
	}
	for _, none := range noGrids {
		for _, list := range [][]impl.Move{nil, movesOf(0, 0), movesOf(1, 2, 3, 4), make([]impl.Move, mostPath)} {
			got, ok := impl.MovesPath(list, none)
			wantPath(t, named(namedMoves("MovesPath", list), none), got, ok, nil, false)
		}
	}
}

func TestMovesTidyTold(t *testing.T) {
	cases := []struct{ list, want []impl.Move }{
		{nil, nil},
		{movesOf(0, 0), nil},
		{make([]impl.Move, mostPath), nil},
		{movesOf(1, 0), movesOf(1, 0)},
		{movesOf(6, -4), movesOf(6, -4)},
		// The same direction, with the same and with different common divisors.
		{movesOf(1, 0, 2, 0), movesOf(3, 0)},
		{movesOf(1, 2, 1, 2), movesOf(2, 4)},
		{movesOf(2, 4, 1, 2), movesOf(3, 6)},
		{movesOf(6, 9, 4, 6), movesOf(10, 15)},
		{movesOf(-2, 4, -3, 6), movesOf(-5, 10)},
		{movesOf(2, -4, 3, -6), movesOf(5, -10)},
		{movesOf(-2, -4, -3, -6), movesOf(-5, -10)},
		{movesOf(1, 2, 2, 4, 3, 6, 4, 8), movesOf(10, 20)},
		// One number is 0.
		{movesOf(3, 0, 5, 0), movesOf(8, 0)},
		{movesOf(-3, 0, -5, 0), movesOf(-8, 0)},
		{movesOf(0, 3, 0, 5), movesOf(0, 8)},
		{movesOf(0, -3, 0, -5), movesOf(0, -8)},
		{movesOf(3, 0, 0, 3), movesOf(3, 0, 0, 3)},
		{movesOf(0, 3, 3, 0), movesOf(0, 3, 3, 0)},
		{movesOf(3, 0, 3, 3), movesOf(3, 0, 3, 3)},
		{movesOf(0, 3, 3, 3), movesOf(0, 3, 3, 3)},
		{movesOf(3, 0, 0, -3), movesOf(3, 0, 0, -3)},
		// Opposite directions, and those of which one number alone is opposite.
		{movesOf(1, 0, -1, 0), movesOf(1, 0, -1, 0)},
		{movesOf(0, 2, 0, -1), movesOf(0, 2, 0, -1)},
		{movesOf(3, 6, -1, -2), movesOf(3, 6, -1, -2)},
		{movesOf(1, 2, -1, 2), movesOf(1, 2, -1, 2)},
		{movesOf(1, 2, 1, -2), movesOf(1, 2, 1, -2)},
		{movesOf(2, 0, 2, 0, -1, 0, -3, 0, 1, 0), movesOf(4, 0, -4, 0, 1, 0)},
		// Other directions, some very near.
		{movesOf(1, 2, 2, 1), movesOf(1, 2, 2, 1)},
		{movesOf(2, 4, 1, 3), movesOf(2, 4, 1, 3)},
		{movesOf(4, 6, 3, 4), movesOf(4, 6, 3, 4)},
		{movesOf(9999999, 10000000, 9999998, 9999999), movesOf(9999999, 10000000, 9999998, 9999999)},
		{movesOf(10000000, 1, 9999999, 1), movesOf(10000000, 1, 9999999, 1)},
		{movesOf(3333333, 10000000, 1, 3), movesOf(3333333, 10000000, 1, 3)},
		// Neighbours alone are joined.
		{movesOf(1, 0, 0, 1, 1, 0), movesOf(1, 0, 0, 1, 1, 0)},
		{movesOf(1, 0, -1, 0, 1, 0), movesOf(1, 0, -1, 0, 1, 0)},
		{movesOf(1, 1, 2, 2, 1, 2, 2, 4, 3, 3), movesOf(3, 3, 3, 6, 3, 3)},
		// Moves of 0 and 0 ahead, between and behind.
		{movesOf(1, 0, 0, 0, 2, 0), movesOf(3, 0)},
		{movesOf(0, 0, 1, 0, 0, 0, 0, 0, 2, 0, 0, 0), movesOf(3, 0)},
		{movesOf(1, 0, 0, 0, -2, 0), movesOf(1, 0, -2, 0)},
		{movesOf(1, 2, 0, 0, 2, 4, 0, 0, 4, 2, 0, 0), movesOf(3, 6, 4, 2)},
		// The greatest numbers, alone and as sums.
		{movesOf(10000000, -10000000), movesOf(10000000, -10000000)},
		{movesOf(9999999, 0, 1, 0), movesOf(10000000, 0)},
		{movesOf(0, -9999999, 0, -1), movesOf(0, -10000000)},
		{movesOf(5000000, -2500000, 5000000, -2500000), movesOf(10000000, -5000000)},
		{movesOf(2500000, 5000000, 2500000, 5000000), movesOf(5000000, 10000000)},
		{movesOf(10000000, 0, 0, 1, 10000000, 0), movesOf(10000000, 0, 0, 1, 10000000, 0)},
		{movesOf(10000000, 0, -10000000, 0, 10000000, 0), movesOf(10000000, 0, -10000000, 0, 10000000, 0)},
		{slices.Repeat(movesOf(100000, -1), mostPath), movesOf(10000000, -100)},
	}
	for _, c := range cases {
		got, ok := impl.MovesTidy(c.list)
		wantMoves(t, namedMoves("MovesTidy", c.list), got, ok, c.want, true)
	}
}

func TestMovesTidyFails(t *testing.T) {
	for _, none := range append(noMoves(),
		// The numbers are in range, and a sum of neighbours is not.
		movesOf(10000000, 0, 1, 0), movesOf(-10000000, 0, -1, 0), movesOf(0, 10000000, 0, 1), movesOf(0, -1, 0, -10000000),
		movesOf(5000001, 1, 5000001, 1), movesOf(1, 5000001, 1, 5000001), movesOf(10000000, 10000000, 1, 1),
		movesOf(10000000, 0, 1, 0, -1, 0), movesOf(10000000, 0, 0, 0, 1, 0, -10000000, 0), movesOf(1, 1, 10000000, 0, 10000000, 0, 1, 1),
		movesOf(1, 0, 0, 1, 0, 10000000), slices.Repeat(movesOf(100001, 0), mostPath), slices.Repeat(movesOf(mostMoveNumber, mostMoveNumber), mostPath),
	) {
		got, ok := impl.MovesTidy(none)
		wantMoves(t, namedMoves("MovesTidy", none), got, ok, nil, false)
	}
}

// checkTidyMoves checks MovesTidy against the document, and that it is tidy, leads as far and is as long. It returns whether it is told.
func checkTidyMoves(t *testing.T, list []impl.Move) bool {
	t.Helper()
	what := namedMoves("MovesTidy", list)
	want, wantOK := tidyMovesByHand(list)
	got, ok := impl.MovesTidy(list)
	wantMoves(t, what, got, ok, want, wantOK)
	if !ok {
		return false
	}
	again, againOK := impl.MovesTidy(got)
	wantMoves(t, "MovesTidy of "+what, again, againOK, got, true)
	x, y := reachedByHand(list, len(list))
	gotX, gotY := reachedByHand(got, len(got))
	if x != gotX || y != gotY {
		t.Errorf("%s leads to %d, %d and not to %d, %d", what, gotX, gotY, x, y)
	}
	if before, after := impl.MovesLength(list), impl.MovesLength(got); before != after {
		t.Errorf("%s has the length %d and not %d", what, after, before)
	}
	return true
}

func TestMovesTidyPromise(t *testing.T) {
	count := map[bool]int{}
	for _, list := range validMoves() {
		count[checkTidyMoves(t, list)]++
	}
	if count[true] < 500 || count[false] < 50 {
		t.Errorf("MovesTidy is told of %d lists and not of %d", count[true], count[false])
	}
}

// TestMovesTidySmall takes all pairs of small moves, and all lists of three of the smallest ones.
func TestMovesTidySmall(t *testing.T) {
	all := func(most int) []impl.Move {
		var list []impl.Move
		for x := -most; x <= most; x++ {
			for y := -most; y <= most; y++ {
				list = append(list, move(x, y))
			}
		}
		return list
	}
	for _, a := range all(6) {
		for _, b := range all(6) {
			checkTidyMoves(t, []impl.Move{a, b})
		}
	}
	for _, a := range all(2) {
		for _, b := range all(2) {
			for _, c := range all(2) {
				checkTidyMoves(t, []impl.Move{a, b, c})
			}
		}
	}
}

func TestMovesLengthTold(t *testing.T) {
	cases := []struct {
		list []impl.Move
		want int
	}{
		{nil, 0},
		{movesOf(0, 0), 0},
		{movesOf(1, -2), 3},
		{movesOf(-1, 2), 3},
		{movesOf(1, 0, -1, 0), 2},
		{movesOf(3, 4, 0, 0, -3, -4), 14},
		{movesOf(10000000, -10000000), 20000000},
		{make([]impl.Move, mostPath), 0},
		{slices.Repeat(movesOf(-10000000, 10000000), mostPath), 2000000000},
		{slices.Repeat(movesOf(0, -1), mostPath), 100},
	}
	for _, c := range cases {
		if got := impl.MovesLength(c.list); got != c.want {
			t.Errorf("%s returned %d and not %d", namedMoves("MovesLength", c.list), got, c.want)
		}
	}
	for _, none := range noMoves() {
		if got := impl.MovesLength(none); got != -1 {
			t.Errorf("%s returned %d and not -1", namedMoves("MovesLength", none), got)
		}
	}
}

func TestMovesLengthPromise(t *testing.T) {
	for _, list := range validMoves() {
		what := namedMoves("MovesLength", list)
		got := impl.MovesLength(list)
		if want := lengthByHand(list); got != want {
			t.Errorf("%s returned %d and not %d", what, got, want)
		}
		if x, y := reachedByHand(list, len(list)); got < max(x, -x)+max(y, -y) {
			t.Errorf("%s returned %d, and the moves lead to %d, %d", what, got, x, y)
		}
		turned := slices.Clone(list)
		slices.Reverse(turned)
		if other := impl.MovesLength(turned); other != got {
			t.Errorf("%s returned %d, and %d turned round", what, got, other)
		}
	}
}

func TestPathBoxTold(t *testing.T) {
	n := negativeZero
	cases := []struct {
		list            []complex64
		least, greatest complex64
	}{
		{[]complex64{0}, 0, 0},
		{[]complex64{1 - 2i}, 1 - 2i, 1 - 2i},
		{[]complex64{1 + 2i, 3 - 4i}, 1 - 4i, 3 + 2i},
		{[]complex64{3 - 4i, 1 + 2i}, 1 - 4i, 3 + 2i},
		{[]complex64{5, 5i, -5, -5i, 1 + 1i}, -5 - 5i, 5 + 5i},
		{[]complex64{4096 + 4096i, -4096 - 4096i}, -4096 - 4096i, 4096 + 4096i},
		{[]complex64{1 + 1i, 2 + 2i}, 1 + 1i, 2 + 2i},
		{[]complex64{-2 - 2i, -1 - 1i}, -2 - 2i, -1 - 1i},
		{[]complex64{complex(1, below(2)), complex(above(1), 2)}, complex(1, below(2)), complex(above(1), 2)},
		// Of zeros that which is met first.
		{[]complex64{complex(n, n)}, complex(n, n), complex(n, n)},
		{[]complex64{0, complex(n, n)}, 0, 0},
		{[]complex64{complex(n, n), 0}, complex(n, n), complex(n, n)},
		{[]complex64{complex(n, 0), complex(0, n)}, complex(n, 0), complex(n, 0)},
		{[]complex64{complex(0, n), complex(n, 0)}, complex(0, n), complex(0, n)},
		{[]complex64{1 + 1i, complex(n, 0), complex(0, n)}, complex(n, 0), 1 + 1i},
		{[]complex64{1 + 1i, complex(0, n), complex(n, 0)}, complex(0, n), 1 + 1i},
		{[]complex64{-1 - 1i, complex(n, 0), complex(0, n)}, -1 - 1i, complex(n, 0)},
		{[]complex64{-1 - 1i, complex(0, n), complex(n, 0)}, -1 - 1i, complex(0, n)},
		{[]complex64{-1 + 1i, complex(n, n), 0}, complex(-1, n), complex(n, 1)},
		{[]complex64{1 - 1i, complex(n, n), 0}, complex(n, -1), complex(1, n)},
		{[]complex64{complex(n, n), 1 - 1i, 0}, complex(n, -1), complex(1, n)},
		{[]complex64{complex(n, n), math.SmallestNonzeroFloat32, 0}, complex(n, n), complex(math.SmallestNonzeroFloat32, n)},
	}
	for _, c := range cases {
		wantBox(t, c.list, c.least, c.greatest, true)
	}
	for _, none := range noPaths() {
		wantBox(t, none, 0, 0, false)
	}
}

func TestPathBoxPromise(t *testing.T) {
	source := rand.New(rand.NewPCG(87, 0))
	paths := validPaths()
	for range 500 {
		// Paths of zeros, with at most one other part.
		list := make([]complex64, 1+source.IntN(4))
		for k := range list {
			list[k] = complex([]float32{0, negativeZero}[source.IntN(2)], []float32{0, negativeZero}[source.IntN(2)])
		}
		other := complex(edgeParts[source.IntN(len(edgeParts))], edgeParts[source.IntN(len(edgeParts))])
		paths = append(paths, list, append(slices.Clone(list), other), append([]complex64{other}, list...))
	}
	for _, list := range paths {
		least, greatest := boxByHand(list)
		wantBox(t, list, least, greatest, true)
		gotLeast, gotGreatest, _ := impl.PathBox(list)
		for _, z := range list {
			if real(z) < real(gotLeast) || real(z) > real(gotGreatest) || imag(z) < imag(gotLeast) || imag(z) > imag(gotGreatest) {
				t.Errorf("%s returned %v and %v, and %v is not within", namedPaths("PathBox", list), gotLeast, gotGreatest, z)
			}
		}
	}
}

func TestPathFarTold(t *testing.T) {
	n := negativeZero
	cases := []struct {
		a, b []complex64
		want float32
	}{
		{[]complex64{0}, []complex64{0}, 0},
		{[]complex64{0}, []complex64{complex(n, n)}, 0},
		{[]complex64{1}, []complex64{3}, 2},
		{[]complex64{1}, []complex64{-3}, 4},
		{[]complex64{1i}, []complex64{3i}, 2},
		{[]complex64{0}, []complex64{3 + 4i}, 4},
		{[]complex64{0}, []complex64{4 + 3i}, 4},
		{[]complex64{0}, []complex64{-4 - 3i}, 4},
		{[]complex64{0}, []complex64{-3 - 4i}, 4},
		{[]complex64{1, 2, 3}, []complex64{1, 2 + 5i, 3}, 5},
		{[]complex64{1, 2, 3}, []complex64{1, 2, 3.5}, 0.5},
		{[]complex64{1, 2, 3}, []complex64{2.5, 2, 3}, 1.5},
		{[]complex64{7, 2i, 3}, []complex64{3, 2, 1i}, 4},
		{[]complex64{4096 + 4096i}, []complex64{-4096 - 4096i}, 8192},
		{[]complex64{0, 4096i}, []complex64{0, -4096i}, 8192},
		{[]complex64{1}, []complex64{complex(above(1), 0)}, 0x1p-23},
		{[]complex64{1i}, []complex64{complex(0, below(1))}, 0x1p-24},
		{[]complex64{0}, []complex64{math.SmallestNonzeroFloat32}, math.SmallestNonzeroFloat32},
		{[]complex64{0x1p-126}, []complex64{complex(below(0x1p-126), 0)}, math.SmallestNonzeroFloat32},
		{[]complex64{1e-40}, []complex64{-1e-40i}, 1e-40},
		// Differences are rounded to float32.
		{[]complex64{4096}, []complex64{0x1p-30}, 4096},
		{[]complex64{4096}, []complex64{-0x1p-12}, 4096},
		{[]complex64{4096}, []complex64{-0x3p-13}, 4096.0005},
		{[]complex64{1}, []complex64{-0x1p-24}, 1},
		{[]complex64{1}, []complex64{-0x3p-25}, 1.0000001},
	}
	for _, c := range cases {
		wantFar(t, c.a, c.b, c.want, true)
		wantFar(t, c.b, c.a, c.want, true)
	}
}

// pathPairs returns pairs of paths of one length: equal ones, such that differ in one part, and any others.
func pathPairs() [][2][]complex64 {
	var list [][2][]complex64
	source := rand.New(rand.NewPCG(88, 0))
	for _, path := range validPaths() {
		other := slices.Clone(path)
		place := source.IntN(len(path))
		if x := imag(path[place]); source.IntN(2) == 0 && x < mostPart {
			other[place] = complex(real(path[place]), above(x))
		} else {
			other[place] = complex(randomPart(source), x)
		}
		list = append(list, [2][]complex64{path, slices.Clone(path)}, [2][]complex64{path, other}, [2][]complex64{path, randomPath(source, len(path))})
	}
	for _, x := range edgeParts {
		for _, y := range edgeParts {
			list = append(list, [2][]complex64{{complex(x, 0)}, {complex(y, 0)}}, [2][]complex64{{1, complex(0, x)}, {1, complex(0, y)}})
		}
	}
	return list
}

func TestPathFarPromise(t *testing.T) {
	count := map[bool]int{}
	for _, pair := range pathPairs() {
		a, b := pair[0], pair[1]
		want := farByHand(a, b)
		wantFar(t, a, b, want, true)
		wantFar(t, b, a, want, true)
		got, _ := impl.PathFar(a, b)
		equal := slices.Equal(a, b)
		count[equal]++
		if got < 0 || (got == 0) != equal {
			t.Errorf("%s returned %v", namedPaths("PathFar", a, b), got)
		}
	}
	if count[true] < 500 || count[false] < 500 {
		t.Errorf("%d pairs of paths are equal and %d are not", count[true], count[false])
	}
}

func TestPathFarFails(t *testing.T) {
	for _, none := range noPaths() {
		for _, other := range [][]complex64{nil, {1}, make([]complex64, len(none)), make([]complex64, min(len(none), mostPath)), none} {
			wantFar(t, none, other, 0, false)
			wantFar(t, other, none, 0, false)
		}
	}
	// Paths of different lengths, even if one is part of the other.
	source := rand.New(rand.NewPCG(88, 1))
	long := randomPath(source, mostPath)
	for n := 1; n <= mostPath; n++ {
		for m := 1; m <= mostPath; m++ {
			if n != m {
				wantFar(t, long[:n], long[:m], 0, false)
			}
		}
	}
}

// pathWithRoom returns a copy of a path with strange points in its spare capacity, where nothing may be written either.
func pathWithRoom(list []complex64) []complex64 {
	room := append(slices.Clone(list), 77-7i, complex(noNumber, infinity), -79)
	return room[:len(list)]
}

func movesWithRoom(list []impl.Move) []impl.Move {
	room := append(slices.Clone(list), move(-77, 7), move(math.MinInt, math.MaxInt), move(1, 0))
	return room[:len(list)]
}

// scribblePath overwrites a result up to its capacity.
func scribblePath(list []complex64) {
	list = list[:cap(list)]
	for k := range list {
		list[k] = complex(float32(k)-500, 12345)
	}
}

func scribbleMoves(list []impl.Move) {
	list = list[:cap(list)]
	for k := range list {
		list[k] = move(k-500, 12345)
	}
}

// TestPenArguments checks that lists stay as they are given, room behind them too.
func TestPenArguments(t *testing.T) {
	for _, before := range slices.Concat(validPaths(), noPaths()) {
		list, other := pathWithRoom(before), pathWithRoom(before)
		room, want := list[:len(list)+3], slices.Clone(list[:len(list)+3])
		impl.PathValid(list)
		impl.PathMoves(list, 0)
		impl.PathMoves(list, mostGrid)
		impl.PathBox(list)
		impl.PathFar(list, other)
		impl.PathFar(other, list)
		wantPath(t, "the path behind all functions", room, true, want, true)
		wantPath(t, "the other path behind PathFar", other[:len(other)+3], true, want, true)
	}
	for _, before := range slices.Concat(validMoves(), noMoves()) {
		list := movesWithRoom(before)
		room, want := list[:len(list)+3], slices.Clone(list[:len(list)+3])
		impl.MovesPath(list, 0)
		impl.MovesPath(list, mostGrid)
		impl.MovesTidy(list)
		impl.MovesLength(list)
		wantMoves(t, "the moves behind all functions", room, true, want, true)
	}
	for _, before := range slices.Concat(validRows(), noRows()) {
		row := rowWithRoom(before)
		room, want := row[:len(row)+3], slices.Clone(row[:len(row)+3])
		impl.PathOf(row)
		wantRow(t, "the row behind PathOf", room, true, want, true)
	}
}

// TestPenResults checks that results share no memory with arguments or with other results: all are told again when one is written over.
func TestPenResults(t *testing.T) {
	for _, row := range [][]impl.Cyc{wholes(1), wholes(1, 2, 3), rowOfPoints(gauss(1, 2), gauss(3, 4))} {
		first, ok := impl.PathOf(row)
		want := slices.Clone(first)
		second, secondOK := impl.PathOf(row)
		scribblePath(first)
		third, thirdOK := impl.PathOf(row)
		wantPath(t, namedRows("PathOf again", row), second, secondOK, want, ok)
		wantPath(t, namedRows("PathOf once more", row), third, thirdOK, want, ok)
	}
	for _, before := range [][]complex64{{1}, {1, 2 + 3i}, {1, 1, 1}, slices.Repeat([]complex64{3 - 4i, 5}, mostPath/2)} {
		list := pathWithRoom(before)
		first, ok := impl.PathMoves(list, 1)
		want := slices.Clone(first)
		second, secondOK := impl.PathMoves(list, 1)
		scribbleMoves(first)
		third, thirdOK := impl.PathMoves(list, 1)
		wantMoves(t, namedPaths("PathMoves again", list), second, secondOK, want, ok)
		wantMoves(t, namedPaths("PathMoves once more", list), third, thirdOK, want, ok)
	}
}

// TestMovesResults checks the same for what is made of moves, among them tidy ones, of which the result is equal to the argument.
func TestMovesResults(t *testing.T) {
	for _, before := range [][]impl.Move{movesOf(1, 2), movesOf(1, 0, 0, 1, 1, 0), movesOf(1, 0, 2, 0), movesOf(0, 0, 1, 1, 0, 0), slices.Repeat(movesOf(1, 0, 0, 1), mostPath/2)} {
		list := movesWithRoom(before)
		tidy, ok := impl.MovesTidy(list)
		want := slices.Clone(tidy)
		second, secondOK := impl.MovesTidy(list)
		scribbleMoves(tidy)
		third, thirdOK := impl.MovesTidy(list)
		wantMoves(t, namedMoves("MovesTidy again", list), second, secondOK, want, ok)
		wantMoves(t, namedMoves("MovesTidy once more", list), third, thirdOK, want, ok)

		path, ok := impl.MovesPath(list, 2)
		wantPoints := slices.Clone(path)
		again, againOK := impl.MovesPath(list, 2)
		scribblePath(path)
		more, moreOK := impl.MovesPath(list, 2)
		wantPath(t, namedMoves("MovesPath again", list), again, againOK, wantPoints, ok)
		wantPath(t, namedMoves("MovesPath once more", list), more, moreOK, wantPoints, ok)
		wantMoves(t, namedMoves("the moves", before), list, true, before, true)
	}
}
