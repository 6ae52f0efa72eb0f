package tests

import (
	"math"
	"math/big"
	"math/rand/v2"
	"slices"
	"strconv"
	"testing"

	"loop.example/turningwheels/impl"
)

const mostSurd = 10000000

// beyondSurds are no numbers of surds, though some are again if they are added, multiplied or negated with wraparound or in 32 bits.
var beyondSurds = []int{
	math.MinInt, math.MinInt + 1, math.MinInt32, -1 << 32, -20000000, -10000001,
	10000001, 20000000, math.MaxInt32, 1 << 32, math.MaxInt - 1, math.MaxInt,
}

// nearSurds are very near to 0, the four numbers being large, or two or three of them alone; wanted is the sign.
// A float64 sum of their terms is wrong by up to a billionth, so that the sign of most of them is not its sign.
var nearSurds = []struct {
	numbers [4]int
	want    int
}{
	{[4]int{99, -70, 0, 0}, 1},
	{[4]int{-9369319, 6625109, 0, 0}, 1},
	{[4]int{3880899, -2744210, 0, 0}, 1},
	{[4]int{-275807, 195025, 0, 0}, 1},
	{[4]int{-9973081, 0, 5757961, 0}, 1},
	{[4]int{2672279, 0, -1542841, 0}, -1},
	{[4]int{4656965, 0, 0, -1901198}, 1},
	{[4]int{-2093258, 0, 0, 854569}, 1},
	{[4]int{0, 4656965, -3802396, 0}, 1},
	{[4]int{0, 1046629, -854569, 0}, -1},
	{[4]int{0, -9973081, 0, 5757961}, 1},
	{[4]int{0, 716035, 0, -413403}, -1},
	{[4]int{0, 0, -9369319, 6625109}, 1},
	{[4]int{0, 0, -275807, 195025}, 1},
	{[4]int{2425305, 2250206, -3237536, 0}, 1},
	{[4]int{4531187, -4224041, 832833, 0}, -1},
	{[4]int{4500412, 2425305, 0, -3237536}, 1},
	{[4]int{4802637, -4319886, 0, 533419}, -1},
	{[4]int{8645770, 0, 454619, -3851085}, 1},
	{[4]int{9712608, 0, -2425305, -2250206}, -1},
	{[4]int{0, 9179189, -6101291, -985343}, -1},
	{[4]int{0, -533419, -1600879, 1439962}, 1},
	{[4]int{-3178823, 5752939, 6887151, -6893663}, -1},
	{[4]int{8741315, -7464025, 1854164, -570362}, -1},
	{[4]int{-6186735, 1277290, 713440, 1283802}, -1},
	{[4]int{-2554580, 6186735, -2567604, -713440}, 1},
	{[4]int{2140320, 3851406, -6186735, 1277290}, -1},
	{[4]int{1516077, 3417610, 3268020, -4902933}, -1},
	{[4]int{10000000, -6917646, -6318729, 4379438}, -1},
	{[4]int{10000000, 2430139, 4032457, -8336902}, 1},
	{[4]int{-4487507, 10000000, -3957464, -1143136}, 1},
	{[4]int{5225101, 10000000, -6382769, -3393342}, -1},
	{[4]int{3597581, 2392660, 10000000, -9921177}, 1},
	{[4]int{-902831, -32645, 10000000, -6683641}, -1},
	{[4]int{-9447087, -1179202, -7725043, 10000000}, 1},
	{[4]int{-4915900, -5403243, -6892210, 10000000}, -1},
}

// nearDifferences are as near to 0, but no surds: only differences of two surds.
var nearDifferences = []struct {
	numbers [4]int
	want    int
}{
	{[4]int{2764563, 4285202, -15641490, 7457513}, -1},
	{[4]int{11334967, 7049765, -726464, -8183977}, -1},
	{[4]int{11920138, -13216964, -5032987, 6323301}, -1},
	{[4]int{-414260, 10038141, -8754339, 563850}, -1},
	{[4]int{20000000, -13835292, -12637458, 8758876}, -1},
	{[4]int{7195162, 4785320, 20000000, -19842354}, 1},
	{[4]int{20000000, -14142135, 0, 0}, 1},
	{[4]int{20000000, -14142136, 0, 0}, -1},
}

func surdOf(numbers [4]int) impl.Surd {
	return impl.Surd{A: numbers[0], B: numbers[1], C: numbers[2], D: numbers[3]}
}

func surd(numbers ...int) impl.Surd {
	var four [4]int
	copy(four[:], numbers)
	return surdOf(four)
}

func numbersOf(s impl.Surd) [4]int {
	return [4]int{s.A, s.B, s.C, s.D}
}

// surdText writes a surd for the messages of the tests.
func surdText(s impl.Surd) string {
	text := ""
	for k, n := range numbersOf(s) {
		if k > 0 {
			text += ","
		}
		text += strconv.Itoa(n)
	}
	return "(" + text + ")"
}

func namedSurds(name string, surds ...impl.Surd) string {
	text := name
	for _, s := range surds {
		text += " " + surdText(s)
	}
	return text
}

// wantSurd checks a result with a surd: the zero value and false where the document tells that there is none.
func wantSurd(t *testing.T, what string, got impl.Surd, ok bool, want impl.Surd, wantOK bool) {
	t.Helper()
	if got != want || ok != wantOK {
		t.Errorf("%s returned %s, %t and not %s, %t", what, surdText(got), ok, surdText(want), wantOK)
	}
}

// wantSurdTold checks a result against what is calculated by hand: it is told exactly if all its numbers are in their range.
func wantSurdTold(t *testing.T, what string, got impl.Surd, ok bool, byHand [4]int) {
	t.Helper()
	for _, n := range byHand {
		if n < -mostSurd || n > mostSurd {
			wantSurd(t, what, got, ok, impl.Surd{}, false)
			return
		}
	}
	wantSurd(t, what, got, ok, surdOf(byHand), true)
}

func wantSign(t *testing.T, what string, got int, ok bool, want int, wantOK bool) {
	t.Helper()
	if got != want || ok != wantOK {
		t.Errorf("%s returned %d, %t and not %d, %t", what, got, ok, want, wantOK)
	}
}

// fourSum returns the numbers of a plus n times those of b.
func fourSum(a [4]int, b [4]int, n int) [4]int {
	for k := range a {
		a[k] += n * b[k]
	}
	return a
}

// fourProduct multiplies term by term: bit 0 of an index stands for the root of 2, and bit 1 for that of 3; shared roots become numbers.
func fourProduct(a [4]int, b [4]int) [4]int {
	shared := [4]int{1, 2, 3, 6}
	var product [4]int
	for i, m := range a {
		for k, n := range b {
			product[i^k] += m * n * shared[i&k]
		}
	}
	return product
}

func oppositeSurd(s impl.Surd) impl.Surd {
	return surdOf(fourSum([4]int{}, numbersOf(s), -1))
}

// scaleByHand has a one and 60 zeros. With numbers up to 80 million in size, what is not 0 is greater than 1e-27, since its
// product with its three conjugates is a whole number: with 60 digits its sign is beyond doubt.
var scaleByHand = new(big.Int).Exp(big.NewInt(10), big.NewInt(60), nil)

var scaledRoots = [4]*big.Int{scaledRoot(1), scaledRoot(2), scaledRoot(3), scaledRoot(6)}

func scaledRoot(n int64) *big.Int {
	square := new(big.Int).Mul(scaleByHand, scaleByHand)
	return square.Sqrt(square.Mul(square, big.NewInt(n)))
}

// scaledSum returns the sum of the numbers times 1 and the roots of 2, 3 and 6, with 60 digits behind the point, wrong in the last nine.
func scaledSum(numbers [4]int) *big.Int {
	sum := new(big.Int)
	for k, n := range numbers {
		sum.Add(sum, new(big.Int).Mul(scaledRoots[k], big.NewInt(int64(n))))
	}
	return sum
}

func signByHand(numbers [4]int) int {
	if numbers == [4]int{} {
		return 0
	}
	return scaledSum(numbers).Sign()
}

func wholeByHand(numbers [4]int) int {
	if numbers[1] == 0 && numbers[2] == 0 && numbers[3] == 0 {
		return int(math.Floor(float64(numbers[0]) / 4))
	}
	// Div rounds down for what is greater than 0 and what is less.
	whole := new(big.Int)
	whole.Div(scaledSum(numbers), new(big.Int).Mul(scaleByHand, big.NewInt(4)))
	return int(whole.Int64())
}

func surdFloat(s impl.Surd) float64 {
	return (float64(s.A) + float64(s.B)*math.Sqrt2 + float64(s.C)*math.Sqrt(3) + float64(s.D)*math.Sqrt(6)) / 4
}

func randomSurd(source *rand.Rand, most int) impl.Surd {
	var numbers [4]int
	for k := range numbers {
		numbers[k] = source.IntN(2*most+1) - most
	}
	return surdOf(numbers)
}

// endSurds returns all surds with numbers of 0, -SurdMax and SurdMax.
func endSurds() []impl.Surd {
	var list []impl.Surd
	for k := range 81 {
		list = append(list, surd((k%3-1)*mostSurd, (k/3%3-1)*mostSurd, (k/9%3-1)*mostSurd, (k/27-1)*mostSurd))
	}
	return list
}

// validSurds returns 0, surds at the ends of the range, very near to 0, and of all sizes, the same ones each time.
func validSurds() []impl.Surd {
	list := endSurds()
	for k := range 4 {
		for _, n := range []int{-9999999, -4, -1, 1, 2, 9999999} {
			var numbers [4]int
			numbers[k] = n
			list = append(list, surdOf(numbers))
		}
	}
	for _, near := range nearSurds {
		list = append(list, surdOf(near.numbers), oppositeSurd(surdOf(near.numbers)))
	}
	source := rand.New(rand.NewPCG(6, 3))
	for _, most := range []int{1, 5, 300, 1500, 100000, mostSurd / 2, mostSurd} {
		for range 6 {
			list = append(list, randomSurd(source, most))
		}
	}
	return list
}

// invalidSurds returns surds with each number beyond its range, the others 0 or at their ends.
func invalidSurds() []impl.Surd {
	var list []impl.Surd
	for k := range 4 {
		for _, n := range beyondSurds {
			var alone [4]int
			alone[k] = n
			full := [4]int{10000000, -10000000, 1, -10000000}
			full[k] = n
			list = append(list, surdOf(alone), surdOf(full))
		}
	}
	for _, n := range beyondSurds {
		list = append(list, surd(n, n, n, n))
	}
	return list
}

// realPartsByHand has four times the cosine of each turn, as numbers of 1 and of the roots of 2, 3 and 6.
var realPartsByHand = [steps][4]int{
	{4, 0, 0, 0}, {0, 1, 0, 1}, {0, 0, 2, 0}, {0, 2, 0, 0}, {2, 0, 0, 0}, {0, -1, 0, 1},
	{0, 0, 0, 0}, {0, 1, 0, -1}, {-2, 0, 0, 0}, {0, -2, 0, 0}, {0, 0, -2, 0}, {0, -1, 0, -1},
	{-4, 0, 0, 0}, {0, -1, 0, -1}, {0, 0, -2, 0}, {0, -2, 0, 0}, {-2, 0, 0, 0}, {0, 1, 0, -1},
	{0, 0, 0, 0}, {0, -1, 0, 1}, {2, 0, 0, 0}, {0, 2, 0, 0}, {0, 0, 2, 0}, {0, 1, 0, 1},
}

// reByHand returns the real part of a point; that of a point turned back by a quarter is the imaginary one.
func reByHand(a [8]int, back int) [4]int {
	var sum [4]int
	for k, c := range a {
		sum = fourSum(sum, realPartsByHand[(k+steps-back)%steps], c)
	}
	return sum
}

// realPoint returns the point that is a real number, A + B root 2 + C root 3 + D root 6, over 1.
func realPoint(a int, b int, c int, d int) impl.Cyc {
	return point(a, b+d, 2*c, b+d, 0, d-b, -c, -2*d)
}

// nearPoints returns points very near to the lines on which the real part or the imaginary part is 0.
func nearPoints() []impl.Cyc {
	var list []impl.Cyc
	for _, r := range []impl.Cyc{
		realPoint(146, -59, 135, -121), realPoint(113, -245, -124, 183), realPoint(-377, -132, 242, 59),
		realPoint(665857, -470832, 0, 0), realPoint(262087, 0, -151316, 0), realPoint(-275807, 195025, 0, 0),
	} {
		for _, whole := range []int{0, 1, -300000} {
			turned := impl.Cyc{C: turnedByHand(r.C, steps/4)}
			turned.C[0] += whole
			list = append(list, turned, impl.Cyc{C: turnedByHand(turned.C, steps/4)})
		}
	}
	return list
}

func TestSurdValidTold(t *testing.T) {
	for _, s := range validSurds() {
		if !impl.SurdValid(s) {
			t.Errorf("%s does not hold", namedSurds("SurdValid", s))
		}
	}
	for _, s := range invalidSurds() {
		if impl.SurdValid(s) {
			t.Errorf("%s holds", namedSurds("SurdValid", s))
		}
	}
}

func TestSurdValidPromise(t *testing.T) {
	for _, s := range validSurds() {
		sign, ok := impl.SurdSign(s)
		wantSign(t, namedSurds("SurdSign", s), sign, ok, signByHand(numbersOf(s)), true)
		opposite, ok := impl.SurdSign(oppositeSurd(s))
		wantSign(t, namedSurds("SurdSign of the opposite of", s), opposite, ok, -sign, true)
		sum, ok := impl.SurdAdd(s, oppositeSurd(s))
		wantSurd(t, namedSurds("SurdAdd of the opposite to", s), sum, ok, impl.Surd{}, true)
	}
}

func TestSurdReTold(t *testing.T) {
	for turn, want := range realPartsByHand {
		root := impl.Cyc{C: rootsByHand[turn]}
		got, ok := impl.SurdRe(root)
		wantSurd(t, namedPoints("SurdRe", root), got, ok, surdOf(want), true)
	}
	cases := []struct {
		a    impl.Cyc
		want impl.Surd
	}{
		{point(), surd()},
		{point(3, 0, 0, 0, 0, 0, 5), surd(12)},
		{point(1, 2, 3, 4, 5, 6, 7, 8), surd(14, 12, 6, 0)},
		{point(1000000), surd(4000000)},
		{point(-1000000, 0, 0, 0, -1000000), surd(-6000000)},
		{point(1000000, 1000000, 1000000, 1000000, 1000000, -1000000, 1000000, 1000000), surd(6000000, 5000000, 2000000, -1000000)},
		{point(1000000, 1000000, 1000000, 1000000, 1000000, 1000000, 1000000, -1000000), surd(6000000, 1000000, 2000000, 3000000)},
		{point(-1000000, -1000000, -1000000, -1000000, -1000000, 1000000, -1000000, -1000000), surd(-6000000, -5000000, -2000000, 1000000)},
		{point(-1000000, -1000000, -1000000, 1000000, 1000000, -1000000, -1000000, 1000000), surd(-2000000, 3000000, -2000000, -3000000)},
	}
	for _, c := range cases {
		got, ok := impl.SurdRe(c.a)
		wantSurd(t, namedPoints("SurdRe", c.a), got, ok, c.want, true)
	}
}

func TestSurdRePromise(t *testing.T) {
	for _, a := range slices.Concat(validPoints(), realPoints(), nearPoints()) {
		what := namedPoints("SurdRe", a)
		got, ok := impl.SurdRe(a)
		wantSurd(t, what, got, ok, surdOf(reByHand(a.C, 0)), true)
		if math.Abs(surdFloat(got)-real(value(a))) > 1e-6 {
			t.Errorf("%s returned %s, which is %v and not %v", what, surdText(got), surdFloat(got), real(value(a)))
		}
		if mirror, told := impl.CycMirror(a); told {
			mirrored, mirroredOK := impl.SurdRe(mirror)
			wantSurd(t, what+" mirrored", mirrored, mirroredOK, got, true)
		}
		if turned, told := impl.CycTurned(a, 6); told {
			im, imOK := impl.SurdIm(turned)
			wantSurd(t, "SurdIm of the point turned by a quarter, and "+what, im, imOK, got, true)
		}
	}
}

func TestSurdImTold(t *testing.T) {
	for turn, root := range rootsByHand {
		a := impl.Cyc{C: root}
		got, ok := impl.SurdIm(a)
		wantSurd(t, namedPoints("SurdIm", a), got, ok, surdOf(realPartsByHand[(turn+18)%steps]), true)
	}
	cases := []struct {
		a    impl.Cyc
		want impl.Surd
	}{
		{point(), surd()},
		{point(0, 1), surd(0, -1, 0, 1)},
		{point(3, 0, 0, 0, 0, 0, 5), surd(20)},
		{point(1, 2, 3, 4, 5, 6, 7, 8), surd(34, 20, 10, 16)},
		{point(0, 0, 0, 0, 0, 0, 1000000), surd(4000000)},
		{point(0, 0, -1000000, 0, 0, 0, -1000000), surd(-6000000)},
		{point(1000000, -1000000, 1000000, 1000000, 1000000, 1000000, 1000000, 1000000), surd(6000000, 5000000, 2000000, 1000000)},
		{point(1000000, 1000000, 1000000, 1000000, 1000000, 1000000, 1000000, 1000000), surd(6000000, 3000000, 2000000, 3000000)},
		{point(-1000000, 1000000, -1000000, -1000000, -1000000, -1000000, -1000000, -1000000), surd(-6000000, -5000000, -2000000, -1000000)},
		{point(-1000000, -1000000, -1000000, 1000000, 1000000, -1000000, 1000000, -1000000), surd(2000000, 1000000, 2000000, -3000000)},
	}
	for _, c := range cases {
		got, ok := impl.SurdIm(c.a)
		wantSurd(t, namedPoints("SurdIm", c.a), got, ok, c.want, true)
	}
}

func TestSurdImPromise(t *testing.T) {
	for _, a := range slices.Concat(validPoints(), realPoints(), nearPoints()) {
		what := namedPoints("SurdIm", a)
		got, ok := impl.SurdIm(a)
		wantSurd(t, what, got, ok, surdOf(reByHand(a.C, 6)), true)
		if math.Abs(surdFloat(got)-imag(value(a))) > 1e-6 {
			t.Errorf("%s returned %s, which is %v and not %v", what, surdText(got), surdFloat(got), imag(value(a)))
		}
		if (got == impl.Surd{}) != impl.CycReal(a) {
			t.Errorf("%s returned %s, but CycReal returned %t", what, surdText(got), impl.CycReal(a))
		}
		if mirror, told := impl.CycMirror(a); told {
			mirrored, mirroredOK := impl.SurdIm(mirror)
			wantSurd(t, what+" mirrored", mirrored, mirroredOK, oppositeSurd(got), true)
		}
	}
}

// TestSurdPartsFail checks what is made of one point: it fails if the point is invalid.
func TestSurdPartsFail(t *testing.T) {
	for _, none := range invalidPoints() {
		got, ok := impl.SurdRe(none)
		wantSurd(t, namedPoints("SurdRe", none), got, ok, impl.Surd{}, false)
		got, ok = impl.SurdIm(none)
		wantSurd(t, namedPoints("SurdIm", none), got, ok, impl.Surd{}, false)
		got, ok = impl.SurdNorm(none)
		wantSurd(t, namedPoints("SurdNorm", none), got, ok, impl.Surd{}, false)
	}
}

func TestSurdAddTold(t *testing.T) {
	cases := []struct {
		a, b, want impl.Surd
		ok         bool
	}{
		{surd(1, 2, 3, 4), surd(10, -20, 30, -40), surd(11, -18, 33, -36), true},
		{surd(), surd(), surd(), true},
		{surd(9999999), surd(1), surd(10000000), true},
		{surd(10000000), surd(1), surd(), false},
		{surd(-9999999), surd(-1), surd(-10000000), true},
		{surd(-10000000), surd(-1), surd(), false},
		{surd(5, 10000000), surd(5, 1), surd(), false},
		{surd(5, 0, -10000000), surd(5, 0, -1), surd(), false},
		{surd(5, 0, 0, 10000000), surd(5, 0, 0, 1), surd(), false},
		{surd(0, 0, 0, -9999999), surd(0, 0, 0, -1), surd(0, 0, 0, -10000000), true},
		{surd(10000000, 10000000, 10000000, 10000000), surd(10000000, 10000000, 10000000, 10000000), surd(), false},
		{surd(10000000, -10000000, 10000000, -10000000), surd(-10000000, 10000000, -10000000, 10000000), surd(), true},
	}
	for _, c := range cases {
		got, ok := impl.SurdAdd(c.a, c.b)
		wantSurd(t, namedSurds("SurdAdd", c.a, c.b), got, ok, c.want, c.ok)
	}
}

func TestSurdAddPromise(t *testing.T) {
	for _, a := range validSurds() {
		for _, b := range validSurds() {
			what := namedSurds("SurdAdd", a, b)
			got, ok := impl.SurdAdd(a, b)
			wantSurdTold(t, what, got, ok, fourSum(numbersOf(a), numbersOf(b), 1))
			exchanged, exchangedOK := impl.SurdAdd(b, a)
			wantSurd(t, what+" exchanged", exchanged, exchangedOK, got, ok)
			if ok {
				compared, comparedOK := impl.SurdCompare(got, a)
				want, wantOK := impl.SurdCompare(b, impl.Surd{})
				wantSign(t, what+" compared with the first one", compared, comparedOK, want, wantOK)
			}
		}
	}
}

func TestSurdTimesTold(t *testing.T) {
	cases := []struct {
		a, b, want impl.Surd
		ok         bool
	}{
		{surd(), surd(10000000, 10000000), surd(), true},
		{surd(4), surd(4), surd(16), true},
		{surd(0, 4), surd(0, 4), surd(32), true},
		{surd(0, 0, 4), surd(0, 0, 4), surd(48), true},
		{surd(0, 0, 0, 4), surd(0, 0, 0, 4), surd(96), true},
		{surd(0, 1), surd(0, 0, 1), surd(0, 0, 0, 1), true},
		{surd(0, 1), surd(0, 0, 0, 1), surd(0, 0, 2), true},
		{surd(0, 0, 1), surd(0, 0, 0, 1), surd(0, 3), true},
		{surd(1, 2, 3, 4), surd(5, 6, 7, 8), surd(284, 172, 102, 60), true},
		{surd(-1, 2, -3, 4), surd(5, 6, 7, 8), surd(148, 16, 58, 8), true},
		{surd(1), surd(10000000, -10000000, 10000000, -10000000), surd(10000000, -10000000, 10000000, -10000000), true},
		{surd(0, 0, 0, 1), surd(0, 0, 0, 1666666), surd(9999996), true},
		{surd(0, 0, 0, 1), surd(0, 0, 0, 1666667), surd(), false},
		{surd(2), surd(0, 5000000), surd(0, 10000000), true},
		{surd(2), surd(0, 5000001), surd(), false},
		{surd(-2), surd(0, 0, 5000000), surd(0, 0, -10000000), true},
		{surd(-2), surd(0, 0, 5000001), surd(), false},
		{surd(0, -2), surd(0, 0, 5000000), surd(0, 0, 0, -10000000), true},
		{surd(0, -2), surd(0, 0, 5000001), surd(), false},
		{surd(10000000, 10000000, 10000000, 10000000), surd(10000000, 10000000, 10000000, 10000000), surd(), false},
		{surd(10000000, 10000000, 10000000, 10000000), surd(-10000000, -10000000, -10000000, -10000000), surd(), false},
		{surd(10000000), surd(0, 0, 0, -10000000), surd(), false},
		{surd(65536), surd(65536), surd(), false},
		// Units, of which the products have terms of 14 digits, and leave 1 and -1.
		{surd(9369319, 6625109), surd(9369319, -6625109), surd(-1), true},
		{surd(3650401, 0, 2107560), surd(3650401, 0, -2107560), surd(1), true},
		{surd(4656965, 0, 0, 1901198), surd(4656965, 0, 0, -1901198), surd(1), true},
		{surd(0, 4656965, 3802396), surd(0, 4656965, -3802396), surd(2), true},
	}
	for _, c := range cases {
		got, ok := impl.SurdTimes(c.a, c.b)
		wantSurd(t, namedSurds("SurdTimes", c.a, c.b), got, ok, c.want, c.ok)
	}
}

func TestSurdTimesPromise(t *testing.T) {
	for _, a := range validSurds() {
		for _, b := range validSurds() {
			what := namedSurds("SurdTimes", a, b)
			got, ok := impl.SurdTimes(a, b)
			wantSurdTold(t, what, got, ok, fourProduct(numbersOf(a), numbersOf(b)))
			exchanged, exchangedOK := impl.SurdTimes(b, a)
			wantSurd(t, what+" exchanged", exchanged, exchangedOK, got, ok)
			if ok {
				sign, signOK := impl.SurdSign(got)
				first, _ := impl.SurdSign(a)
				second, _ := impl.SurdSign(b)
				wantSign(t, "SurdSign of "+what, sign, signOK, first*second, true)
			}
		}
	}
}

// TestSurdPairsFail checks what is made of two surds: it fails if one of both is not valid, whatever the result would be.
func TestSurdPairsFail(t *testing.T) {
	for _, none := range invalidSurds() {
		for _, other := range []impl.Surd{{}, surd(1), surd(-1), surd(0, 1, 0, -1), oppositeSurd(none), none} {
			for _, pair := range [][2]impl.Surd{{none, other}, {other, none}} {
				got, ok := impl.SurdAdd(pair[0], pair[1])
				wantSurd(t, namedSurds("SurdAdd", pair[:]...), got, ok, impl.Surd{}, false)
				got, ok = impl.SurdTimes(pair[0], pair[1])
				wantSurd(t, namedSurds("SurdTimes", pair[:]...), got, ok, impl.Surd{}, false)
				compared, ok := impl.SurdCompare(pair[0], pair[1])
				wantSign(t, namedSurds("SurdCompare", pair[:]...), compared, ok, 0, false)
			}
		}
	}
}

// TestSurdNumbersFail checks the numbers that are told of one surd.
func TestSurdNumbersFail(t *testing.T) {
	for _, none := range invalidSurds() {
		sign, ok := impl.SurdSign(none)
		wantSign(t, namedSurds("SurdSign", none), sign, ok, 0, false)
		whole, ok := impl.SurdWhole(none)
		wantSign(t, namedSurds("SurdWhole", none), whole, ok, 0, false)
	}
}

func TestSurdSignTold(t *testing.T) {
	for _, near := range nearSurds {
		s := surdOf(near.numbers)
		got, ok := impl.SurdSign(s)
		wantSign(t, namedSurds("SurdSign", s), got, ok, near.want, true)
		got, ok = impl.SurdSign(oppositeSurd(s))
		wantSign(t, namedSurds("SurdSign of the opposite of", s), got, ok, -near.want, true)
		if signByHand(near.numbers) != near.want || math.Abs(surdFloat(s)) > 1 {
			t.Errorf("%s is no surd near 0 of the sign %d", surdText(s), near.want)
		}
	}
	cases := []struct {
		s    impl.Surd
		want int
	}{
		{surd(), 0},
		{surd(1), 1}, {surd(-1), -1}, {surd(0, 1), 1}, {surd(0, -1), -1},
		{surd(0, 0, 1), 1}, {surd(0, 0, -1), -1}, {surd(0, 0, 0, 1), 1}, {surd(0, 0, 0, -1), -1},
		{surd(10000000, 10000000, 10000000, 10000000), 1},
		{surd(-10000000, -10000000, -10000000, -10000000), -1},
		{surd(10000000, -10000000, -10000000, 10000000), 1},
		{surd(1, 1, 1, -1), 1},
		{surd(-1, 1, -1, 1), 1},
		{surd(-1, -1, -1, 1), -1},
		{surd(0, 10000000, -8164965), 1},
		{surd(0, 10000000, -8164966), -1},
	}
	for _, c := range cases {
		got, ok := impl.SurdSign(c.s)
		wantSign(t, namedSurds("SurdSign", c.s), got, ok, c.want, true)
	}
}

// TestSurdSignSmall takes all surds with numbers from -7 to 7, so that each order of the four terms and each zero occurs.
func TestSurdSignSmall(t *testing.T) {
	for k := range 15 * 15 * 15 * 15 {
		s := surd(k%15-7, k/15%15-7, k/225%15-7, k/3375-7)
		got, ok := impl.SurdSign(s)
		wantSign(t, namedSurds("SurdSign", s), got, ok, signByHand(numbersOf(s)), true)
	}
}

func TestSurdSignPromise(t *testing.T) {
	source := rand.New(rand.NewPCG(1, 1000))
	list := validSurds()
	for _, most := range []int{2, 10, 100, 1000, 100000, mostSurd} {
		for range 500 {
			list = append(list, randomSurd(source, most))
		}
	}
	for _, s := range list {
		what := namedSurds("SurdSign", s)
		got, ok := impl.SurdSign(s)
		wantSign(t, what, got, ok, signByHand(numbersOf(s)), true)
		if (got == 0) != (s == impl.Surd{}) {
			t.Errorf("%s returned %d", what, got)
		}
		near := surdFloat(s)
		small := max(s.A, s.B, s.C, s.D) <= 100000 && min(s.A, s.B, s.C, s.D) >= -100000
		if small && math.Abs(near) > 1.0/1000 && (near > 0) != (got > 0) {
			t.Errorf("%s returned %d, but it is %v", what, got, near)
		}
	}
}

// TestSurdCompareNear compares surds whose difference is near to 0, and often no valid surd.
func TestSurdCompareNear(t *testing.T) {
	source := rand.New(rand.NewPCG(5, 5))
	for _, near := range slices.Concat(nearSurds, nearDifferences) {
		if signByHand(near.numbers) != near.want {
			t.Errorf("%v is not of the sign %d", near.numbers, near.want)
		}
		for range 20 {
			a, b := pairApart(source, near.numbers)
			got, ok := impl.SurdCompare(a, b)
			wantSign(t, namedSurds("SurdCompare", a, b), got, ok, near.want, true)
			got, ok = impl.SurdCompare(b, a)
			wantSign(t, namedSurds("SurdCompare", b, a), got, ok, -near.want, true)
		}
	}
}

// pairApart returns two surds with a difference.
func pairApart(source *rand.Rand, difference [4]int) (impl.Surd, impl.Surd) {
	var first, second [4]int
	for k, n := range difference {
		least, most := max(-mostSurd, n-mostSurd), min(mostSurd, n+mostSurd)
		first[k] = least + source.IntN(most-least+1)
		second[k] = first[k] - n
	}
	return surdOf(first), surdOf(second)
}

func TestSurdCompareTold(t *testing.T) {
	const m = mostSurd
	cases := []struct {
		a, b impl.Surd
		want int
	}{
		{surd(), surd(), 0},
		{surd(1, 2, 3, 4), surd(1, 2, 3, 4), 0},
		{surd(0, 0, 0, 5), surd(0, 0, 7), 1},
		{surd(m, m, m, m), surd(-m, -m, -m, -m), 1},
		{surd(-m, -m, -m, -m), surd(m, m, m, m), -1},
		{surd(m, m, m, m), surd(m, m, m, m), 0},
		{surd(m, m, m, m), surd(m, m, m, m-1), 1},
		{surd(m, -m, m, -m), surd(-m, m, -m, m), -1},
		{surd(m, -m, -m, m), surd(-m, m, m, -m), 1},
		{surd(0, m), surd(0, 0, 8164965), 1},
		{surd(0, m), surd(0, 0, 8164966), -1},
		{surd(0, 7071068), surd(m), 1},
		{surd(0, 7071067), surd(m), -1},
	}
	for _, c := range cases {
		got, ok := impl.SurdCompare(c.a, c.b)
		wantSign(t, namedSurds("SurdCompare", c.a, c.b), got, ok, c.want, true)
	}
}

func TestSurdComparePromise(t *testing.T) {
	for _, a := range validSurds() {
		for _, b := range validSurds() {
			what := namedSurds("SurdCompare", a, b)
			got, ok := impl.SurdCompare(a, b)
			wantSign(t, what, got, ok, signByHand(fourSum(numbersOf(a), numbersOf(b), -1)), true)
			exchanged, exchangedOK := impl.SurdCompare(b, a)
			wantSign(t, what+" exchanged", exchanged, exchangedOK, -got, true)
			if (got == 0) != (a == b) {
				t.Errorf("%s returned %d", what, got)
			}
		}
	}
}

func TestSurdNormTold(t *testing.T) {
	cases := []struct {
		a    impl.Cyc
		want impl.Surd
		ok   bool
	}{
		{point(), surd(), true},
		{point(1), surd(4), true},
		{point(1, 0, 0, 0, 0, 0, 1), surd(8), true},
		{point(3, 0, 0, 0, 0, 0, -4), surd(100), true},
		{point(1, 1), surd(8, 2, 0, 2), true},
		{point(1, 0, 0, 1), surd(8, 4), true},
		{point(1, 0, 1), surd(8, 0, 4), true},
		{point(1, 0, 0, 0, 1), surd(12), true},
		{point(1, 0, 0, 0, 0, 1), surd(8, -2, 0, 2), true},
		{point(1, 0, 0, 0, 0, 0, 0, 1), surd(8, 2, 0, -2), true},
		{point(1000), surd(4000000), true},
		{point(0, 0, 0, 0, 0, 0, 0, -1000), surd(4000000), true},
		{point(600, 0, 0, 0, 0, 0, 800), surd(4000000), true},
		// The real number would be a valid surd, but the product is no valid point.
		{point(1001), surd(), false},
		{point(1000, 0, 0, 0, 0, 0, 1), surd(), false},
		{point(500, 0, 500, 0, 0, 0, 0), surd(2000000, 0, 1000000), true},
		{point(0, 708, 0, 708, 0, -708), surd(), false},
		{point(0, 707, 0, 707, 0, -707), surd(3998792), true},
		{point(1000000), surd(), false},
		{point(1000000, -1000000, 1000000, -1000000, 1000000, -1000000, 1000000, -1000000), surd(), false},
		// The mirrored one is no valid point.
		{point(1000000, 0, 0, 0, 1), surd(), false},
		{point(0, 1000000, 0, 0, 0, 1), surd(), false},
		{realPoint(146, -59, 135, -121), surd(683196, -460952, 271904, -205048), true},
		{realPoint(113, -245, -124, 183), surd(1519524, -766088, -829456, 408472), true},
	}
	for _, c := range cases {
		got, ok := impl.SurdNorm(c.a)
		wantSurd(t, namedPoints("SurdNorm", c.a), got, ok, c.want, c.ok)
	}
}

// normPoints returns points with small squares, near to 0 and not, and points with squares up to CoefMax and beyond.
func normPoints() []impl.Cyc {
	list := slices.Concat(validPoints(), nearPoints())
	near := []impl.Cyc{
		realPoint(146, -59, 135, -121), realPoint(-28, -87, 107, -14), realPoint(7, 77, -16, -36),
		realPoint(113, -245, -124, 183), realPoint(577, -408, 0, 0), realPoint(97, 0, -56, 0),
	}
	for _, a := range near {
		for _, b := range near {
			list = append(list, a, impl.Cyc{C: sumByHand(a.C, turnedByHand(b.C, 6), 1)}, impl.Cyc{C: sumByHand(a.C, turnedByHand(b.C, 1), 1)})
		}
	}
	source := rand.New(rand.NewPCG(26, 26))
	for _, most := range []int{1, 3, 20, 100, 300, 500, 700} {
		for range 20 {
			list = append(list, randomPoint(source, most, 0))
		}
	}
	return list
}

func inCoefRange(coefs [8]int) bool {
	return slices.Max(coefs[:]) <= mostCoef && slices.Min(coefs[:]) >= -mostCoef
}

func TestSurdNormPromise(t *testing.T) {
	for _, a := range normPoints() {
		what := namedPoints("SurdNorm", a)
		mirror := mirrorByHand(a.C)
		product := productByHand(a.C, mirror)
		got, ok := impl.SurdNorm(a)
		if !inCoefRange(mirror) || !inCoefRange(product) {
			wantSurd(t, what, got, ok, impl.Surd{}, false)
			continue
		}
		wantSurd(t, what, got, ok, surdOf(reByHand(product, 0)), true)
		want := 1
		if a == (impl.Cyc{}) {
			want = 0
		}
		sign, signOK := impl.SurdSign(got)
		wantSign(t, "SurdSign of "+what, sign, signOK, want, true)
		mirrored, mirroredOK := impl.SurdNorm(impl.Cyc{C: mirror})
		wantSurd(t, what+" mirrored", mirrored, mirroredOK, got, true)
		for turn := range steps {
			if turned, told := impl.CycTurned(a, turn); told {
				norm, normOK := impl.SurdNorm(turned)
				wantSurd(t, what+named(" turned by", turn), norm, normOK, got, true)
			}
		}
	}
}

func TestSurdWholeTold(t *testing.T) {
	cases := []struct {
		s    impl.Surd
		want int
	}{
		{surd(), 0}, {surd(1), 0}, {surd(3), 0}, {surd(4), 1}, {surd(5), 1},
		{surd(-1), -1}, {surd(-3), -1}, {surd(-4), -1}, {surd(-5), -2}, {surd(-8), -2},
		{surd(0, 4), 1}, {surd(0, -4), -2}, {surd(0, 0, 4), 1}, {surd(0, 0, -4), -2}, {surd(0, 0, 0, 4), 2}, {surd(0, 0, 0, -4), -3},
		{surd(1, 1, 1, 1), 1}, {surd(-1, -1, -1, -1), -2},
		{surd(9999999), 2499999}, {surd(10000000), 2500000}, {surd(-9999999), -2500000}, {surd(-10000000), -2500000},
		{surd(0, 10000000), 3535533}, {surd(0, -10000000), -3535534},
		{surd(0, 0, 10000000), 4330127}, {surd(0, 0, -10000000), -4330128},
		{surd(0, 0, 0, 10000000), 6123724}, {surd(0, 0, 0, -10000000), -6123725},
		{surd(10000000, 10000000, 10000000, 10000000), 16489385}, {surd(-10000000, -10000000, -10000000, -10000000), -16489386},
		{surd(99, -70), 0}, {surd(-99, 70), -1}, {surd(103, -70), 1}, {surd(95, -70), -1},
		{surd(-95, 70), 0}, {surd(-103, 70), -2},
	}
	for _, c := range cases {
		got, ok := impl.SurdWhole(c.s)
		wantSign(t, namedSurds("SurdWhole", c.s), got, ok, c.want, true)
	}
}

// TestSurdWholeNear takes what is just above and just below whole numbers, below 0 too.
func TestSurdWholeNear(t *testing.T) {
	tiny := 0
	for _, near := range nearSurds {
		for _, side := range []int{1, -1} {
			for _, n := range []int{-4000000, -1250000, -77, -2, -1, 0, 1, 2, 77, 1250000, 4000000} {
				s := surdOf(fourSum([4]int{4 * n}, near.numbers, side))
				if s.A < -mostSurd || s.A > mostSurd {
					continue
				}
				want := n
				if near.want*side < 0 {
					want = n - 1
				}
				got, ok := impl.SurdWhole(s)
				wantSign(t, namedSurds("SurdWhole", s), got, ok, want, true)
				tiny++
			}
		}
	}
	if tiny < 500 {
		t.Errorf("only %d surds near whole numbers are valid", tiny)
	}
}

func TestSurdWholePromise(t *testing.T) {
	source := rand.New(rand.NewPCG(27, 27))
	list := validSurds()
	for _, most := range []int{3, 30, 3000, 300000, mostSurd} {
		for range 100 {
			list = append(list, randomSurd(source, most))
		}
	}
	for _, s := range list {
		what := namedSurds("SurdWhole", s)
		got, ok := impl.SurdWhole(s)
		wantSign(t, what, got, ok, wholeByHand(numbersOf(s)), true)
		whole, more := surd(4*got), surd(4*(got+1))
		if compared, told := impl.SurdCompare(s, whole); told && compared < 0 {
			t.Errorf("%s returned %d, but it is less", what, got)
		}
		if compared, told := impl.SurdCompare(s, more); told && compared >= 0 {
			t.Errorf("%s returned %d, but it is not less than 1 more", what, got)
		}
	}
}
