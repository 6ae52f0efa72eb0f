package tests

import (
	"math"
	"math/big"
	"math/rand/v2"
	"runtime"
	"slices"
	"sync"
	"testing"
	"time"

	"loop.example/turningwheels/impl"
)

const (
	mostSteps   = 400
	smallest    = float32(math.SmallestNonzeroFloat32)
	leastNormal = float32(0x1p-126)
	mostFloat   = float32(math.MaxFloat32)
)

// edgeStarts are parts of starts: zeros, the ends of the subnormals and of all floats, and few of the smallest floats, whose halves are rounded.
var edgeStarts = []float32{
	0, smallest, 2 * smallest, 3 * smallest, 4 * smallest, 5 * smallest, 6 * smallest, 7 * smallest, 8 * smallest, 9 * smallest, 11 * smallest,
	13 * smallest, 21 * smallest, 24 * smallest, 27 * smallest, 1e-40, below(below(leastNormal)), below(leastNormal), leastNormal, above(leastNormal),
	below(2 * leastNormal), 2 * leastNormal, above(2 * leastNormal), below(4 * leastNormal), below(8 * leastNormal), below(16 * leastNormal),
	16 * leastNormal, below(32 * leastNormal), 1e-30, 0.1, below(1), 1, above(1), 1.5, 3, 1000.125, below(4096), 4096, above(4096), 5000, 1e10,
	0x1p104, 0x1p127, below(0x1p127), above(0x1p127), below(mostFloat), mostFloat,
}

// notFinite are floats that no start has.
var notFinite = []float32{
	infinity, -infinity, noNumber, -noNumber,
	math.Float32frombits(0x7f800001), math.Float32frombits(0x7fffffff), math.Float32frombits(0xff800001), math.Float32frombits(0xffffffff),
}

// noQuarters and noHalvings are out of range, though some are again in 8, 16 or 32 bits, or modulo 4 or 5.
var (
	noQuarters = []int{math.MinInt, math.MinInt + 1, math.MinInt32, -1 << 32, -65536, -256, -255, -4, -3, -2, -1, 4, 5, 6, 7, 8, 255, 256, 257, 65536, math.MaxInt32, 1 << 32, 1<<32 + 1, math.MaxInt}
	noHalvings = []int{math.MinInt, math.MinInt + 1, math.MinInt32, -1 << 32, -65536, -256, -255, -5, -4, -2, -1, 5, 6, 7, 8, 9, 10, 255, 256, 257, 65536, math.MaxInt32, 1 << 32, 1<<32 + 1, math.MaxInt}
	noSteps    = []int{math.MinInt, math.MinInt + 1, math.MinInt32, -1 << 32, -65536, -400, -256, -100, -2, -1, 401, 402, 511, 512, 800, 65536, 65537, math.MaxInt32, 1 << 32, 1<<32 + 1, 1<<32 + 400, math.MaxInt}
)

func swing(start complex64, turn int, shift int) impl.Swing {
	return impl.Swing{Start: start, Turn: turn, Shift: shift}
}

func namedSwing(name string, s impl.Swing, numbers ...int) string {
	return named(namedPaths(name, []complex64{s.Start}), append([]int{s.Turn, s.Shift}, numbers...)...)
}

// halfByHand halves a float, given by its bits, of which so many are those of the fraction. Below the least normal float and one more
// binade, sizes count the smallest float: there, halves of odd ones are rounded to even ones.
func halfByHand[B uint32 | uint64](bits B, fraction int) B {
	sign := bits &^ (^B(0) >> 1)
	size := bits &^ sign
	binade := B(1) << fraction
	if size >= 2*binade {
		return bits - binade
	}
	half := size / 2
	if size%2 == 1 && half%2 == 1 {
		half++
	}
	return sign | half
}

// quarterByHand turns a number by a quarter: only zeros have no opposite sign then.
func quarterByHand[B uint32 | uint64](z [2]B) [2]B {
	sign := ^(^B(0) >> 1)
	if z[1]&^sign == 0 {
		return [2]B{0, z[0]}
	}
	return [2]B{z[1] ^ sign, z[0]}
}

// swingByHand returns the bits of the numbers behind 0 to mostSteps steps.
func swingByHand[B uint32 | uint64](start [2]B, fraction int, turn int, shift int) [][2]B {
	list := [][2]B{start}
	for z := start; len(list) <= mostSteps; list = append(list, z) {
		for range turn {
			z = quarterByHand(z)
		}
		for range shift {
			z = [2]B{halfByHand(z[0], fraction), halfByHand(z[1], fraction)}
		}
	}
	return list
}

func singlesByHand(s impl.Swing) [][2]uint32 {
	return swingByHand(singleBits(s.Start), 23, s.Turn, s.Shift)
}

func widesByHand(s impl.Swing) [][2]uint64 {
	return swingByHand(wideBits(complex128(s.Start)), 52, s.Turn, s.Shift)
}

func singleOfBits(bits [2]uint32) complex64 {
	return complex(math.Float32frombits(bits[0]), math.Float32frombits(bits[1]))
}

func wideOfBits(bits [2]uint64) complex128 {
	return complex(math.Float64frombits(bits[0]), math.Float64frombits(bits[1]))
}

func pathOfBits(list [][2]uint32) []complex64 {
	var path []complex64
	for _, bits := range list {
		path = append(path, singleOfBits(bits))
	}
	return path
}

func restByHand(singles [][2]uint32) int {
	const withoutSign = math.MaxInt32
	return slices.IndexFunc(singles, func(z [2]uint32) bool { return (z[0]|z[1])&withoutSign == 0 })
}

// smallByHand looks for exponents of 0 with a fraction of another number.
func smallByHand(singles [][2]uint32) int {
	return slices.IndexFunc(singles, func(z [2]uint32) bool {
		for _, bits := range z {
			if bits<<1>>24 == 0 && bits<<9 != 0 {
				return true
			}
		}
		return false
	})
}

func lostByHand(singles [][2]uint32, wides [][2]uint64) int {
	for k, bits := range singles {
		if complex128(singleOfBits(bits)) != wideOfBits(wides[k]) {
			return k
		}
	}
	return -1
}

// sumsByHand returns the bits of the sums of the first 0 to mostSteps numbers, each one rounded to 24 bits.
// A sum among the smallest floats is exact, and so it has no more.
func sumsByHand(singles [][2]uint32) [][2]uint32 {
	var sum [2]uint32
	list := [][2]uint32{sum}
	for _, z := range singles[:mostSteps] {
		for i := range sum {
			sum[i] = singleSumByHand(sum[i], z[i])
		}
		list = append(list, sum)
	}
	return list
}

func singleSumByHand(a uint32, b uint32) uint32 {
	const bits = 24
	first, second := math.Float32frombits(a), math.Float32frombits(b)
	sum, _ := rounded(0, bits).Add(rounded(float64(first), bits), rounded(float64(second), bits)).Float32()
	return math.Float32bits(sum)
}

// eachSwing calls a function with swings of all quarters and halvings, the same ones each time.
func eachSwing(starts []complex64, use func(s impl.Swing)) {
	for _, start := range starts {
		for turn := range 4 {
			for shift := range 5 {
				use(swing(start, turn, shift))
			}
		}
	}
}

// randomFloat returns any finite float.
func randomFloat(source *rand.Rand) float32 {
	for {
		if x := math.Float32frombits(source.Uint32()); !math.IsNaN(float64(x)) && !math.IsInf(float64(x), 0) {
			return x
		}
	}
}

// finiteStarts returns starts: with an edge as one part or both, and any others.
func finiteStarts() []complex64 {
	var list []complex64
	source := rand.New(rand.NewPCG(11, 400))
	for k, x := range edgeStarts {
		other := edgeStarts[(7*k+3)%len(edgeStarts)]
		list = append(list, complex(x, 0), complex(negativeZero, x), complex(-x, negativeZero), complex(x, -x), complex(other, -x))
		list = append(list, complex(randomFloat(source), x), complex(randomPart(source), randomPart(source)))
	}
	for range 60 {
		small := math.Float32frombits(source.Uint32N(3 << 23))
		list = append(list, complex(randomFloat(source), randomFloat(source)), complex(small, -small), complex(small, randomFloat(source)))
	}
	return list
}

// noSwings returns swings with one thing out of range, and some with more.
func noSwings() []impl.Swing {
	var list []impl.Swing
	for _, x := range notFinite {
		for _, y := range slices.Concat([]float32{0, 1, smallest, mostFloat}, notFinite) {
			list = append(list, swing(complex(x, y), 0, 0), swing(complex(y, x), 1, 1), swing(complex(x, y), 3, 4))
		}
		list = append(list, swing(complex(x, 0), -1, 5), swing(complex(0, x), 4, -1))
	}
	for _, turn := range noQuarters {
		list = append(list, swing(1, turn, 0), swing(1, turn, 1), swing(0, turn, 4), swing(2i, turn, turn))
	}
	for _, shift := range noHalvings {
		list = append(list, swing(1, 0, shift), swing(1, 1, shift), swing(0, 3, shift), swing(2i, 2, shift))
	}
	return list
}

func wantAt(t *testing.T, s impl.Swing, k int, want [2]uint32, wantOK bool) {
	t.Helper()
	got, ok := impl.SwingAt(s, k)
	wantSingle(t, namedSwing("SwingAt", s, k), got, ok, want, wantOK)
}

func wantWideAt(t *testing.T, s impl.Swing, k int, want [2]uint64, wantOK bool) {
	t.Helper()
	got, ok := impl.SwingWide(s, k)
	wantWide(t, namedSwing("SwingWide", s, k), got, ok, want, wantOK)
}

func wantSum(t *testing.T, s impl.Swing, n int, want [2]uint32, wantOK bool) {
	t.Helper()
	got, ok := impl.SwingSum(s, n)
	wantSingle(t, namedSwing("SwingSum", s, n), got, ok, want, wantOK)
}

func wantSwingPath(t *testing.T, s impl.Swing, n int, want []complex64, wantOK bool) {
	t.Helper()
	got, ok := impl.SwingPath(s, n)
	wantPath(t, namedSwing("SwingPath", s, n), got, ok, want, wantOK)
}

// wantMarks checks the least numbers of steps to rest, to a subnormal part, and to what only the wide swing has.
func wantMarks(t *testing.T, s impl.Swing, rest int, small int, lost int) {
	t.Helper()
	for _, c := range []struct {
		name string
		ask  func(impl.Swing) (int, bool)
		want int
	}{
		{"SwingRest", impl.SwingRest, rest},
		{"SwingSmall", impl.SwingSmall, small},
		{"SwingLost", impl.SwingLost, lost},
	} {
		if got, ok := c.ask(s); got != c.want || !ok {
			t.Errorf("%s returned %d, %t and not %d, true", namedSwing(c.name, s), got, ok, c.want)
		}
	}
}

func TestSwingValidTold(t *testing.T) {
	for _, start := range finiteStarts() {
		for turn := -2; turn < 7; turn++ {
			for shift := -2; shift < 8; shift++ {
				s := swing(start, turn, shift)
				wantHolds(t, namedSwing("SwingValid", s), impl.SwingValid(s), turn >= 0 && turn <= 3 && shift >= 0 && shift <= 4)
			}
		}
	}
	for _, none := range noSwings() {
		wantHolds(t, namedSwing("SwingValid", none), impl.SwingValid(none), false)
	}
	wantHolds(t, "SwingValid of the zero value", impl.SwingValid(impl.Swing{}), true)
}

func TestSwingValidPromise(t *testing.T) {
	eachSwing(finiteStarts(), func(s impl.Swing) {
		wantHolds(t, namedSwing("SwingValid", s), impl.SwingValid(s), true)
		wantAt(t, s, 0, singleBits(s.Start), true)
		still := swing(s.Start, s.Turn, 0)
		for k := 4; k <= mostSteps; k += 44 {
			if z, ok := impl.SwingAt(still, k); z != s.Start || !ok {
				t.Errorf("%s returned %v, %t and not the start", namedSwing("SwingAt", still, k), z, ok)
			}
		}
	})
}

func TestSwingAtTold(t *testing.T) {
	zero := negativeZero
	cases := []struct {
		s    impl.Swing
		k    int
		want complex64
	}{
		{swing(1, 1, 1), 0, 1},
		{swing(1, 1, 1), 1, 0.5i},
		{swing(1, 1, 1), 2, -0.25},
		{swing(1, 1, 1), 3, -0.125i},
		{swing(1, 1, 1), 4, 0.0625},
		{swing(3-2i, 0, 0), 1, 3 - 2i},
		{swing(3-2i, 1, 0), 1, 2 + 3i},
		{swing(3-2i, 2, 0), 1, -3 + 2i},
		{swing(3-2i, 3, 0), 1, -2 - 3i},
		{swing(3-2i, 1, 0), 2, -3 + 2i},
		{swing(3-2i, 1, 0), 399, -2 - 3i},
		{swing(3-2i, 1, 0), 400, 3 - 2i},
		{swing(3-2i, 3, 0), 399, 2 + 3i},
		{swing(16-48i, 0, 1), 1, 8 - 24i},
		{swing(16-48i, 0, 2), 1, 4 - 12i},
		{swing(16-48i, 0, 3), 1, 2 - 6i},
		{swing(16-48i, 0, 4), 1, 1 - 3i},
		{swing(16-48i, 3, 4), 1, -3 - 1i},
		{swing(16-48i, 3, 4), 2, -0.0625 + 0.1875i},
		// The difference of 0 and a zero is 0, and never the negative 0; a part that is only moved keeps its sign.
		{swing(complex(1, 0), 1, 0), 1, complex(0, 1)},
		{swing(complex(1, zero), 1, 0), 1, complex(0, 1)},
		{swing(complex(1, zero), 0, 0), 400, complex(1, zero)},
		{swing(complex(1, zero), 2, 0), 1, complex(-1, 0)},
		{swing(complex(zero, 1), 1, 0), 1, complex(-1, zero)},
		{swing(complex(zero, 1), 2, 0), 1, complex(0, -1)},
		{swing(complex(zero, zero), 0, 0), 7, complex(zero, zero)},
		{swing(complex(zero, zero), 1, 0), 1, complex(0, zero)},
		{swing(complex(zero, zero), 1, 0), 2, complex(0, 0)},
		{swing(complex(zero, zero), 0, 4), 7, complex(zero, zero)},
		// The half of the smallest float is 0, and that of the opposite one the negative 0.
		{swing(complex(smallest, -smallest), 0, 1), 1, complex(0, zero)},
		{swing(complex(smallest, -smallest), 0, 1), 400, complex(0, zero)},
		{swing(complex(smallest, -smallest), 1, 1), 1, complex(0, 0)},
		{swing(complex(smallest, smallest), 1, 1), 1, complex(zero, 0)},
		{swing(complex(smallest, smallest), 1, 1), 2, complex(0, zero)},
		{swing(complex(smallest, smallest), 1, 1), 3, complex(0, 0)},
		// Each half is rounded by itself, to an even number of the smallest floats.
		{swing(complex(3*smallest, -5*smallest), 0, 1), 1, complex(2*smallest, -2*smallest)},
		{swing(complex(3*smallest, -5*smallest), 0, 1), 2, complex(smallest, -smallest)},
		{swing(complex(3*smallest, -5*smallest), 0, 1), 3, complex(0, zero)},
		{swing(complex(7*smallest, 9*smallest), 0, 1), 1, complex(4*smallest, 4*smallest)},
		// Five eighths are not rounded to 1 at once, but to 2, 1 and 0; nine sixteenths are not rounded to 1, but to 4, 2, 1 and 0.
		{swing(complex(5*smallest, -5*smallest), 0, 3), 1, complex(0, zero)},
		{swing(complex(7*smallest, 9*smallest), 0, 3), 1, complex(smallest, smallest)},
		{swing(complex(9*smallest, 27*smallest), 0, 4), 1, complex(0, 2*smallest)},
		// Thirteen eighths are rounded to 6, 3 and 2; eleven eighths to 6, 3 and 2, too, and not to 1.
		{swing(complex(13*smallest, 11*smallest), 0, 3), 1, complex(2*smallest, 2*smallest)},
		{swing(complex(below(leastNormal), above(leastNormal)), 0, 1), 1, complex(0x1p-127, 0x1p-127)},
		{swing(complex(below(2*leastNormal), below(below(leastNormal))), 0, 1), 1, complex(leastNormal, below(leastNormal/2))},
		{swing(complex(mostFloat, -mostFloat), 0, 1), 1, complex(below(0x1p127), -below(0x1p127))},
		{swing(complex(mostFloat, 0x1p127), 2, 0), 1, complex(-mostFloat, -0x1p127)},
		{swing(complex(0x1p127, 0), 0, 1), 276, complex(smallest, 0)},
		{swing(complex(0x1p127, 0), 0, 1), 277, 0},
	}
	for _, c := range cases {
		wantAt(t, c.s, c.k, singleBits(c.want), true)
	}
}

// asked returns the numbers of steps at which a swing is asked: at marks, one ahead and one behind, and at both ends.
func asked(marks ...int) []int {
	list := []int{0, 1, 2, 3, 4, 5, 50, 100, mostSteps - 1, mostSteps}
	for _, k := range marks {
		list = append(list, k-1, k, k+1)
	}
	return slices.DeleteFunc(list, func(k int) bool { return k < 0 || k > mostSteps })
}

// TestSwingNumbers asks both widths at all steps.
func TestSwingNumbers(t *testing.T) {
	starts := []complex64{1, 2i, 3 - 5i, complex(mostFloat, -smallest), complex(-mostFloat, below(mostFloat)), complex(below(2*leastNormal), 27*smallest), complex(negativeZero, negativeZero)}
	eachSwing(starts, func(s impl.Swing) {
		singles, wides := singlesByHand(s), widesByHand(s)
		for k := range mostSteps + 1 {
			wantAt(t, s, k, singles[k], true)
			wantWideAt(t, s, k, wides[k], true)
		}
	})
}

func TestSwingAtPromise(t *testing.T) {
	eachSwing(finiteStarts(), func(s impl.Swing) {
		singles := singlesByHand(s)
		for _, k := range asked(restByHand(singles), smallByHand(singles)) {
			z, ok := impl.SwingAt(s, k)
			wantSingle(t, namedSwing("SwingAt", s, k), z, ok, singles[k], true)
			if k < mostSteps {
				wantAt(t, swing(z, s.Turn, s.Shift), 1, singles[k+1], true)
			}
		}
	})
}

func TestSwingWideTold(t *testing.T) {
	zero := math.Copysign(0, -1)
	cases := []struct {
		s    impl.Swing
		k    int
		want complex128
	}{
		{swing(1, 1, 1), 0, 1},
		{swing(1, 1, 1), 1, 0.5i},
		{swing(1, 1, 1), 150, -0x1p-150},
		{swing(1, 1, 1), 400, 0x1p-400},
		{swing(0.1, 0, 0), 0, 0.10000000149011612},
		{swing(3-2i, 3, 0), 399, 2 + 3i},
		{swing(complex(smallest, -smallest), 0, 1), 1, 0x1p-150 - 0x1p-150i},
		{swing(complex(smallest, -smallest), 1, 4), 1, 0x1p-153 + 0x1p-153i},
		{swing(complex(3*smallest, -smallest), 0, 4), 231, 0x3p-1073 - 0x1p-1073i},
		{swing(complex(3*smallest, -smallest), 0, 4), 232, complex(0, zero)},
		{swing(1, 0, 4), 268, 0x1p-1072},
		{swing(1, 0, 4), 269, 0},
		{swing(-1, 0, 4), 269, complex(zero, 0)},
		{swing(-1, 2, 4), 400, 0},
		{swing(complex(mostFloat, -mostFloat), 1, 4), 1, 0xffffffp+100 + 0xffffffp+100i},
		{swing(complex(1, negativeZero), 1, 0), 1, complex(0, 1)},
		{swing(complex(negativeZero, 1), 1, 0), 1, complex(-1, zero)},
		{swing(complex(negativeZero, negativeZero), 0, 1), 400, complex(zero, zero)},
	}
	for _, c := range cases {
		wantWideAt(t, c.s, c.k, wideBits(c.want), true)
	}
}

func TestSwingWidePromise(t *testing.T) {
	eachSwing(finiteStarts(), func(s impl.Swing) {
		singles, wides := singlesByHand(s), widesByHand(s)
		lost, ok := impl.SwingLost(s)
		if !ok {
			t.Errorf("%s failed", namedSwing("SwingLost", s))
		}
		for _, k := range asked(lost, restByHand(singles), smallByHand(singles)) {
			wide, wideOK := impl.SwingWide(s, k)
			wantWide(t, namedSwing("SwingWide", s, k), wide, wideOK, wides[k], true)
			single, _ := impl.SwingAt(s, k)
			if (lost < 0 || k < lost) && complex128(single) != wide {
				t.Errorf("%s returned %v, and %s %v, though nothing is lost ahead of %d steps", namedSwing("SwingAt", s, k), single, namedSwing("SwingWide", s, k), wide, lost)
			}
		}
	})
}

// TestSwingStepsFail asks for numbers of steps that no swing makes, and swings that are none.
func TestSwingStepsFail(t *testing.T) {
	for _, s := range []impl.Swing{{}, swing(1, 1, 1), swing(complex(mostFloat, smallest), 3, 4)} {
		for _, k := range noSteps {
			wantAt(t, s, k, [2]uint32{}, false)
			wantWideAt(t, s, k, [2]uint64{}, false)
			wantSum(t, s, k, [2]uint32{}, false)
		}
	}
	for _, none := range noSwings() {
		for _, k := range []int{-1, 0, 1, mostSteps, mostSteps + 1, math.MaxInt} {
			wantAt(t, none, k, [2]uint32{}, false)
			wantWideAt(t, none, k, [2]uint64{}, false)
			wantSum(t, none, k, [2]uint32{}, false)
		}
	}
}

func TestSwingMarksTold(t *testing.T) {
	cases := []struct {
		start complex64
		shift int
		rest  int
		small int
		lost  int
	}{
		{1, 1, 150, 127, 150},
		{1, 2, 75, 64, 75},
		{1, 3, 50, 43, 50},
		{1, 4, 38, 32, 38},
		{1i, 4, 38, 32, 38},
		{-1, 1, 150, 127, 150},
		{-1i, 3, 50, 43, 50},
		// What doesn't fade is never lost.
		{1, 0, -1, -1, -1},
		{complex(mostFloat, -mostFloat), 0, -1, -1, -1},
		{complex(leastNormal, leastNormal), 0, -1, -1, -1},
		{complex(below(leastNormal), 1), 0, -1, 0, -1},
		{complex(1, -below(leastNormal)), 0, -1, 0, -1},
		{complex(-smallest, 0), 0, -1, 0, -1},
		{complex(0, smallest), 0, -1, 0, -1},
		// Zeros are at rest.
		{0, 0, 0, -1, -1},
		{0, 1, 0, -1, -1},
		{complex(negativeZero, 0), 4, 0, -1, -1},
		{complex(0, negativeZero), 2, 0, -1, -1},
		{complex(negativeZero, negativeZero), 1, 0, -1, -1},
		// The smallest floats, whose halves are rounded.
		{complex(smallest, 0), 1, 1, 0, 1},
		{complex(0, -smallest), 1, 1, 0, 1},
		{complex(2*smallest, 0), 1, 2, 0, 2},
		{complex(3*smallest, 0), 1, 3, 0, 1},
		{complex(4*smallest, 0), 1, 3, 0, 3},
		{complex(5*smallest, 0), 1, 3, 0, 1},
		{complex(6*smallest, 0), 1, 4, 0, 2},
		{complex(7*smallest, 0), 1, 4, 0, 1},
		{complex(5*smallest, 0), 3, 1, 0, 1},
		{complex(7*smallest, 0), 3, 2, 0, 1},
		{complex(8*smallest, 0), 3, 2, 0, 2},
		{complex(9*smallest, 0), 4, 1, 0, 1},
		{complex(24*smallest, 0), 4, 2, 0, 1},
		{complex(smallest, 2*smallest), 1, 2, 0, 1},
		{complex(1, smallest), 1, 150, 0, 1},
		{complex(smallest, 1), 1, 150, 0, 1},
		{complex(leastNormal, 1), 1, 150, 1, 24},
		{complex(1, above(leastNormal)), 1, 150, 1, 1},
		// The ends of the subnormals.
		{complex(leastNormal, 0), 1, 24, 1, 24},
		{complex(leastNormal, 0), 4, 6, 1, 6},
		{complex(below(leastNormal), 0), 1, 24, 0, 1},
		{complex(above(leastNormal), 0), 1, 24, 1, 1},
		{complex(2*leastNormal, 0), 1, 25, 2, 25},
		{complex(2*leastNormal, 0), 2, 13, 1, 13},
		// What is rounded to the least normal float is lost one step ahead of a subnormal part.
		{complex(below(2*leastNormal), 0), 1, 25, 2, 1},
		{complex(below(4*leastNormal), 0), 1, 26, 3, 2},
		{complex(below(4*leastNormal), 0), 2, 13, 2, 1},
		{complex(below(8*leastNormal), 0), 3, 9, 2, 1},
		{complex(below(16*leastNormal), 0), 4, 7, 2, 1},
		{complex(below(32*leastNormal), 0), 4, 8, 2, 2},
		{complex(0, below(2*leastNormal)), 1, 25, 2, 1},
		// The greatest floats.
		{complex(0x1p127, 0), 1, 277, 254, 277},
		{complex(mostFloat, 0), 1, 278, 255, 254},
		{complex(0, -mostFloat), 1, 278, 255, 254},
		{complex(mostFloat, 0), 2, 139, 128, 127},
		{complex(mostFloat, 0), 3, 93, 85, 85},
		{complex(mostFloat, 0), 4, 70, 64, 64},
		{complex(mostFloat, 0x1p127), 1, 278, 254, 254},
	}
	for _, c := range cases {
		for turn := range 4 {
			wantMarks(t, swing(c.start, turn, c.shift), c.rest, c.small, c.lost)
		}
	}
}

func TestSwingMarksByHand(t *testing.T) {
	eachSwing(finiteStarts(), func(s impl.Swing) {
		singles := singlesByHand(s)
		wantMarks(t, s, restByHand(singles), smallByHand(singles), lostByHand(singles, widesByHand(s)))
	})
}

func TestSwingRestPromise(t *testing.T) {
	count := map[bool]int{}
	eachSwing(finiteStarts(), func(s impl.Swing) {
		rest, _ := impl.SwingRest(s)
		count[rest >= 0]++
		if rest < 0 {
			return
		}
		there, _ := impl.SwingAt(s, rest)
		last, _ := impl.SwingAt(s, mostSteps)
		ahead, ok := impl.SwingAt(s, rest-1)
		if there != 0 || last != 0 || ahead == 0 && ok {
			t.Errorf("%s returned %d, where the number is %v, %v at last, and %v ahead", namedSwing("SwingRest", s), rest, there, last, ahead)
		}
	})
	if count[true] < 1000 || count[false] < 1000 {
		t.Errorf("%d swings come to rest and %d do not", count[true], count[false])
	}
}

// subnormalByHand reports whether a part is between 0 and the least normal float, or the opposite one.
func subnormalByHand(z complex64) bool {
	for _, x := range []float32{real(z), imag(z)} {
		if 0 < x && x < leastNormal || -leastNormal < x && x < 0 {
			return true
		}
	}
	return false
}

func TestSwingSmallPromise(t *testing.T) {
	count := map[bool]int{}
	eachSwing(finiteStarts(), func(s impl.Swing) {
		small, _ := impl.SwingSmall(s)
		count[small >= 0]++
		if small < 0 {
			return
		}
		there, _ := impl.SwingAt(s, small)
		ahead, _ := impl.SwingAt(s, small-1)
		rest, _ := impl.SwingRest(s)
		if !subnormalByHand(there) || subnormalByHand(ahead) || rest >= 0 && rest <= small {
			t.Errorf("%s returned %d, where the number is %v, %v ahead, and it rests at %d", namedSwing("SwingSmall", s), small, there, ahead, rest)
		}
	})
	if count[true] < 1000 || count[false] < 100 {
		t.Errorf("%d swings have a subnormal part and %d do not", count[true], count[false])
	}
}

func TestSwingLostPromise(t *testing.T) {
	count := map[int]int{}
	eachSwing(finiteStarts(), func(s impl.Swing) {
		lost, _ := impl.SwingLost(s)
		if lost < 0 {
			count[-1]++
			return
		}
		small, _ := impl.SwingSmall(s)
		count[max(small-lost, 0)]++
		if small < 0 || small > lost+1 {
			t.Errorf("%s returned %d, and %s %d", namedSwing("SwingLost", s), lost, namedSwing("SwingSmall", s), small)
		}
	})
	if count[-1] < 1000 || count[0] < 1000 || count[1] < 10 {
		t.Errorf("%d swings lose nothing, %d lose it with a subnormal part, and %d one step ahead of it", count[-1], count[0], count[1])
	}
}

func TestSwingMarksFail(t *testing.T) {
	for _, none := range noSwings() {
		for name, ask := range map[string]func(impl.Swing) (int, bool){"SwingRest": impl.SwingRest, "SwingSmall": impl.SwingSmall, "SwingLost": impl.SwingLost} {
			got, ok := ask(none)
			wantNumber(t, namedSwing(name, none), got, ok, 0, false)
		}
	}
}

func TestSwingPathTold(t *testing.T) {
	wantSwingPath(t, swing(1, 1, 1), 1, []complex64{1}, true)
	wantSwingPath(t, swing(1, 1, 1), 5, []complex64{1, 0.5i, complex(-0.25, 0), complex(0, -0.125), 0.0625}, true)
	wantSwingPath(t, swing(3-2i, 0, 0), 3, []complex64{3 - 2i, 3 - 2i, 3 - 2i}, true)
	wantSwingPath(t, swing(complex(negativeZero, -smallest), 0, 1), 2, []complex64{complex(negativeZero, -smallest), complex(negativeZero, negativeZero)}, true)
	wantSwingPath(t, swing(4096-4096i, 3, 4), 2, []complex64{4096 - 4096i, -256 - 256i}, true)
	wantSwingPath(t, swing(4096, 2, 0), 100, slices.Repeat([]complex64{4096, -4096}, 50), true)
	for turn := range 4 {
		for shift := range 5 {
			for _, n := range []int{1, 2, 50, 99, 100} {
				// The first point is beyond, even if all others are not.
				for _, x := range []float32{above(4096), 4097, 5000, 8192, mostFloat, -above(4096), -4097, -mostFloat} {
					wantSwingPath(t, swing(complex(x, 0), turn, shift), n, nil, false)
					wantSwingPath(t, swing(complex(1, x), turn, shift), n, nil, false)
				}
			}
		}
	}
}

func TestSwingPathPromise(t *testing.T) {
	count := map[bool]int{}
	eachSwing(finiteStarts(), func(s impl.Swing) {
		points := pathOfBits(singlesByHand(s))
		for _, n := range []int{1, 2, 3, 17, 99, 100} {
			want, wantOK := points[:n], true
			if !pathByHand(want) {
				want, wantOK = nil, false
			}
			got, ok := impl.SwingPath(s, n)
			count[ok]++
			wantPath(t, namedSwing("SwingPath", s, n), got, ok, want, wantOK)
			if ok && !impl.PathValid(got) {
				t.Errorf("%s returned what is no path", namedSwing("SwingPath", s, n))
			}
		}
	})
	if count[true] < 1000 || count[false] < 1000 {
		t.Errorf("%d swings have a path and %d have none", count[true], count[false])
	}
}

func TestSwingPathFails(t *testing.T) {
	for _, s := range []impl.Swing{{}, swing(1, 1, 1), swing(complex(4096, smallest), 3, 4)} {
		for n := -500; n <= 500; n++ {
			_, ok := impl.SwingPath(s, n)
			wantHolds(t, namedSwing("SwingPath", s, n), ok, n >= 1 && n <= mostPath)
		}
		for _, n := range slices.Concat(noSteps, []int{0, 101, 102, 128, 200, 256, 399, 400, 1<<32 + 100}) {
			wantSwingPath(t, s, n, nil, false)
		}
	}
	for _, none := range noSwings() {
		for _, n := range []int{-1, 0, 1, 2, mostPath, mostPath + 1} {
			wantSwingPath(t, none, n, nil, false)
		}
	}
}

func TestSwingSumTold(t *testing.T) {
	cases := []struct {
		s    impl.Swing
		n    int
		want complex64
	}{
		{swing(1, 1, 1), 0, 0},
		{swing(1, 1, 1), 1, 1},
		{swing(1, 1, 1), 2, 1 + 0.5i},
		{swing(1, 1, 1), 3, 0.75 + 0.5i},
		{swing(1, 1, 1), 4, 0.75 + 0.375i},
		{swing(3-2i, 1, 0), 4, 0},
		{swing(3-2i, 1, 0), 399, 2 + 3i},
		{swing(3-2i, 0, 0), 400, 1200 - 800i},
		{swing(complex(mostFloat, mostFloat), 1, 1), 0, 0},
		// Sums begin with 0, to which the negative 0 is added.
		{swing(complex(negativeZero, negativeZero), 0, 0), 0, 0},
		{swing(complex(negativeZero, negativeZero), 0, 0), 1, 0},
		{swing(complex(negativeZero, -1), 0, 1), 400, complex(0, -2)},
		// Sums are rounded to float32, one by one.
		{swing(1, 0, 1), 24, complex(below(2), 0)},
		{swing(1, 0, 1), 25, 2},
		{swing(1, 0, 1), 400, 2},
		{swing(0.1, 0, 0), 10, 1.0000001},
		{swing(0x1p24+0.5i, 0, 0), 3, 0x3p24 + 1.5i},
		// Sums of the smallest floats are exact.
		{swing(complex(smallest, -3*smallest), 0, 0), 400, complex(400*smallest, -1200*smallest)},
		{swing(complex(smallest, -3*smallest), 0, 1), 400, complex(smallest, -6*smallest)},
		{swing(complex(below(leastNormal), 0), 0, 0), 2, complex(below(2*leastNormal)-smallest, 0)},
		// Sums go beyond the greatest float32.
		{swing(complex(mostFloat, 1), 0, 0), 1, complex(mostFloat, 1)},
		{swing(complex(mostFloat, 1), 0, 0), 2, complex(infinity, 2)},
		{swing(complex(mostFloat, 1), 0, 0), 400, complex(infinity, 400)},
		{swing(complex(1, -mostFloat), 0, 1), 2, complex(1.5, -infinity)},
		{swing(complex(-mostFloat, mostFloat), 0, 0), 400, complex(-infinity, infinity)},
		{swing(complex(0x1p127, 0), 0, 0), 2, complex(infinity, 0)},
		{swing(complex(below(0x1p127), 0), 0, 0), 2, complex(mostFloat, 0)},
		{swing(complex(0x1p127, 0), 0, 1), 24, complex(mostFloat, 0)},
		{swing(complex(0x1p127, 0), 0, 1), 25, complex(infinity, 0)},
		{swing(complex(mostFloat, mostFloat), 2, 0), 2, 0},
		{swing(complex(mostFloat, -mostFloat), 1, 0), 2, complex(infinity, 0)},
		{swing(complex(mostFloat, -mostFloat), 1, 0), 400, complex(infinity, 0)},
	}
	for _, c := range cases {
		wantSum(t, c.s, c.n, singleBits(c.want), true)
	}
}

func TestSwingSumPromise(t *testing.T) {
	beyond := 0
	eachSwing(finiteStarts(), func(s impl.Swing) {
		sums := sumsByHand(singlesByHand(s))
		for _, n := range []int{0, 1, 2, 3, 4, 24, 100, 300, mostSteps - 1, mostSteps} {
			sum, ok := impl.SwingSum(s, n)
			wantSingle(t, namedSwing("SwingSum", s, n), sum, ok, sums[n], true)
			if math.IsInf(float64(real(sum)), 0) {
				beyond++
			}
			z, _ := impl.SwingAt(s, n)
			if n < mostSteps {
				wantSum(t, s, n+1, singleBits(sum+z), true)
			}
		}
	})
	if beyond < 100 {
		t.Errorf("only %d sums go beyond the greatest float32", beyond)
	}
}

// TestSumsAmongSmallestByHand checks that the sums by hand, of 24 bits, are those of all smallest floats, too.
func TestSumsAmongSmallestByHand(t *testing.T) {
	source := rand.New(rand.NewPCG(96, 0))
	for range 1000 {
		a, b := source.Uint32N(1<<24), source.Uint32N(1<<24)
		want := new(big.Float).Add(big.NewFloat(float64(math.Float32frombits(a))), big.NewFloat(float64(math.Float32frombits(b))))
		if exact, accuracy := want.Float32(); math.Float32bits(exact) != singleSumByHand(a, b) || a < 1<<23 && b < 1<<23 && accuracy != big.Exact {
			t.Errorf("the sum of %x and %x is %x", a, b, singleSumByHand(a, b))
		}
	}
}

// TestSwingPathResults checks that results share no memory with each other: each is told again when one is written over.
func TestSwingPathResults(t *testing.T) {
	for _, n := range []int{1, 2, 99, mostPath} {
		s := swing(3-5i, 1, 1)
		first, ok := impl.SwingPath(s, n)
		want := slices.Clone(first)
		second, secondOK := impl.SwingPath(s, n)
		scribblePath(first)
		third, thirdOK := impl.SwingPath(s, n)
		wantPath(t, namedSwing("SwingPath again", s, n), second, secondOK, want, ok)
		wantPath(t, namedSwing("SwingPath once more", s, n), third, thirdOK, want, ok)
	}
}

// TestSwingsSideBySide runs many swings at one time: none changes the result of another one.
func TestSwingsSideBySide(t *testing.T) {
	starts := finiteStarts()
	var running sync.WaitGroup
	for k := range 16 {
		running.Go(func() {
			for i := k; i < len(starts); i += 4 {
				s := swing(starts[i], k%4, 1+i%4)
				singles := singlesByHand(s)
				wantMarks(t, s, restByHand(singles), smallByHand(singles), lostByHand(singles, widesByHand(s)))
			}
		})
	}
	running.Wait()
}

// TestSwingsAreJoined checks that no swing runs on behind its call.
func TestSwingsAreJoined(t *testing.T) {
	before := runtime.NumGoroutine()
	for _, start := range []complex64{0, 1, complex(smallest, 1), complex(noNumber, 1)} {
		for shift := -1; shift <= 5; shift++ {
			for range 20 {
				impl.SwingLost(swing(start, 1, shift))
			}
		}
	}
	// What is joined may need a moment to be gone.
	for range 100 {
		if runtime.NumGoroutine() <= before {
			return
		}
		time.Sleep(10 * time.Millisecond)
	}
	t.Errorf("%d goroutines run behind all calls, and %d did ahead of them", runtime.NumGoroutine(), before)
}
