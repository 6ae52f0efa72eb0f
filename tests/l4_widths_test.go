package tests

import (
	"math"
	"math/big"
	"math/rand/v2"
	"slices"
	"strconv"
	"testing"

	"loop.example/turningwheels/impl"
)

// wideRootBits has the bits of both parts of the wide roots.
var wideRootBits = [8][2]uint64{
	{0x3ff0000000000000, 0x0000000000000000},
	{0x3feee8dd4748bf15, 0x3fd0907dc1930690},
	{0x3febb67ae8584caa, 0x3fe0000000000000},
	{0x3fe6a09e667f3bcd, 0x3fe6a09e667f3bcd},
	{0x3fe0000000000000, 0x3febb67ae8584caa},
	{0x3fd0907dc1930690, 0x3feee8dd4748bf15},
	{0x0000000000000000, 0x3ff0000000000000},
	{0xbfd0907dc1930690, 0x3feee8dd4748bf15},
}

// singleRootBits has the bits of both parts of the single roots.
var singleRootBits = [8][2]uint32{
	{0x3f800000, 0x00000000},
	{0x3f7746ea, 0x3e8483ee},
	{0x3f5db3d7, 0x3f000000},
	{0x3f3504f3, 0x3f3504f3},
	{0x3f000000, 0x3f5db3d7},
	{0x3e8483ee, 0x3f7746ea},
	{0x00000000, 0x3f800000},
	{0xbe8483ee, 0x3f7746ea},
}

// noRoots are no indices of roots, though some are again in 8, 16 or 32 bits, or modulo 8.
var noRoots = []int{
	math.MinInt, math.MinInt32, -1 << 32, -256, -24, -8, -7, -2, -1,
	8, 9, 12, 15, 16, 23, 24, 256, 1 << 16, math.MaxInt32, 1 << 32, 1<<32 + 7, math.MaxInt,
}

// pointBits has the bits of both parts of points. In (-2, -2, 5, -4, 5, -2, 1, -3) each part of both widths is another one if it is
// added in another order, if a product is rounded together with the sum alone, if the single point is the wide one rounded, and if
// that is made of the wide roots.
var pointBits = []struct {
	a      impl.Cyc
	wide   [2]uint64
	single [2]uint32
}{
	{point(), [2]uint64{0x0000000000000000, 0x0000000000000000}, [2]uint32{0x00000000, 0x00000000}},
	{point(1, 1, 1, 1, 1, 1, 1, 1), [2]uint64{0x401027fed2c408f2, 0x40150e2257c6513d}, [2]uint32{0x40813ff6, 0x40a87112}},
	{point(-1, -1, -1, -1, -1, -1, -1, -1), [2]uint64{0xc01027fed2c408f2, 0xc0150e2257c6513d}, [2]uint32{0xc0813ff6, 0xc0a87112}},
	{point(1, 2, 3, 4, 5, 6, 7, 8), [2]uint64{0x4024ae72720044cd, 0x403db2fbbe5a1f41}, [2]uint32{0x41257394, 0x41ed97de}},
	{point(-8, 7, -6, 5, -4, 3, -2, 1), [2]uint64{0xc01186a7d7a0ac1c, 0x3fe7e659a1c08ba5}, [2]uint32{0xc08c353e, 0x3f3f32ce}},
	{point(-2, -2, 5, -4, 5, -2, 1, -3), [2]uint64{0x3fd508e283e92a78, 0xbfd61dc66c8463c0}, [2]uint32{0x3ea8470e, 0xbeb0ee38}},
	{point(2, 0, 0, 0, 0, 0, -3), [2]uint64{0x4000000000000000, 0xc008000000000000}, [2]uint32{0x40000000, 0xc0400000}},
	{point(-5), [2]uint64{0xc014000000000000, 0x0000000000000000}, [2]uint32{0xc0a00000, 0x00000000}},
	{point(0, 0, 0, 0, 0, 0, -5), [2]uint64{0x0000000000000000, 0xc014000000000000}, [2]uint32{0x00000000, 0xc0a00000}},
	{point(1000000), [2]uint64{0x412e848000000000, 0x0000000000000000}, [2]uint32{0x49742400, 0x00000000}},
	{point(-1000000), [2]uint64{0xc12e848000000000, 0x0000000000000000}, [2]uint32{0xc9742400, 0x00000000}},
	{point(0, 1000000), [2]uint64{0x412d7a4ba70f5c5b, 0x410f98185c5eb5dc}, [2]uint32{0x496bd25d, 0x487cc0c3}},
	{point(0, -1000000), [2]uint64{0xc12d7a4ba70f5c5b, 0xc10f98185c5eb5dc}, [2]uint32{0xc96bd25d, 0xc87cc0c3}},
	{point(0, 0, 1000000), [2]uint64{0x412a6dd2cebcd57d, 0x411e848000000000}, [2]uint32{0x49536e96, 0x48f42400}},
	{point(0, 0, -1000000), [2]uint64{0xc12a6dd2cebcd57d, 0xc11e848000000000}, [2]uint32{0xc9536e96, 0xc8f42400}},
	{point(0, 0, 0, 1000000), [2]uint64{0x412594458ff7aee4, 0x412594458ff7aee4}, [2]uint32{0x492ca22c, 0x492ca22c}},
	{point(0, 0, 0, -1000000), [2]uint64{0xc12594458ff7aee4, 0xc12594458ff7aee4}, [2]uint32{0xc92ca22c, 0xc92ca22c}},
	{point(0, 0, 0, 0, 1000000), [2]uint64{0x411e848000000000, 0x412a6dd2cebcd57d}, [2]uint32{0x48f42400, 0x49536e96}},
	{point(0, 0, 0, 0, -1000000), [2]uint64{0xc11e848000000000, 0xc12a6dd2cebcd57d}, [2]uint32{0xc8f42400, 0xc9536e96}},
	{point(0, 0, 0, 0, 0, 1000000), [2]uint64{0x410f98185c5eb5dc, 0x412d7a4ba70f5c5b}, [2]uint32{0x487cc0c3, 0x496bd25d}},
	{point(0, 0, 0, 0, 0, -1000000), [2]uint64{0xc10f98185c5eb5dc, 0xc12d7a4ba70f5c5b}, [2]uint32{0xc87cc0c3, 0xc96bd25d}},
	{point(0, 0, 0, 0, 0, 0, 1000000), [2]uint64{0x0000000000000000, 0x412e848000000000}, [2]uint32{0x00000000, 0x49742400}},
	{point(0, 0, 0, 0, 0, 0, -1000000), [2]uint64{0x0000000000000000, 0xc12e848000000000}, [2]uint32{0x00000000, 0xc9742400}},
	{point(0, 0, 0, 0, 0, 0, 0, 1000000), [2]uint64{0xc10f98185c5eb5dc, 0x412d7a4ba70f5c5b}, [2]uint32{0xc87cc0c3, 0x496bd25d}},
	{point(0, 0, 0, 0, 0, 0, 0, -1000000), [2]uint64{0x410f98185c5eb5dc, 0xc12d7a4ba70f5c5b}, [2]uint32{0x487cc0c3, 0xc96bd25d}},
	{point(1000000, 1000000, 1000000, 1000000, 1000000, 1000000, 1000000, 1000000), [2]uint64{0x414ed0c90170f82e, 0x4154146eb87d5d51}, [2]uint32{0x4a768648, 0x4aa0a376}},
	{point(-1000000, -1000000, -1000000, -1000000, -1000000, -1000000, -1000000, -1000000), [2]uint64{0xc14ed0c90170f82e, 0xc154146eb87d5d51}, [2]uint32{0xca768648, 0xcaa0a376}},
	{point(1000000, -1000000, 1000000, -1000000, 1000000, -1000000, 1000000, -1000000), [2]uint64{0x4125260197b5ca3e, 0xc1203a5026713f94}, [2]uint32{0x4929300d, 0xc901d281}},
	{point(999999, -999998, 999997, -999996, 999995, -999994, 999993, -999992), [2]uint64{0x412525fde1ba251d, 0xc1203a4812869418}, [2]uint32{0x49292ff0, 0xc901d23f}},
	{point(-377, -73, 484, -73, 0, 191, -242, -118), [2]uint64{0x3e584bbd00000000, 0x3d10000000000000}, [2]uint32{0x36000000, 0x00000000}},
	{point(4179, 13811, -36794, 13811, 0, 1941, 18397, -15752), [2]uint64{0x0000000000000000, 0x0000000000000000}, [2]uint32{0x00000000, 0x00000000}},
}

// luckyPoints are real numbers so near to 0 that both widths round them to it: no Gaussian numbers, but they fit.
var luckyPoints = []impl.Cyc{
	point(4179, 13811, -36794, 13811, 0, 1941, 18397, -15752),
	point(37841, -14681, 844, -14681, 0, -19725, -422, 34406),
	point(-27511, 16688, 33518, 16688, 0, -65210, -16759, 48522),
	point(67151, -18842, -12850, -18842, 0, -37908, 6425, 56750),
}

// unluckyPoints are as near to 0, but one of both widths alone rounds them to it.
var unluckyPoints = []impl.Cyc{
	point(7, 41, -32, 41, 0, -113, 16, 72),
	point(-20, 70, -200, 70, 0, 112, 100, -182),
	point(262087, 0, -302632, 0, 0, 0, 151316),
	point(4745, -1542, -12014, -1542, 0, 16688, 6007, -15146),
	point(-8740, -4346, 6264, -4346, 0, 22624, -3132, -18278),
}

func wideBits(z complex128) [2]uint64 {
	return [2]uint64{math.Float64bits(real(z)), math.Float64bits(imag(z))}
}

func singleBits(z complex64) [2]uint32 {
	return [2]uint32{math.Float32bits(real(z)), math.Float32bits(imag(z))}
}

func floatText(x float64) string {
	return strconv.FormatFloat(x, 'g', -1, 64)
}

func complexText(z complex128) string {
	return strconv.FormatComplex(z, 'g', -1, 128)
}

func namedNumbers(name string, numbers ...complex128) string {
	text := name
	for _, z := range numbers {
		text += " " + complexText(z)
	}
	return text
}

// wantWide checks a result with a complex128 bit by bit: 0, with both signs positive, and false where the document tells that there is none.
func wantWide(t *testing.T, what string, got complex128, ok bool, want [2]uint64, wantOK bool) {
	t.Helper()
	if wideBits(got) != want || ok != wantOK {
		t.Errorf("%s returned %v with the bits %x, %t and not %x, %t", what, got, wideBits(got), ok, want, wantOK)
	}
}

func wantSingle(t *testing.T, what string, got complex64, ok bool, want [2]uint32, wantOK bool) {
	t.Helper()
	if singleBits(got) != want || ok != wantOK {
		t.Errorf("%s returned %v with the bits %x, %t and not %x, %t", what, got, singleBits(got), ok, want, wantOK)
	}
}

// rounded returns a number that is rounded to so many bits by whatever is done with it.
func rounded(x float64, bits uint) *big.Float {
	return new(big.Float).SetPrec(bits).SetMode(big.ToNearestEven).SetFloat64(x)
}

// sumInBits adds coefficients times parts of roots in the order of k, each product and each sum rounded to so many bits by itself.
func sumInBits(a [8]int, parts [8]float64, bits uint) float64 {
	sum := rounded(0, bits)
	for k, c := range a {
		product := rounded(0, bits).Mul(rounded(float64(c), bits), rounded(parts[k], bits))
		sum.Add(sum, product)
	}
	x, _ := sum.Float64()
	return x
}

// wideByHand returns the bits of the wide point.
func wideByHand(a impl.Cyc) [2]uint64 {
	var res, ims [8]float64
	for k, root := range wideRootBits {
		res[k], ims[k] = math.Float64frombits(root[0]), math.Float64frombits(root[1])
	}
	return [2]uint64{math.Float64bits(sumInBits(a.C, res, 53)), math.Float64bits(sumInBits(a.C, ims, 53))}
}

// singleByHand returns the bits of the single point.
func singleByHand(a impl.Cyc) [2]uint32 {
	var res, ims [8]float64
	for k, root := range singleRootBits {
		res[k], ims[k] = float64(math.Float32frombits(root[0])), float64(math.Float32frombits(root[1]))
	}
	return [2]uint32{math.Float32bits(float32(sumInBits(a.C, res, 24))), math.Float32bits(float32(sumInBits(a.C, ims, 24)))}
}

// fitByHand reports whether both parts of the single point are numbers equal to those of the wide one.
func fitByHand(a impl.Cyc) bool {
	wide, single := wideByHand(a), singleByHand(a)
	for k := range wide {
		if math.Float64frombits(wide[k]) != float64(math.Float32frombits(single[k])) {
			return false
		}
	}
	return true
}

// gaussPoints returns Gaussian numbers about 0 and at the ends of the range.
func gaussPoints() []impl.Cyc {
	var list []impl.Cyc
	for _, re := range slices.Concat(edgeCoefs, []int{-7, 0, 524289}) {
		for _, im := range slices.Concat(edgeCoefs, []int{-524289, 0, 3}) {
			list = append(list, point(re, 0, 0, 0, 0, 0, im))
		}
	}
	return list
}

// widthPoints returns points of all sizes, very near to 0, and such whose sums are rounded often.
func widthPoints() []impl.Cyc {
	list := slices.Concat(validPoints(), realPoints(), nearPoints(), gaussPoints(), luckyPoints, unluckyPoints)
	for _, row := range pointBits {
		list = append(list, row.a)
	}
	source := rand.New(rand.NewPCG(4, 128))
	for _, most := range []int{1, 7, 1000, mostCoef} {
		for range 100 {
			list = append(list, randomPoint(source, most, source.IntN(8)))
		}
	}
	return list
}

// smallPoints returns points with coefficients of a size of at most 1000.
func smallPoints() []impl.Cyc {
	list := []impl.Cyc{
		point(1000, 1000, 1000, 1000, 1000, 1000, 1000, 1000), point(-1000, -1000, -1000, -1000, -1000, -1000, -1000, -1000),
		point(1000, 1000, 1000, 1000, 1000, 1000, 1000, -1000), point(1000, -1000, 1000, -1000, 1000, -1000, 1000, -1000),
	}
	return slices.DeleteFunc(append(list, widthPoints()...), func(a impl.Cyc) bool {
		return slices.Max(a.C[:]) > 1000 || slices.Min(a.C[:]) < -1000
	})
}

func TestWideRootTold(t *testing.T) {
	for k, want := range wideRootBits {
		got, ok := impl.WideRoot(k)
		wantWide(t, named("WideRoot", k), got, ok, want, true)
	}
	for _, none := range noRoots {
		got, ok := impl.WideRoot(none)
		wantWide(t, named("WideRoot", none), got, ok, [2]uint64{}, false)
	}
}

func TestWideRootPromise(t *testing.T) {
	for k := range 8 {
		what := named("WideRoot", k)
		got, ok := impl.WideRoot(k)
		if !ok || math.Abs(real(got)*real(got)+imag(got)*imag(got)-1) > 1e-15 {
			t.Errorf("%s returned %v, %t", what, got, ok)
		}
		root, rootOK := impl.CycRoot(k)
		again, againOK := impl.WidePoint(root)
		if !rootOK {
			t.Errorf("%s failed", named("CycRoot", k))
		}
		wantWide(t, "WidePoint of the root, and "+what, again, againOK, wideBits(got), true)
	}
}

func TestSingleRootTold(t *testing.T) {
	for k, want := range singleRootBits {
		got, ok := impl.SingleRoot(k)
		wantSingle(t, named("SingleRoot", k), got, ok, want, true)
	}
	for _, none := range noRoots {
		got, ok := impl.SingleRoot(none)
		wantSingle(t, named("SingleRoot", none), got, ok, [2]uint32{}, false)
	}
}

func TestSingleRootPromise(t *testing.T) {
	for k := range 8 {
		wide, wideOK := impl.WideRoot(k)
		got, ok := impl.SingleRoot(k)
		wantSingle(t, named("SingleRoot", k), got, ok, singleBits(complex64(wide)), wideOK)
	}
}

func TestWidePointTold(t *testing.T) {
	for _, row := range pointBits {
		got, ok := impl.WidePoint(row.a)
		wantWide(t, namedPoints("WidePoint", row.a), got, ok, row.wide, true)
	}
	for _, a := range widthPoints() {
		got, ok := impl.WidePoint(a)
		wantWide(t, namedPoints("WidePoint", a), got, ok, wideByHand(a), true)
	}
	for _, a := range invalidPoints() {
		got, ok := impl.WidePoint(a)
		wantWide(t, namedPoints("WidePoint", a), got, ok, [2]uint64{}, false)
	}
}

func TestWidePointPromise(t *testing.T) {
	for _, a := range smallPoints() {
		got, ok := impl.WidePoint(a)
		re, reOK := impl.SurdRe(a)
		im, imOK := impl.SurdIm(a)
		if !ok || !reOK || !imOK || math.Abs(real(got)-surdFloat(re)) > 1e-9 || math.Abs(imag(got)-surdFloat(im)) > 1e-9 {
			t.Errorf("%s returned %v, %t and not about %v and %v", namedPoints("WidePoint", a), got, ok, surdFloat(re), surdFloat(im))
		}
	}
}

func TestSinglePointTold(t *testing.T) {
	for _, row := range pointBits {
		got, ok := impl.SinglePoint(row.a)
		wantSingle(t, namedPoints("SinglePoint", row.a), got, ok, row.single, true)
	}
	for _, a := range widthPoints() {
		got, ok := impl.SinglePoint(a)
		wantSingle(t, namedPoints("SinglePoint", a), got, ok, singleByHand(a), true)
	}
	for k, want := range singleRootBits {
		got, ok := impl.SinglePoint(only(k, 1))
		wantSingle(t, named("SinglePoint of the root", k), got, ok, want, true)
	}
	for _, a := range invalidPoints() {
		got, ok := impl.SinglePoint(a)
		wantSingle(t, namedPoints("SinglePoint", a), got, ok, [2]uint32{}, false)
	}
}

func TestSinglePointPromise(t *testing.T) {
	for _, a := range smallPoints() {
		wide, wideOK := impl.WidePoint(a)
		got, ok := impl.SinglePoint(a)
		off := complex128(got) - wide
		if !ok || !wideOK || math.Abs(real(off)) > 0.01 || math.Abs(imag(off)) > 0.01 {
			t.Errorf("%s returned %v, %t and not about %v", namedPoints("SinglePoint", a), got, ok, wide)
		}
	}
}

func TestPointsOfOneCoefficient(t *testing.T) {
	for k := range 8 {
		for _, c := range []int{-1, -2, -3, -1000, -999999, -1000000} {
			a, positive := only(k, c), only(k, -c)
			wide, wideOK := impl.WidePoint(a)
			wantWide(t, namedPoints("WidePoint", a), wide, wideOK, flippedWide(wideByHand(positive)), true)
			single, singleOK := impl.SinglePoint(a)
			wantSingle(t, namedPoints("SinglePoint", a), single, singleOK, flippedSingle(singleByHand(positive)), true)
		}
	}
}

// flippedWide returns the bits of both parts with the other sign, but for those of 0, which begins each sum.
func flippedWide(bits [2]uint64) [2]uint64 {
	for k := range bits {
		if bits[k] != 0 {
			bits[k] ^= 1 << 63
		}
	}
	return bits
}

func flippedSingle(bits [2]uint32) [2]uint32 {
	for k := range bits {
		if bits[k] != 0 {
			bits[k] ^= 1 << 31
		}
	}
	return bits
}

// gaussParts are parts of complex128 with the coefficient that they are, if they are one.
var gaussParts = []struct {
	x    float64
	coef int
	ok   bool
}{
	{0, 0, true},
	{math.Copysign(0, -1), 0, true},
	{1, 1, true},
	{-1, -1, true},
	{3, 3, true},
	{-524289, -524289, true},
	{999999, 999999, true},
	{-999999, -999999, true},
	{1000000, 1000000, true},
	{-1000000, -1000000, true},
	{1000001, 0, false},
	{-1000001, 0, false},
	{2000000, 0, false},
	{math.Nextafter(1000000, math.Inf(1)), 0, false},
	{math.Nextafter(-1000000, math.Inf(-1)), 0, false},
	{math.Nextafter(1000000, 0), 0, false},
	{math.Nextafter(1, 2), 0, false},
	{math.Nextafter(1, 0), 0, false},
	{math.Nextafter(-3, 0), 0, false},
	{math.SmallestNonzeroFloat64, 0, false},
	{-math.SmallestNonzeroFloat64, 0, false},
	{1e-300, 0, false},
	{0.5, 0, false},
	{-0.5, 0, false},
	{1.5, 0, false},
	{999999.5, 0, false},
	{-1000000.5, 0, false},
	{0.9999999999999999, 0, false},
	{1 << 31, 0, false},
	{1 << 32, 0, false},
	{1<<32 + 5, 0, false},
	{1 << 62, 0, false},
	{-1 << 63, 0, false},
	{1 << 63, 0, false},
	{1 << 64, 0, false},
	{1e300, 0, false},
	{math.MaxFloat64, 0, false},
	{-math.MaxFloat64, 0, false},
	{math.Inf(1), 0, false},
	{math.Inf(-1), 0, false},
	{math.NaN(), 0, false},
	{math.Copysign(math.NaN(), -1), 0, false},
}

func TestWideGaussTold(t *testing.T) {
	for _, re := range gaussParts {
		for _, im := range gaussParts {
			z := complex(re.x, im.x)
			want := impl.Cyc{}
			if re.ok && im.ok {
				want = point(re.coef, 0, 0, 0, 0, 0, im.coef)
			}
			got, ok := impl.WideGauss(z)
			wantPoint(t, namedNumbers("WideGauss", z), got, ok, want, re.ok && im.ok)
		}
	}
}

func TestWideGaussPromise(t *testing.T) {
	for _, a := range gaussPoints() {
		z := complex(float64(a.C[0]), float64(a.C[6]))
		what := namedNumbers("WideGauss", z)
		got, ok := impl.WideGauss(z)
		wantPoint(t, what, got, ok, a, true)
		again, againOK := impl.WidePoint(got)
		wantWide(t, "WidePoint of "+what, again, againOK, wideBits(z), true)
		if !impl.PointsFit(got) {
			t.Errorf("%s does not fit", what)
		}
	}
	// The wide points of points that are no Gaussian numbers are none either, but for those that are rounded to one.
	for k := range 8 {
		z, _ := impl.WidePoint(only(k, 3))
		got, ok := impl.WideGauss(z)
		want := impl.Cyc{}
		if k%6 == 0 {
			want = only(k, 3)
		}
		wantPoint(t, namedNumbers("WideGauss", z), got, ok, want, k%6 == 0)
	}
}

func TestPointsFitTold(t *testing.T) {
	for _, a := range slices.Concat(gaussPoints(), luckyPoints) {
		if !impl.PointsFit(a) {
			t.Errorf("%s does not hold", namedPoints("PointsFit", a))
		}
	}
	unfit := slices.Clone(unluckyPoints)
	for k := range 8 {
		for _, c := range edgeCoefs {
			if k%6 != 0 {
				unfit = append(unfit, only(k, c))
			}
		}
	}
	for _, a := range slices.Concat(unfit, invalidPoints()) {
		if impl.PointsFit(a) {
			t.Errorf("%s holds", namedPoints("PointsFit", a))
		}
	}
}

func TestPointsFitPromise(t *testing.T) {
	for _, a := range widthPoints() {
		if got, want := impl.PointsFit(a), fitByHand(a); got != want {
			t.Errorf("%s returned %t and not %t", namedPoints("PointsFit", a), got, want)
		}
		if impl.PointsFit(a) != impl.PointsFit(opposite(a)) {
			t.Errorf("%s is not that of the opposite point", namedPoints("PointsFit", a))
		}
	}
}

func wantNear(t *testing.T, a complex128, b complex128, most float64, want bool) {
	t.Helper()
	if got := impl.PointsNear(a, b, most); got != want {
		t.Errorf("%s within %s returned %t and not %t", namedNumbers("PointsNear", a, b), floatText(most), got, want)
	}
}

func TestPointsNearTold(t *testing.T) {
	infinite, none := math.Inf(1), math.NaN()
	cases := []struct {
		a, b complex128
		most float64
		want bool
	}{
		{1, 1.5, 0.5, true},
		{1, 1.5, math.Nextafter(0.5, 0), false},
		{1, 1.5, math.Nextafter(0.5, 1), true},
		{1i, 1.5i, 0.5, true},
		{1i, 1.5i, math.Nextafter(0.5, 0), false},
		{1i, 1.5i, math.Nextafter(0.5, 1), true},
		{1, 1.5i, 0.5, false},
		{1, 1.5i, 1, false},
		{1, 1.5i, 1.5, true},
		{0, 3 + 4i, 4, true},
		{0, -3 - 4i, 4, true},
		{0, 3 + 4i, 3.5, false},
		{0, 4 + 3i, 3.5, false},
		{0, complex(math.Nextafter(4, 0), 4), 4, true},
		{0, complex(math.Nextafter(4, 5), 4), 4, false},
		{0, complex(4, math.Nextafter(4, 5)), 4, false},
		{2 - 3i, 2 - 3i, 0, true},
		{2 - 3i, 2 - 3i, math.Copysign(0, -1), true},
		{2 - 3i, 2 - 3i, -math.SmallestNonzeroFloat64, false},
		{2 - 3i, 2 - 3i, -1, false},
		{2 - 3i, 5, -10, false},
		{2 - 3i, 2 - 3i, -infinite, false},
		{2 - 3i, 2 - 3i, infinite, true},
		{2 - 3i, -1e300 + 1e300i, infinite, true},
		{2 - 3i, 2 - 3i, none, false},
		{complex(math.MaxFloat64, 0), complex(-math.MaxFloat64, 0), math.MaxFloat64, false},
		{complex(math.MaxFloat64, 0), complex(-math.MaxFloat64, 0), infinite, true},
		{complex(infinite, 0), complex(-infinite, 0), infinite, true},
		{complex(infinite, 0), complex(infinite, 0), infinite, false},
		{complex(infinite, 0), complex(infinite, 0), 0, false},
		{complex(infinite, 0), 0, math.MaxFloat64, false},
		{complex(infinite, 0), 0, infinite, true},
		{complex(none, 0), complex(none, 0), infinite, false},
		{0, complex(0, none), infinite, false},
		// The difference, 2 to the power of 53 and 1, is rounded to that power.
		{1, 1<<53 + 2, 1 << 53, true},
		{1i, (1<<53 + 2) * 1i, 1 << 53, true},
	}
	for _, c := range cases {
		wantNear(t, c.a, c.b, c.most, c.want)
		wantNear(t, c.b, c.a, c.most, c.want)
	}
	wantNear(t, complex(math.Copysign(0, -1), 0), complex(0, math.Copysign(0, -1)), 0, true)
}

// edgeFloats are parts of complex128 and bounds for PointsNear.
var edgeFloats = []float64{
	0, math.Copysign(0, -1), math.SmallestNonzeroFloat64, -math.SmallestNonzeroFloat64, 0.5, math.Nextafter(0.5, 0), math.Nextafter(0.5, 1),
	1, 1.5, -1, -1.5, 3, 1 << 53, 1<<53 + 2, math.MaxFloat64, -math.MaxFloat64, math.Inf(1), math.Inf(-1), math.NaN(),
}

// nearByHand tells by the exact difference, rounded at last, whether two parts are near.
func nearByHand(x float64, y float64, most float64) bool {
	if math.IsNaN(x) || math.IsNaN(y) || math.IsNaN(most) || most < 0 {
		return false
	}
	if math.IsInf(x, 0) || math.IsInf(y, 0) {
		return x != y && math.IsInf(most, 1)
	}
	const enough = 2200
	exact := new(big.Float).SetPrec(enough).Sub(big.NewFloat(x), big.NewFloat(y))
	difference, _ := exact.Abs(exact).Float64()
	return difference <= most
}

func TestPointsNearPromise(t *testing.T) {
	for _, x := range edgeFloats {
		for _, y := range edgeFloats {
			for _, most := range edgeFloats {
				near := nearByHand(x, y, most)
				wantNear(t, complex(x, 7), complex(y, 7), most, near)
				wantNear(t, complex(7, x), complex(7, y), most, near)
				wantNear(t, complex(x, y), complex(y, x), most, near)
				wantNear(t, complex(x, 0.25), complex(y, 0.5), most, near && most >= 0.25)
				checkNearPromise(t, complex(x, 1), complex(y, 1), most)
				checkNearPromise(t, complex(x, y), complex(1, x), most)
			}
		}
	}
}

// checkNearPromise checks that what is near is so exchanged and within greater bounds, and has no NaN.
func checkNearPromise(t *testing.T, a complex128, b complex128, most float64) {
	t.Helper()
	near := impl.PointsNear(a, b, most)
	wantNear(t, b, a, most, near)
	if !near {
		return
	}
	for _, greater := range edgeFloats {
		if greater > most {
			wantNear(t, a, b, greater, true)
		}
	}
	if a != a || b != b {
		t.Errorf("%s holds for a NaN", namedNumbers("PointsNear", a, b))
	}
}
