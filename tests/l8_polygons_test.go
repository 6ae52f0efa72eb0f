package tests

import (
	"math"
	"math/cmplx"
	"math/rand/v2"
	"slices"
	"testing"

	"loop.example/turningwheels/impl"
)

const (
	mostCorners = 48
	mostCorner  = 100
	mostCrossed = 1000
)

// beyondCorners are no coefficients of corners, though some are of crossed points, and all but the beyondCoefs are of exact points.
var beyondCorners = slices.Concat(beyondCoefs, []int{-1000000, -1001, -1000, -356, -200, -102, -101, 101, 102, 200, 356, 1000, 1001, 1000000})

// beyondCrossed are no coefficients of points that are crossed.
var beyondCrossed = slices.Concat(beyondCoefs, []int{-1000000, -2000, -1002, -1001, 1001, 1002, 2000, 1000000})

// nearSteps are pairs of steps that bend so little that floats find no bend, or the opposite one. They go the same way, not opposite ones.
var nearSteps = []struct {
	to, from impl.Cyc
	bend     int
}{
	{point(23, 2, 33, 27, -5, -29, 43, 20), point(-63, 25, 81, 45, -63, 78, 70, -87), -1},
	{point(1, -27, 43, 24, -42, 22, -7, 37), point(-37, -5, 44, -31, 28, 92, 21, -1), -1},
	{point(33, -45, 16, 38, -1, 37, -35, 39), point(26, -17, 0, -36, 72, -39, 20, 4), 1},
	{point(5, 14, 6, -35, -25, -24, -29, -42), point(5, 30, -84, -16, 92, -13, -41, -19), -1},
	{point(36, -34, -12, -35, 32, -17, -37, -12), point(-30, -43, 33, 58, -6, -85, -26, -25), -1},
	{point(22, 45, -15, -31, -25, -12, -39, -22), point(1, -57, 28, 50, 56, -84, -48, 41), -1},
	{point(-39, -29, -44, -36, 35, -13, 10, -25), point(-95, 49, -59, 16, -34, 52, 2, -55), 1},
	{point(16, 26, 40, 5, -30, -24, 37, -25), point(72, 1, 10, -34, 49, -78, 28, 19), 1},
	{point(28, 1, -29, 42, 19, 22, 35, -18), point(-71, -38, 53, 97, -34, 47, -7, -70), -1},
	{point(21, 42, -32, 44, 37, 13, -35, 25), point(9, 64, 4, -16, 11, 36, -3, 8), 1},
	{point(-3, 33, -40, -12, 43, -5, -10, -7), point(21, -65, 11, 34, 75, -64, -27, 5), -1},
	{point(20, -20, 5, -25, -14, 7, -37, 38), point(36, -61, -21, -96, 96, 49, 9, -75), 1},
	{point(7, -33, 5, 39, 25, -26, 36, 23), point(-2, 19, -8, 14, -61, 41, 50, -14), -1},
	{point(25, 41, 10, 42, 21, -12, -8, 37), point(71, 9, 23, -3, -67, 15, 96, -9), -1},
}

// edgeCrosses have a number of 10000000 in size, with which the cross is told, or the next greater one, with which it is not.
var edgeCrosses = []struct {
	a, b  impl.Cyc
	cross [4]int
}{
	{point(1000, 1000), point(0, 0, 1000, 0, 0, 0, 1000, 1000), [4]int{10000000, 1000000, 0, 3000000}},
	{point(1000, 1000, 0, 1), point(0, -1, 1000, 0, 0, 0, 1000, 1000), [4]int{10000002, 1002000, 2000, 2998000}},
	{point(449, 1000, -1000, -1000, 1000, 1000, -1000, -1000), point(1000, 483, 1000, -4, -5, 2, -1000, 1000), [4]int{10000000, 4209439, -974490, -1345235}},
	{point(-1000, 1000, 1000, 1000, -90, 375, 997, 1000), point(1000, -1000, -1000, 1000, -933, 244, -520, 1000), [4]int{10000002, -8861647, 4238000, 2421647}},
	{point(-1000, 1000, -911, 1000, -1000, -1000, -1000, -1000), point(-1000, 1000, 7, -1000, -1000, -1000, 0, 1000), [4]int{-10000000, 110000, 14000, -4082000}},
	{point(-1000, -1000, 348, -1000, -62, 855, -1000, -869), point(-1000, -1000, 1000, 1000, 1000, 997, 87, -1000), [4]int{-10000002, -5017262, 3390552, 411174}},
	{point(-308, -1000, -1000, 1000, 1000, 966, 1000, -1000), point(-548, -1000, 1000, -998, -996, -1000, -1000, 1000), [4]int{-2447864, 10000000, 5645536, -262496}},
	{point(-621, 922, 756, 1000, -252, 1000, 247, -305), point(-1000, 1000, -595, -1000, 1000, 999, -972, -1000), [4]int{3156836, 10000001, -5689578, -4815589}},
	{point(1000, 1000, -1000, 1000, -1000, -1000, -392, -1000), point(-1000, -1000, -1000, 500, -1000, 1000, -1000, 1000), [4]int{-2352000, -10000000, 216000, -7392000}},
	{point(1000, 263, -1000, 72, -1000, -898, 1, -1000), point(-1000, 517, -1000, -758, -1000, -1000, -1000, 1000), [4]int{-8648524, -10000001, -2967468, -3125517}},
	{point(-190, -1000, 1000, -1000, -1000, 1000, -1000, 430), point(1000, -1000, -620, -1000, -1000, -1000, 1000, -1000), [4]int{2815600, -7063400, 10000000, -23400}},
	{point(-164, -802, -8, -1000, 891, 639, 1000, -1000), point(-991, -1000, -1000, 1000, -1000, -382, -957, -1000), [4]int{44562, 1760190, 10000002, -1979256}},
	{point(-1000, -24, -1000, 514, -1000, 1000, 1000, 1000), point(-1000, 1000, 1000, 1000, 1000, 1000, -538, -1000), [4]int{-8724000, -512152, -10000000, -3035088}},
	{point(-4, 1000, -689, 373, 1000, -1000, 1000, 1000), point(1000, -1000, 1000, 1000, 971, -1000, -547, -1000), [4]int{-995286, 1685755, -10000002, -1169817}},
	{point(20, -1000, 1000, -1000, -1000, -814, 1000, 24), point(1000, -963, 995, 1000, -1000, -143, -1000, 1000), [4]int{-9590888, -1011620, -5359764, 10000000}},
	{point(557, 1000, 1000, -623, 290, 1000, 1000, -1000), point(956, -987, 1000, 983, -505, 1000, 1000, 995), [4]int{-847802, -1609773, 3583180, 10000001}},
	{point(-1000, -1000, 94, -1000, -1000, 1000, 1000, 1000), point(1000, 1000, 1000, -1000, 1000, 1000, -282, -1000), [4]int{-4308000, 7128000, -2053016, -10000000}},
	{point(-1000, -1000, -1000, 1000, -889, -1000, 1000, 1000), point(-1000, 1000, 1000, 991, -1000, 1000, -333, 1000), [4]int{-4297926, 2036001, -1094000, -10000001}},
}

// edgeAreas are told by two points a and b: the polygon goes over a, b and their opposites 11 times, but its first two corners are others.
var edgeAreas = []struct {
	a, b, first, second impl.Cyc
	area                [4]int
}{
	{point(-98, 99, -3, 100, 98, 100, -98, -99), point(96, 99, -99, 3, 98, 98, -96, 95), point(-79, 89, -42, 66, 98, 93, -98, -89), point(66, 73, -100, -4, 97, 73, -84, 100), [4]int{10000000, 824201, -1638234, -2502917}},
	{point(96, 95, -98, -48, -25, 99, -99, -99), point(98, 99, 97, 1, -2, 98, 98, 97), point(100, 76, -71, -47, 8, 75, -88, -99), point(100, 98, 100, 22, 30, 98, 90, 64), [4]int{10000002, -1762980, -218444, 3466838}},
	{point(99, 100, 100, 70, -100, 100, -87, 99), point(-100, 99, -100, -1, -99, 99, -100, -99), point(100, 84, 57, 33, -84, 94, -87, 100), point(-86, 84, -94, 0, -76, 100, -69, -73), [4]int{-10000000, 3514500, -3918042, 1577782}},
	{point(100, 76, -97, 99, -100, 99, -98, 98), point(-99, 99, -98, 99, -1, 2, -98, -99), point(100, 44, -98, 100, -93, 84, -100, 100), point(-99, 70, -72, 99, 20, 28, -98, -74), [4]int{-10000002, 3926870, -3401624, 3083052}},
	{point(90, 95, -97, 100, 98, 97, -100, 97), point(-98, -99, -98, 100, 2, -97, 97, 99), point(52, 75, -68, 100, 96, 99, -100, 100), point(-84, -98, -68, 76, -15, -100, 97, 100), [4]int{4887428, 10000000, -749956, -1696270}},
	{point(34, -68, -95, 94, 100, -100, -97, 11), point(-96, -95, 95, 99, -94, -99, 97, 95), point(42, -69, -87, 94, 71, -98, -100, 11), point(-46, -96, 90, 99, -62, -84, 100, 59), [4]int{-2917904, 10000001, 967892, -6354299}},
	{point(-95, -99, 98, -98, -98, -98, 99, -99), point(-96, -98, -96, 98, 2, -97, 98, 100), point(-85, -63, 79, -66, -100, -98, 81, -73), point(-96, -91, -91, 81, -8, -97, 98, 96), [4]int{-5118100, -10000000, 801768, 1697416}},
	{point(-91, -93, 88, 84, -86, -89, 87, 80), point(85, -89, -91, 86, 93, -84, -84, 90), point(-100, -55, 88, 84, -94, -89, 67, 37), point(68, -78, -100, 71, 100, -30, -88, 60), [4]int{-186142, -10000001, -36968, 6022373}},
}

func gauss(re int, im int) impl.Cyc {
	return point(re, 0, 0, 0, 0, 0, im)
}

// corners returns a polygon of Gaussian numbers, of which both parts are told in turn.
func corners(parts ...int) []impl.Cyc {
	var list []impl.Cyc
	for i := 0; i < len(parts); i += 2 {
		list = append(list, gauss(parts[i], parts[i+1]))
	}
	return list
}

func plus(a impl.Cyc, b impl.Cyc) impl.Cyc {
	return impl.Cyc{C: sumByHand(a.C, b.C, 1)}
}

// alternating returns n corners that go over two points and their opposites, so that all crosses are the same.
func alternating(a impl.Cyc, b impl.Cyc, n int) []impl.Cyc {
	var list []impl.Cyc
	for k := range n {
		list = append(list, []impl.Cyc{a, b, opposite(a), opposite(b)}[k%4])
	}
	return list
}

// edgeArea returns the polygon of a case of edgeAreas.
func edgeArea(i int) []impl.Cyc {
	c := edgeAreas[i]
	list := alternating(c.a, c.b, 44)
	list[0], list[1] = c.first, c.second
	return list
}

// wideTurns returns a polygon of 35 corners that go round to the left, by as much as they can, and of 13 that go back.
// The sum of its crosses is beyond on the way, but not at last.
func wideTurns() []impl.Cyc {
	left := alternating(point(-100, -100, 100, 100, -100, -100, 100, 100), point(-100, 100, 100, -100, -100, 100, 100, -100), 35)
	back := slices.Clone(left[22:])
	slices.Reverse(back)
	return slices.Concat(left, back)
}

// turnedList turns all corners, which keeps areas, bends, turns and windings.
func turnedList(list []impl.Cyc, turn int) []impl.Cyc {
	var turned []impl.Cyc
	for _, a := range list {
		turned = append(turned, impl.Cyc{C: turnedByHand(a.C, turn)})
	}
	return turned
}

// scaledList returns a polygon a whole number of times as great.
func scaledList(list []impl.Cyc, n int) []impl.Cyc {
	var scaled []impl.Cyc
	for _, a := range list {
		scaled = append(scaled, impl.Cyc{C: sumByHand([8]int{}, a.C, n)})
	}
	return scaled
}

// beginning returns the polygon that begins with another corner.
func beginning(list []impl.Cyc, first int) []impl.Cyc {
	return slices.Concat(list[first:], list[:first])
}

func backByHand(list []impl.Cyc) []impl.Cyc {
	var back []impl.Cyc
	for _, a := range list {
		back = append([]impl.Cyc{a}, back...)
	}
	return back
}

func withinByHand(a impl.Cyc, most int) bool {
	return slices.Max(a.C[:]) <= most && slices.Min(a.C[:]) >= -most
}

func polygonByHand(list []impl.Cyc) bool {
	tooFar := func(a impl.Cyc) bool { return !withinByHand(a, mostCorner) }
	return len(list) >= 1 && len(list) <= mostCorners && !slices.ContainsFunc(list, tooFar)
}

// crossByHand adds, for each pair of powers, the sine of the angle between them.
func crossByHand(a [8]int, b [8]int) [4]int {
	var sum [4]int
	for i, m := range a {
		for k, n := range b {
			sum = fourSum(sum, realPartsByHand[(k-i-steps/4+steps)%steps], m*n)
		}
	}
	return sum
}

// cornerAt returns the corner with an index, beyond the ends from the other end on.
func cornerAt(list []impl.Cyc, k int) impl.Cyc {
	return list[(k+len(list))%len(list)]
}

// stepAt returns the step from the corner with an index.
func stepAt(list []impl.Cyc, k int) [8]int {
	return sumByHand(cornerAt(list, k+1).C, cornerAt(list, k).C, -1)
}

func areaByHand(list []impl.Cyc) [4]int {
	var sum [4]int
	for k := range list {
		sum = fourSum(sum, crossByHand(list[k].C, cornerAt(list, k+1).C), 1)
	}
	return sum
}

func bendsByHand(list []impl.Cyc) []int {
	var bends []int
	for k := range list {
		bends = append(bends, signByHand(crossByHand(stepAt(list, k-1), stepAt(list, k))))
	}
	return bends
}

// signsByHand returns the signs of both parts of a point.
func signsByHand(a [8]int) [2]int {
	return [2]int{signByHand(reByHand(a, 0)), signByHand(reByHand(a, steps/4))}
}

// betweenByHand reports whether 0 is on the line from a point to another one: they are on one line with it, and not both on one side.
func betweenByHand(a [8]int, b [8]int) bool {
	if crossByHand(a, b) != [4]int{} {
		return false
	}
	first, second := signsByHand(a), signsByHand(b)
	return first[0]*second[0] <= 0 && first[1]*second[1] <= 0
}

// angleByHand returns the angle from a point to another one, seen from 0. Its size is that of floats, which do not tell small signs.
func angleByHand(a [8]int, b [8]int) float64 {
	turned := cmplx.Conj(value(impl.Cyc{C: a})) * value(impl.Cyc{C: b})
	return math.Abs(cmplx.Phase(turned)) * float64(signByHand(crossByHand(a, b)))
}

// roundByHand returns how many whole turns to the left there are from point to point and back to the first one.
// It fails if 0 is on the line from one to the next one.
func roundByHand(list [][8]int) (int, bool) {
	sum := 0.0
	for k := range list {
		next := list[(k+1)%len(list)]
		if betweenByHand(list[k], next) {
			return 0, false
		}
		sum += angleByHand(list[k], next)
	}
	return int(math.Round(sum / (2 * math.Pi))), true
}

func turnsByHand(list []impl.Cyc) (int, bool) {
	var all [][8]int
	for k := range list {
		all = append(all, stepAt(list, k))
	}
	return roundByHand(all)
}

// upperByHand reports whether a step goes above the real line, or along it to the right.
func upperByHand(step [8]int) bool {
	signs := signsByHand(step)
	return signs[1] > 0 || signs[1] == 0 && signs[0] > 0
}

// countedTurns counts as the document does, where the steps do not go back: the bends that pass the direction to the right.
func countedTurns(list []impl.Cyc) int {
	count := 0
	for k, bend := range bendsByHand(list) {
		from, to := upperByHand(stepAt(list, k-1)), upperByHand(stepAt(list, k))
		if bend == 1 && !from && to {
			count++
		}
		if bend == -1 && from && !to {
			count--
		}
	}
	return count
}

func windingByHand(list []impl.Cyc, c impl.Cyc) (int, bool) {
	var all [][8]int
	for _, a := range list {
		all = append(all, sumByHand(a.C, c.C, -1))
	}
	return roundByHand(all)
}

func convexByHand(list []impl.Cyc) bool {
	turns, ok := turnsByHand(list)
	other := func(bend int) bool { return bend != turns }
	return ok && len(list) >= 3 && !slices.ContainsFunc(bendsByHand(list), other)
}

// starOfRoots returns the polygon, regular or a star, that goes from root to root, so many turns apart.
func starOfRoots(apart int) []impl.Cyc {
	turns := []int{0}
	for turn := apart; turn != 0; turn = (turn + apart) % steps {
		turns = append(turns, turn)
	}
	return scaledList(rootsAt(turns...), 7)
}

// starsOfRoots returns all regular polygons and stars of roots, once, twice, and the way that goes forth and back.
func starsOfRoots() [][]impl.Cyc {
	var list [][]impl.Cyc
	for apart := 1; apart < steps; apart++ {
		star := starOfRoots(apart)
		list = append(list, star, slices.Repeat(star, 2), slices.Concat(star, backByHand(star)))
	}
	return list
}

// strangePolygons returns polygons with corners that are the same, straight corners, steps forth and back, and sides that cross.
func strangePolygons() [][]impl.Cyc {
	onward := impl.Cyc{C: productByHand(point(2, 3).C, realPoint(0, 1, 0, 0).C)}
	return [][]impl.Cyc{
		corners(0, 0), corners(3, -4), corners(0, 0, 0, 0), corners(5, 5, 5, 5, 5, 5), alike(mostCorners, gauss(-1, 2)),
		corners(0, 0, 4, 0), corners(1, 1, 3, 5), corners(0, 0, 2, 0, 5, 0), corners(0, 0, 5, 0, 2, 0), corners(0, 0, 2, 0, 5, 0, 2, 0),
		corners(0, 0, 4, 0, 0, 0, 0, 4), corners(0, 0, 4, 0, 0, 0, -4, 0), corners(0, 0, 4, 4, 0, 0, -3, -3, 0, 0, 2, -2),
		corners(0, 0, 2, 0, 2, 2, 0, 2), corners(0, 0, 1, 0, 2, 0, 2, 1, 2, 2, 1, 2, 0, 2, 0, 1),
		corners(0, 0, 0, 0, 2, 0, 2, 2, 0, 2), corners(0, 0, 2, 0, 2, 0, 2, 2, 0, 2), corners(0, 0, 2, 0, 2, 2, 0, 2, 0, 0),
		corners(0, 0, 2, 0, 2, 2, 0, 2, 0, 0, 2, 0, 2, 2, 0, 2), corners(0, 0, 2, 0, 2, 2, 0, 2, 0, 0, 0, 2, 2, 2, 2, 0),
		corners(0, 0, 4, 4, 4, 0, 0, 4), corners(0, 0, 3, 3, 3, -3, -3, 3, -3, -3), corners(0, 0, 2, 0, 1, 0, 1, 1), corners(0, 0, 4, 0, 2, 0, 2, 5),
		corners(0, 0, 6, 0, 6, 2, 2, 2, 2, 4, 6, 4, 6, 6, 0, 6), corners(0, 0, 6, 0, 6, 6, 1, 6, 1, 1, 5, 1, 5, 5, 2, 5, 2, 2, 4, 2, 4, 4, 0, 4),
		corners(0, 0, 2, 2, 4, 0, 6, 2, 8, 0, 8, 4, 0, 4), corners(-4, 0, 0, -4, 4, 0, 0, 4, -4, 0, 0, -3, 3, 0, 0, 3),
		corners(0, 0, 6, 0, 6, 6, 2, 6, 2, 2, 8, 2, 8, 8, 0, 8),
		corners(-100, -100, 100, -100, 100, 100, -100, 100), corners(100, 100, -100, 100, -100, -100),
		{point(0, 0, 100), point(0, 0, 0, 0, 0, 0, 0, -100), point(0, 100, 100)},
		{point(100, 100, 100, 100, 100, 100, 100, 100), point(-100, -100, -100, -100, -100, -100, -100, -100), point(100, -100, 100, -100, 100, -100, 100, -100)},
		alternating(point(100), point(0, 0, 0, 0, 0, 0, 100), mostCorners),
		// One step is the root of 2 times another one, or less by it: they are straight, or go back, and no whole numbers tell so.
		{point(), point(2, 3), onward},
		{point(), point(2, 3), onward, plus(onward, gauss(0, 1))},
		{point(), onward, point(2, 3), plus(onward, gauss(0, 1))},
		{onward, point(), opposite(point(2, 3)), gauss(7, 0)},
		{point(), point(1), realPoint(1, 1, 0, 0), realPoint(1, 1, 1, 0), plus(realPoint(1, 1, 1, 0), gauss(0, 1))},
		wideTurns(), edgeArea(0), edgeArea(1), edgeArea(4), edgeArea(5),
	}
}

// nearPolygons returns polygons that bend as little as nearSteps do, and those of which a side is as near to 0.
func nearPolygons() [][]impl.Cyc {
	var list [][]impl.Cyc
	for _, near := range nearSteps {
		begin := opposite(near.to)
		list = append(list,
			[]impl.Cyc{begin, point(), near.from},
			[]impl.Cyc{begin, near.from, impl.Cyc{C: turnedByHand(near.to.C, 7)}},
			[]impl.Cyc{begin, near.from, impl.Cyc{C: turnedByHand(near.to.C, 17)}},
			[]impl.Cyc{begin, near.from},
		)
	}
	return slices.DeleteFunc(list, func(polygon []impl.Cyc) bool { return !polygonByHand(polygon) })
}

// randomPolygon returns a polygon with coefficients of a size of at most a number of those powers whose distance is told; others are 0.
func randomPolygon(source *rand.Rand, n int, most int, apart int) []impl.Cyc {
	list := randomRow(source, n, most, 0)
	for i := range list {
		for k := range list[i].C {
			if k%apart != 0 {
				list[i].C[k] = 0
			}
		}
	}
	return list
}

// polygons returns the polygons that this chapter is tested with, the same ones each time.
func polygons() [][]impl.Cyc {
	list := slices.Concat(strangePolygons(), starsOfRoots(), nearPolygons())
	for _, d := range [][]impl.Wheel{wheelsOf(1, -1), wheelsOf(1, -2), design(wheel(1, 2), wheel(-3, 1)), design(wheel(1, 1), wheel(4, 2)), design(wheel(2, 1), rootWheel(5, 3), wheel(-1, 4))} {
		row, _ := impl.RowOf(d, steps)
		list = append(list, row)
	}
	source := rand.New(rand.NewPCG(8, 48))
	for n := 1; n <= 12; n++ {
		for _, apart := range []int{1, 2, 3, 4, 6, 7} {
			for _, most := range []int{1, 2, 9, mostCorner} {
				list = append(list, randomPolygon(source, n, most, apart))
			}
		}
	}
	for _, n := range []int{47, mostCorners} {
		list = append(list, randomPolygon(source, n, 1, 6), randomPolygon(source, n, 3, 4), randomPolygon(source, n, 20, 1), randomPolygon(source, n, mostCorner, 1))
	}
	return list
}

// noPolygons returns lists with too many points, with none, and with a coefficient beyond in each place.
func noPolygons() [][]impl.Cyc {
	square := corners(0, 0, 2, 0, 2, 2, 0, 2)
	list := [][]impl.Cyc{nil, {}, make([]impl.Cyc, mostCorners+1), alike(mostCorners+1, point(1)), slices.Repeat(square, 13), make([]impl.Cyc, 96), make([]impl.Cyc, 257)}
	for k := range 8 {
		for _, c := range beyondCorners {
			none := only(k, c)
			list = append(list, []impl.Cyc{none}, []impl.Cyc{none, none, none})
			for i := range square {
				changed := slices.Clone(square)
				changed[i].C[k] = c
				list = append(list, changed)
			}
		}
	}
	for i := range mostCorners {
		list = append(list, onlyAt(mostCorners, i, only(i%8, 101)))
	}
	return list
}

// seenPoints returns points inside and outside a polygon, on its sides, at its corners, and at their heights.
func seenPoints(list []impl.Cyc, source *rand.Rand) []impl.Cyc {
	seen := []impl.Cyc{point(), point(1), gauss(1, 1), gauss(mostCorner, 0), only(source.IntN(8), -mostCorner), randomPoint(source, 2, 0), randomPoint(source, mostCorner, 0)}
	for k := range min(len(list), 8) {
		corner, next := list[k], cornerAt(list, k+1)
		middle := sumByHand(corner.C, next.C, 1)
		for i := range middle {
			middle[i] /= 2
		}
		seen = append(seen, corner, impl.Cyc{C: middle}, plus(impl.Cyc{C: middle}, point(0, source.IntN(3)-1)))
		for _, aside := range []int{-9, -3, -1, 1, 3, 9} {
			seen = append(seen, plus(corner, point(aside)))
		}
		seen = append(seen, plus(corner, point(0, 1)), plus(corner, realPoint(0, 1, 0, 0)), plus(corner, only(source.IntN(8), source.IntN(5)-2)))
	}
	return slices.DeleteFunc(seen, func(c impl.Cyc) bool { return !withinByHand(c, mostCorner) })
}

func wantHolds(t *testing.T, what string, got bool, want bool) {
	t.Helper()
	if got != want {
		t.Errorf("%s returned %t", what, got)
	}
}

func namedPolygon(name string, list []impl.Cyc, c impl.Cyc) string {
	return namedPoints(namedRows(name, list)+" at", c)
}

func TestPolyValidTold(t *testing.T) {
	for _, list := range polygons() {
		wantHolds(t, namedRows("PolyValid", list), impl.PolyValid(list), true)
	}
	for n := range 60 {
		wantHolds(t, named("PolyValid of so many points", n), impl.PolyValid(make([]impl.Cyc, n)), n >= 1 && n <= 48)
	}
	for k := range 8 {
		for c := -110; c <= 110; c++ {
			for _, list := range [][]impl.Cyc{{only(k, c)}, {point(), only(k, c)}, {only(k, c), point(), point(5, 5, 5)}} {
				wantHolds(t, namedRows("PolyValid", list), impl.PolyValid(list), c >= -100 && c <= 100)
			}
		}
	}
	for _, list := range noPolygons() {
		wantHolds(t, namedRows("PolyValid", list), impl.PolyValid(list), false)
	}
}

func TestPolyValidPromise(t *testing.T) {
	for _, list := range polygons() {
		back, ok := impl.PolyBack(list)
		again, againOK := impl.PolyBack(back)
		wantRow(t, namedRows("PolyBack of PolyBack of", list), again, ok && againOK, list, true)
		for _, corner := range list {
			wantHolds(t, namedPolygon("PolyOn", list, corner), impl.PolyOn(list, corner), true)
		}
	}
}

func TestPolyCrossTold(t *testing.T) {
	cases := []struct {
		a, b impl.Cyc
		want impl.Surd
		ok   bool
	}{
		{point(), point(), surd(), true},
		{point(), point(1000, -1000), surd(), true},
		{point(1), point(1), surd(), true},
		{point(1), point(-7), surd(), true},
		{point(1), gauss(0, 1), surd(4), true},
		{gauss(0, 1), point(1), surd(-4), true},
		{gauss(2, 3), gauss(5, 7), surd(-4), true},
		{gauss(5, 7), gauss(2, 3), surd(4), true},
		{point(1), point(0, 1), surd(0, -1, 0, 1), true},
		{point(1), point(0, 0, 1), surd(2), true},
		{point(1), point(0, 0, 0, 1), surd(0, 2), true},
		{point(1), point(0, 0, 0, 0, 1), surd(0, 0, 2), true},
		{point(1), point(0, 0, 0, 0, 0, 1), surd(0, 1, 0, 1), true},
		{point(1), point(0, 0, 0, 0, 0, 0, 0, 1), surd(0, 1, 0, 1), true},
		{point(0, 0, 0, 0, 0, 0, 0, 1), point(0, 1), surd(-4), true},
		{point(0, 0, 0, 1), point(0, 0, 1), surd(0, 1, 0, -1), true},
		{point(1, 1), realPoint(0, 1, 0, 0), surd(2, 0, -2), true},
		{gauss(1000, 0), gauss(-1000, 1000), surd(4000000), true},
		{gauss(1000, 1000), gauss(-1000, 1000), surd(8000000), true},
		{gauss(-1000, 1000), gauss(1000, 1000), surd(-8000000), true},
		// The product of both is no valid point, nor its real part a valid surd; the cross alone is asked.
		{gauss(1000, 1000), gauss(1000, 1000), surd(), true},
		{point(1000, 1000, 1000, 1000, 1000, 1000, 1000, 1000), point(1000, 1000, 1000, 1000, 1000, 1000, 1000, 1000), surd(), true},
		{point(1000, 1000, 1000, 1000, 1000, 1000, 1000, 1000), point(-999, -999, -999, -999, -999, -999, -999, -999), surd(), true},
		{point(1000, 1000, 1000, 1000, 1000, 1000, 1000, 1000), point(-1000, -1000, 0, 0, 0, 0, 1000, 1000), surd(), false},
		{gauss(1000, 0), gauss(0, 1001), surd(), false},
		{gauss(1001, 0), gauss(0, 1000), surd(), false},
		{gauss(-1001, 0), point(), surd(), false},
		{point(), gauss(0, -1001), surd(), false},
	}
	for _, c := range cases {
		got, ok := impl.PolyCross(c.a, c.b)
		wantSurd(t, namedPoints("PolyCross", c.a, c.b), got, ok, c.want, c.ok)
	}
}

// TestPolyCrossEdges takes crosses of which one number is at the end of its range, or the next one beyond.
func TestPolyCrossEdges(t *testing.T) {
	told := map[bool]int{}
	for _, c := range edgeCrosses {
		got, ok := impl.PolyCross(c.a, c.b)
		wantSurdTold(t, namedPoints("PolyCross", c.a, c.b), got, ok, c.cross)
		got, ok = impl.PolyCross(c.b, c.a)
		wantSurdTold(t, namedPoints("PolyCross", c.b, c.a), got, ok, fourSum([4]int{}, c.cross, -1))
		told[ok]++
	}
	if told[true] != 9 || told[false] != 9 {
		t.Errorf("%d of these crosses are told, and %d are not", told[true], told[false])
	}
}

// crossedPoints returns points with coefficients of all sizes up to 1000.
func crossedPoints() []impl.Cyc {
	list := []impl.Cyc{{}, point(1, 2, 3, 4, 5, 6, 7, 8)}
	for _, root := range rootsByHand {
		list = append(list, impl.Cyc{C: root})
	}
	for k := range 8 {
		list = append(list, only(k, mostCrossed), only(k, -mostCrossed), only(k, 999))
	}
	for _, near := range nearSteps {
		list = append(list, near.to, near.from)
	}
	for _, edge := range edgeCrosses {
		list = append(list, edge.a, edge.b)
	}
	source := rand.New(rand.NewPCG(8, 65))
	for _, most := range []int{1, 3, 30, 200, 500, 800, mostCrossed} {
		for range 6 {
			list = append(list, randomPoint(source, most, 0), randomPoint(source, most, 5))
		}
	}
	return list
}

func TestPolyCrossPromise(t *testing.T) {
	told := map[bool]int{}
	for _, a := range crossedPoints() {
		for _, b := range crossedPoints() {
			what := namedPoints("PolyCross", a, b)
			got, ok := impl.PolyCross(a, b)
			wantSurdTold(t, what, got, ok, crossByHand(a.C, b.C))
			exchanged, exchangedOK := impl.PolyCross(b, a)
			wantSurd(t, what+" exchanged", exchanged, exchangedOK, oppositeSurd(got), ok)
			told[ok]++
		}
		same, ok := impl.PolyCross(a, a)
		wantSurd(t, namedPoints("PolyCross with itself of", a), same, ok, impl.Surd{}, true)
	}
	if told[true] < 5000 || told[false] < 50 {
		t.Errorf("%d crosses are told, and %d are not", told[true], told[false])
	}
}

func TestPolyCrossFails(t *testing.T) {
	for k := range 8 {
		for _, c := range beyondCrossed {
			for _, other := range []impl.Cyc{point(), point(1), only(k, 1), only(k, c), point(1, 2, 3, 4, 5, 6, 7, 8)} {
				got, ok := impl.PolyCross(only(k, c), other)
				wantSurd(t, namedPoints("PolyCross", only(k, c), other), got, ok, impl.Surd{}, false)
				got, ok = impl.PolyCross(other, only(k, c))
				wantSurd(t, namedPoints("PolyCross", other, only(k, c)), got, ok, impl.Surd{}, false)
			}
		}
	}
}

func TestPolyAreaTold(t *testing.T) {
	cases := []struct {
		list []impl.Cyc
		want impl.Surd
	}{
		{corners(3, 4), surd()},
		{corners(3, 4, 5, 6), surd()},
		{corners(3, 4, 3, 4, 3, 4), surd()},
		{corners(0, 0, 2, 0, 5, 0), surd()},
		{corners(0, 0, 1, 0, 0, 1), surd(4)},
		{corners(0, 1, 1, 0, 0, 0), surd(-4)},
		{corners(7, 7, 8, 7, 7, 8), surd(4)},
		{corners(0, 0, 2, 0, 2, 2, 0, 2), surd(32)},
		{corners(0, 0, 0, 2, 2, 2, 2, 0), surd(-32)},
		{corners(0, 0, 2, 0, 2, 0, 2, 2, 0, 2, 0, 2), surd(32)},
		{corners(0, 0, 2, 0, 2, 2, 0, 2, 0, 0, 2, 0, 2, 2, 0, 2), surd(64)},
		{corners(0, 0, 2, 0, 2, 2, 0, 2, 0, 0, 0, 2, 2, 2, 2, 0), surd()},
		{corners(0, 0, 4, 4, 4, 0, 0, 4), surd()},
		{corners(0, 0, 4, 4, 4, 0, 0, 6), surd(32)},
		{corners(0, 0, 6, 0, 6, 2, 2, 2, 2, 4, 6, 4, 6, 6, 0, 6), surd(224)},
		// 4 steps have the same cross as 8 steps: there are two of them, and one back.
		{rootsAt(0, 4, 8), surd(0, 0, 2)},
		{rootsAt(0, 4, 8, 12, 16, 20), surd(0, 0, 12)},
		{rootsAt(0, 3, 6, 9, 12, 15, 18, 21), surd(0, 16)},
		{rootsAt(0, 2, 4, 6, 8, 10, 12, 14, 16, 18, 20, 22), surd(24)},
		{rootsAt(0, 5, 10), surd(-2, 2, 0, 2)},
		{rootsAt(0, 8, 16), surd(0, 0, 6)},
		{rootsAt(0, 16, 8), surd(0, 0, -6)},
	}
	for _, c := range cases {
		got, ok := impl.PolyArea(c.list)
		wantSurd(t, namedRows("PolyArea", c.list), got, ok, c.want, true)
	}
}

// TestPolyAreaEdges takes areas of which one number is at the end of its range, or the next one beyond, and a sum that is beyond on the way alone.
func TestPolyAreaEdges(t *testing.T) {
	told := map[bool]int{}
	for i, c := range edgeAreas {
		list := edgeArea(i)
		for first := range list {
			got, ok := impl.PolyArea(beginning(list, first))
			wantSurdTold(t, namedRows("PolyArea", list), got, ok, c.area)
			told[ok]++
		}
	}
	if told[true] != told[false] {
		t.Errorf("%d of these areas are told, and %d are not", told[true], told[false])
	}
	wide := wideTurns()
	for first := range wide {
		got, ok := impl.PolyArea(beginning(wide, first))
		wantSurd(t, namedRows("PolyArea", wide), got, ok, surd(0, 6600000, 0, -3960000), true)
	}
	got, ok := impl.PolyArea(slices.Concat(wide[:35], wide[:1]))
	wantSurd(t, namedRows("PolyArea", wide[:35]), got, ok, impl.Surd{}, false)
}

func TestPolyAreaPromise(t *testing.T) {
	told := map[int]int{}
	for _, list := range polygons() {
		what := namedRows("PolyArea", list)
		got, ok := impl.PolyArea(list)
		wantSurdTold(t, what, got, ok, areaByHand(list))
		back, backOK := impl.PolyArea(backByHand(list))
		wantSurd(t, what+" back", back, backOK, oppositeSurd(got), ok)
		next, nextOK := impl.PolyArea(beginning(list, 1))
		wantSurd(t, what+" from the next corner on", next, nextOK, got, ok)
		told[signByHand(numbersOf(got))]++
	}
	if told[-1] < 100 || told[0] < 50 || told[1] < 100 {
		t.Errorf("there are %d areas below 0, %d of 0 and %d above", told[-1], told[0], told[1])
	}
}

func TestPolyBendsTold(t *testing.T) {
	cases := []struct {
		list []impl.Cyc
		want []int
	}{
		{corners(3, 4), []int{0}},
		{corners(3, 4, 5, 6), []int{0, 0}},
		{corners(3, 4, 3, 4), []int{0, 0}},
		{corners(0, 0, 0, 0, 0, 0), []int{0, 0, 0}},
		{corners(0, 0, 1, 0, 0, 1), []int{1, 1, 1}},
		{corners(0, 0, 0, 1, 1, 0), []int{-1, -1, -1}},
		{corners(0, 0, 2, 0, 5, 0), []int{0, 0, 0}},
		{corners(0, 0, 5, 0, 2, 0, 2, 2), []int{1, 0, -1, 1}},
		{corners(0, 0, 2, 0, 2, 2, 0, 2), []int{1, 1, 1, 1}},
		{corners(0, 0, 1, 0, 2, 0, 2, 2, 0, 2), []int{1, 0, 1, 1, 1}},
		{corners(1, 0, 2, 0, 2, 2, 0, 2, 0, 0), []int{0, 1, 1, 1, 1}},
		{corners(0, 0, 2, 0, 2, 0, 2, 2, 0, 2), []int{1, 0, 0, 1, 1}},
		{corners(0, 0, 2, 0, 2, 2, 0, 2, 0, 0), []int{0, 1, 1, 1, 0}},
		{corners(0, 0, 2, 0, 0, 0, 0, 2), []int{1, 0, -1, 0}},
		{corners(0, 0, 4, 4, 4, 0, 0, 4), []int{1, -1, -1, 1}},
		{corners(0, 0, 6, 0, 6, 2, 2, 2, 2, 4, 6, 4, 6, 6, 0, 6), []int{1, 1, 1, -1, -1, 1, 1, 1}},
		{rootsAt(0, 9, 18, 3, 12, 21, 6, 15), []int{1, 1, 1, 1, 1, 1, 1, 1}},
		{rootsAt(0, 15, 6, 21, 12, 3, 18, 9), []int{-1, -1, -1, -1, -1, -1, -1, -1}},
		{rootsAt(0, 8, 16, 0, 16, 8), []int{0, 1, 1, 0, -1, -1}},
		{[]impl.Cyc{point(), point(1), realPoint(1, 1, 0, 0), plus(realPoint(1, 1, 0, 0), point(0, 1))}, []int{1, 0, 1, 1}},
	}
	for _, c := range cases {
		got, ok := impl.PolyBends(c.list)
		wantTurns(t, namedRows("PolyBends", c.list), got, ok, c.want, true)
	}
}

// TestPolyBendsNear takes steps of which floats do not tell how they bend.
func TestPolyBendsNear(t *testing.T) {
	for _, near := range nearSteps {
		list := []impl.Cyc{opposite(near.to), point(), near.from}
		got, ok := impl.PolyBends(list)
		wantTurns(t, namedRows("PolyBends", list), got, ok, []int{near.bend, near.bend, near.bend}, true)
		// The steps are opposite but for as little, with the opposite bend.
		list[2] = opposite(near.from)
		got, ok = impl.PolyBends(list)
		wantTurns(t, namedRows("PolyBends", list), got, ok, []int{-near.bend, -near.bend, -near.bend}, true)
		turns, ok := impl.PolyTurns(list)
		wantNumber(t, namedRows("PolyTurns", list), turns, ok, -near.bend, true)
	}
}

func TestPolyBendsPromise(t *testing.T) {
	count := map[int]int{}
	for _, list := range polygons() {
		what := namedRows("PolyBends", list)
		got, ok := impl.PolyBends(list)
		wantTurns(t, what, got, ok, bendsByHand(list), true)
		back, backOK := impl.PolyBends(backByHand(list))
		var want []int
		for _, bend := range got {
			count[bend]++
			want = append([]int{-bend}, want...)
		}
		wantTurns(t, what+" back", back, backOK, want, true)
	}
	if count[-1] < 500 || count[0] < 500 || count[1] < 500 {
		t.Errorf("there are %d bends of -1, %d of 0 and %d of 1", count[-1], count[0], count[1])
	}
}

func TestPolyConvexTold(t *testing.T) {
	cases := []struct {
		list []impl.Cyc
		want bool
	}{
		{corners(3, 4), false},
		{corners(3, 4, 5, 6), false},
		{corners(3, 4, 3, 4, 3, 4), false},
		{corners(0, 0, 2, 0, 5, 0), false},
		{corners(0, 0, 1, 0, 0, 1), true},
		{corners(0, 0, 0, 1, 1, 0), true},
		{corners(0, 0, 2, 0, 2, 2, 0, 2), true},
		{corners(0, 0, 0, 2, 2, 2, 2, 0), true},
		{corners(0, 0, 1, 0, 2, 0, 2, 2, 0, 2), false},
		{corners(0, 0, 2, 0, 2, 0, 2, 2, 0, 2), false},
		{corners(0, 0, 2, 0, 2, 2, 0, 2, 0, 0), false},
		{corners(0, 0, 4, 0, 1, 1, 0, 4), false},
		{corners(0, 0, 4, 4, 4, 0, 0, 4), false},
		{corners(0, 0, 2, 0, 2, 2, 0, 2, 0, 0, 2, 0, 2, 2, 0, 2), false},
		{corners(0, 0, 0, 2, 2, 2, 2, 0, 0, 0, 0, 2, 2, 2, 2, 0), false},
		{rootsAt(0, 4, 8, 12, 16, 20), true},
		{rootsAt(20, 16, 12, 8, 4, 0), true},
		{rootsAt(0, 1, 2, 3, 4, 5, 6, 7, 8, 9, 10, 11, 12, 13, 14, 15, 16, 17, 18, 19, 20, 21, 22, 23), true},
		{rootsAt(0, 1, 2, 3, 4, 5, 6, 7, 8, 9, 10, 11, 12, 13, 14, 15, 16, 17, 18, 19, 20, 22, 21, 23), false},
		{rootsAt(0, 9, 18, 3, 12, 21, 6, 15), false},
		{rootsAt(0, 15, 6, 21, 12, 3, 18, 9), false},
		{rootsAt(0, 1, 5), true},
		{rootsAt(0, 5, 1), true},
	}
	for _, c := range cases {
		for first := range c.list {
			list := beginning(c.list, first)
			wantHolds(t, namedRows("PolyConvex", list), impl.PolyConvex(list), c.want)
		}
	}
	for _, near := range nearSteps {
		list := []impl.Cyc{opposite(near.to), point(), near.from}
		wantHolds(t, namedRows("PolyConvex", list), impl.PolyConvex(list), true)
	}
}

// TestPolyConvexStars takes all regular stars: all bends are the same, but those alone that go round once are convex.
func TestPolyConvexStars(t *testing.T) {
	convex := 0
	for apart := 1; apart < steps; apart++ {
		list := starOfRoots(apart)
		if apart == steps/2 {
			wantHolds(t, namedRows("PolyConvex", list), impl.PolyConvex(list), false)
			continue
		}
		bend, rounds := 1, len(list)*apart/steps
		if apart > steps/2 {
			bend, rounds = -1, rounds-len(list)
		}
		bends, ok := impl.PolyBends(list)
		wantTurns(t, namedRows("PolyBends", list), bends, ok, slices.Repeat([]int{bend}, len(list)), true)
		turns, ok := impl.PolyTurns(list)
		wantNumber(t, namedRows("PolyTurns", list), turns, ok, rounds, true)
		wantHolds(t, namedRows("PolyConvex", list), impl.PolyConvex(list), rounds == bend)
		if rounds == bend {
			convex++
		}
	}
	if convex != 12 {
		t.Errorf("%d stars are convex", convex)
	}
}

func TestPolyConvexPromise(t *testing.T) {
	convex := 0
	for _, list := range polygons() {
		what := namedRows("PolyConvex", list)
		got := impl.PolyConvex(list)
		wantHolds(t, what, got, convexByHand(list))
		wantHolds(t, what+" back", impl.PolyConvex(backByHand(list)), got)
		if !got {
			continue
		}
		convex++
		bends, _ := impl.PolyBends(list)
		if area, ok := impl.PolyArea(list); ok {
			sign, signOK := impl.SurdSign(area)
			wantSign(t, what+" with the area", sign, signOK, bends[0], true)
		}
	}
	if convex < 80 {
		t.Errorf("%d polygons are convex", convex)
	}
}

func TestPolyTurnsTold(t *testing.T) {
	cases := []struct {
		list []impl.Cyc
		want int
		ok   bool
	}{
		{corners(3, 4), 0, false},
		{corners(3, 4, 5, 6), 0, false},
		{corners(3, 4, 3, 4, 3, 4), 0, false},
		{corners(0, 0, 2, 0, 5, 0), 0, false},
		{corners(0, 0, 0, 2, 0, 5), 0, false},
		{corners(0, 0, 1, 0, 0, 1), 1, true},
		{corners(0, 0, 0, 1, 1, 0), -1, true},
		{corners(0, 0, 2, 0, 2, 2, 0, 2), 1, true},
		{corners(0, 0, 0, 2, 2, 2, 2, 0), -1, true},
		{corners(0, -2, 2, 0, 0, 2, -2, 0), 1, true},
		{corners(0, 0, 1, 0, 2, 0, 2, 1, 2, 2, 1, 2, 0, 2, 0, 1), 1, true},
		{corners(0, 0, 4, 4, 4, 0, 0, 4), 0, true},
		{corners(0, 0, 4, 0, 0, 4, 4, 4), 0, true},
		{corners(0, 0, 2, 0, 2, 2, 0, 2, 0, 0, 2, 0, 2, 2, 0, 2), 2, true},
		{corners(0, 0, 6, 0, 6, 2, 2, 2, 2, 4, 6, 4, 6, 6, 0, 6), 1, true},
		{corners(0, 0, 6, 0, 6, 6, 2, 6, 2, 2, 8, 2, 8, 8, 0, 8), 2, true},
		// A corner that follows itself, at the beginning, inside and at the end.
		{corners(0, 0, 0, 0, 2, 0, 2, 2, 0, 2), 0, false},
		{corners(0, 0, 2, 0, 2, 0, 2, 2, 0, 2), 0, false},
		{corners(0, 0, 2, 0, 2, 2, 0, 2, 0, 2), 0, false},
		{corners(0, 0, 2, 0, 2, 2, 0, 2, 0, 0), 0, false},
		// The same corner elsewhere is no step of 0.
		{corners(0, 0, 2, 0, 2, 2, 0, 0, -2, 0, -2, -2), 1, true},
		{corners(0, 0, 2, 0, 2, 2, 0, 0, 3, 0, 3, 3), 2, true},
		{corners(0, 0, 2, 0, 2, 2, 0, 0, -2, -2, -2, 0), 0, true},
		// Forth and back: the whole way, a part of it, and farther.
		{corners(0, 0, 4, 0, 0, 0, 0, 4), 0, false},
		{corners(0, 0, 4, 0, 3, 0, 0, 4), 0, false},
		{corners(0, 0, 4, 0, -3, 0, 0, 4), 0, false},
		{corners(1, 1, 4, 4, 3, 3, 0, 5), 0, false},
		{rootsAt(0, 9, 18, 3, 12, 21, 6, 15), 3, true},
		{rootsAt(0, 15, 6, 21, 12, 3, 18, 9), -3, true},
		{rootsAt(0, 11, 22, 9, 20, 7, 18, 5, 16, 3, 14, 1, 12, 23, 10, 21, 8, 19, 6, 17, 4, 15, 2, 13), 11, true},
		{rootsAt(0, 12), 0, false},
	}
	for _, c := range cases {
		for first := range c.list {
			for turn := range steps {
				list := turnedList(beginning(c.list, first), turn)
				got, ok := impl.PolyTurns(list)
				wantNumber(t, namedRows("PolyTurns", list), got, ok, c.want, c.ok)
				if ok && got != countedTurns(list) {
					t.Errorf("%s returned %d, and counted are %d", namedRows("PolyTurns", list), got, countedTurns(list))
				}
			}
		}
	}
}

func TestPolyTurnsPromise(t *testing.T) {
	count, failed := map[int]int{}, 0
	for _, list := range polygons() {
		what := namedRows("PolyTurns", list)
		got, ok := impl.PolyTurns(list)
		want, wantOK := turnsByHand(list)
		wantNumber(t, what, got, ok, want, wantOK)
		back, backOK := impl.PolyTurns(backByHand(list))
		wantNumber(t, what+" back", back, backOK, -want, wantOK)
		if !ok {
			failed++
			continue
		}
		count[got]++
		if got != countedTurns(list) {
			t.Errorf("%s returned %d, and counted are %d", what, got, countedTurns(list))
		}
		bends, _ := impl.PolyBends(list)
		if !slices.Contains(bends, -1) && slices.Contains(bends, 1) && got < 1 {
			t.Errorf("%s returned %d, with bends to the left alone", what, got)
		}
	}
	for turns := -3; turns <= 3; turns++ {
		if count[turns] < 2 {
			t.Errorf("%d polygons turn %d times", count[turns], turns)
		}
	}
	if failed < 50 {
		t.Errorf("PolyTurns failed for %d polygons", failed)
	}
}

func TestPolyOnTold(t *testing.T) {
	cases := []struct {
		list    []impl.Cyc
		on, off []impl.Cyc
	}{
		{corners(3, 4), corners(3, 4), corners(0, 0, 4, 4, 3, 3, -3, -4, 6, 8)},
		{corners(3, 4, 3, 4, 3, 4), corners(3, 4), corners(0, 0, 2, 4, 3, 5, 6, 8)},
		{corners(0, 0, 4, 2), corners(0, 0, 4, 2, 2, 1), corners(6, 3, -2, -1, 1, 1, 2, 0, 3, 2)},
		{corners(0, 0, 6, 0, 2, 0), corners(0, 0, 1, 0, 2, 0, 5, 0, 6, 0), corners(-1, 0, 7, 0, 1, 1, 2, -1)},
		{corners(0, 0, 4, 0, 4, 4, 0, 4), corners(0, 0, 1, 0, 4, 0, 4, 3, 2, 4, 0, 4, 0, 1), corners(1, 1, 2, 2, -1, 0, 5, 0, 4, 5, 0, -1, -1, 4, 5, 4)},
		{corners(0, 0, 4, 0, 0, 4), corners(2, 2, 1, 3, 0, 2), corners(3, 3, 5, -1, -1, 5, 1, 1)},
		{corners(0, 0, 4, 4, 4, 0, 0, 4), corners(2, 2, 1, 1, 3, 1, 4, 2, 0, 3), corners(2, 1, 2, 3, 5, 5)},
		{corners(-100, -100, 100, 100), corners(100, 100, 0, 0, -99, -99), corners(100, 99, -100, 0)},
		{[]impl.Cyc{point(), realPoint(0, 4, 0, 0)}, []impl.Cyc{point(), point(5), realPoint(0, 1, 0, 0), realPoint(2, 2, 0, 0)}, []impl.Cyc{point(6), point(-1), realPoint(3, 2, 0, 0), gauss(1, 1), point(0, 1)}},
		{[]impl.Cyc{point(), point(3, 3)}, []impl.Cyc{point(), point(1, 1), point(2, 2), point(3, 3)}, []impl.Cyc{point(1, 2), point(4, 4), point(-1, -1), point(0, 3), point(3)}},
	}
	for _, c := range cases {
		for turn := range steps {
			list := turnedList(c.list, turn)
			for i, on := range slices.Concat(turnedList(c.on, turn), turnedList(c.off, turn)) {
				if withinByHand(on, mostCorner) && polygonByHand(list) {
					wantHolds(t, namedPolygon("PolyOn", list, on), impl.PolyOn(list, on), i < len(c.on))
				}
			}
		}
	}
}

// TestPolyOnNear takes sides that are so near to a point that floats do not tell on which side of it.
func TestPolyOnNear(t *testing.T) {
	triangles := 0
	for _, near := range nearSteps {
		side := []impl.Cyc{opposite(near.to), near.from}
		wantHolds(t, namedPolygon("PolyOn", side, point()), impl.PolyOn(side, point()), false)
		got, ok := impl.PolyWinding(side, point())
		wantNumber(t, namedPolygon("PolyWinding", side, point()), got, ok, 0, true)
		// The third corner is far to the left of the side: the triangle goes to the left, around 0 where the side has it on its left.
		third := impl.Cyc{C: turnedByHand(near.to.C, steps/4)}
		inside := map[int]int{-1: 1, 1: 0}[near.bend]
		for turn := range steps {
			list := turnedList(append(side, third), turn)
			if !polygonByHand(list) {
				continue
			}
			triangles++
			got, ok := impl.PolyWinding(list, point())
			wantNumber(t, namedPolygon("PolyWinding", list, point()), got, ok, inside, true)
			wantHolds(t, namedPolygon("PolyOn", list, point()), impl.PolyOn(list, point()), false)
		}
	}
	if triangles < 50 {
		t.Errorf("there are %d triangles with such sides", triangles)
	}
}

func TestPolyWindingTold(t *testing.T) {
	square := corners(0, 0, 4, 0, 4, 4, 0, 4)
	diamond := corners(0, -3, 3, 0, 0, 3, -3, 0)
	eight := corners(0, 0, 4, 4, 4, 0, 0, 4)
	comb := corners(0, 0, 2, 2, 4, 0, 6, 2, 8, 0, 8, 4, 0, 4)
	cases := []struct {
		list []impl.Cyc
		c    impl.Cyc
		want int
		ok   bool
	}{
		{corners(3, 4), point(), 0, true},
		{corners(3, 4), gauss(3, 4), 0, false},
		{corners(3, 4), gauss(2, 4), 0, true},
		{corners(0, 0, 4, 2), gauss(2, 1), 0, false},
		{corners(0, 0, 4, 2), gauss(1, 1), 0, true},
		{corners(0, 0, 4, 2), gauss(2, 0), 0, true},
		{square, gauss(1, 1), 1, true},
		{square, gauss(3, 3), 1, true},
		{square, gauss(2, 2), 1, true},
		{square, gauss(5, 2), 0, true},
		{square, gauss(-1, 2), 0, true},
		{square, gauss(2, 5), 0, true},
		{square, gauss(2, -1), 0, true},
		{square, gauss(5, 0), 0, true},
		{square, gauss(-1, 0), 0, true},
		{square, gauss(5, 4), 0, true},
		{square, gauss(-1, 4), 0, true},
		{square, gauss(0, 0), 0, false},
		{square, gauss(4, 4), 0, false},
		{square, gauss(2, 0), 0, false},
		{square, gauss(4, 1), 0, false},
		{diamond, gauss(0, 0), 1, true},
		{diamond, gauss(1, 0), 1, true},
		{diamond, gauss(-2, 0), 1, true},
		{diamond, gauss(4, 0), 0, true},
		{diamond, gauss(-4, 0), 0, true},
		{diamond, gauss(1, 3), 0, true},
		{diamond, gauss(-1, 3), 0, true},
		{diamond, gauss(1, -3), 0, true},
		{diamond, gauss(-1, -3), 0, true},
		{diamond, gauss(3, 0), 0, false},
		{eight, gauss(3, 2), -1, true},
		{eight, gauss(1, 2), 1, true},
		{eight, gauss(2, 2), 0, false},
		{eight, gauss(2, 3), 0, true},
		{comb, gauss(0, 2), 0, false},
		{comb, gauss(1, 2), 1, true},
		{comb, gauss(2, 1), 0, true},
		{comb, gauss(4, 2), 1, true},
		{comb, gauss(4, 1), 1, true},
		{comb, gauss(7, 2), 1, true},
		{comb, gauss(9, 2), 0, true},
		{comb, gauss(-1, 2), 0, true},
		{comb, gauss(2, 0), 0, true},
		{comb, gauss(6, 0), 0, true},
		{slices.Repeat(square, 2), gauss(2, 2), 2, true},
		{slices.Repeat(square, 12), gauss(1, 3), 12, true},
		{slices.Concat(square, backByHand(square)), gauss(2, 2), 0, true},
		{corners(0, 0, 8, 0, 8, 8, 2, 8, 2, 2, 6, 2, 6, 6, 0, 6), gauss(4, 4), 2, true},
		{corners(0, 0, 8, 0, 8, 8, 2, 8, 2, 2, 6, 2, 6, 6, 0, 6), gauss(1, 1), 1, true},
		{corners(0, 0, 8, 0, 8, 8, 2, 8, 2, 2, 6, 2, 6, 6, 0, 6), gauss(1, 7), 0, true},
		{rootsAt(0, 9, 18, 3, 12, 21, 6, 15), point(), 3, true},
		{rootsAt(0, 8, 16), point(), 1, true},
		{rootsAt(0, 4, 8), point(), 0, true},
		{corners(-100, -100, 100, -100, 100, 100, -100, 100), gauss(99, -99), 1, true},
		{corners(-100, -100, 100, -100, 100, 100, -100, 100), gauss(100, 7), 0, false},
	}
	for _, c := range cases {
		for first := range c.list {
			list := beginning(c.list, first)
			got, ok := impl.PolyWinding(list, c.c)
			wantNumber(t, namedPolygon("PolyWinding", list, c.c), got, ok, c.want, c.ok)
			back, ok := impl.PolyWinding(backByHand(list), c.c)
			wantNumber(t, namedPolygon("PolyWinding back", list, c.c), back, ok, -c.want, c.ok)
		}
	}
}

// TestPolySeenPromises checks PolyOn and PolyWinding at many points of each polygon.
func TestPolySeenPromises(t *testing.T) {
	source := rand.New(rand.NewPCG(8, 71))
	count, on := map[int]int{}, 0
	for _, list := range polygons() {
		back := backByHand(list)
		for _, c := range seenPoints(list, source) {
			got, ok := impl.PolyWinding(list, c)
			want, wantOK := windingByHand(list, c)
			wantNumber(t, namedPolygon("PolyWinding", list, c), got, ok, want, wantOK)
			backWinding, backOK := impl.PolyWinding(back, c)
			wantNumber(t, namedPolygon("PolyWinding back", list, c), backWinding, backOK, -want, wantOK)
			wantHolds(t, namedPolygon("PolyOn", list, c), impl.PolyOn(list, c), !wantOK)
			wantHolds(t, namedPolygon("PolyOn back", list, c), impl.PolyOn(back, c), !wantOK)
			if !ok {
				on++
				continue
			}
			count[got]++
			if impl.PolyConvex(list) && (got < -1 || got > 1) {
				t.Errorf("%s is convex, and goes round %d times", namedPolygon("PolyWinding", list, c), got)
			}
		}
	}
	for winding := -2; winding <= 2; winding++ {
		if count[winding] < 10 {
			t.Errorf("polygons go %d times around %d points", winding, count[winding])
		}
	}
	if on < 2000 {
		t.Errorf("PolyWinding failed at %d points", on)
	}
}

// TestPolySeenFails checks that nothing is told of a point that is beyond, even where it would be on a side, or inside.
func TestPolySeenFails(t *testing.T) {
	square := corners(-100, -100, 100, -100, 100, 100, -100, 100)
	for _, list := range [][]impl.Cyc{square, corners(0, 0), corners(100, 0, 100, 0), {point(100, 100, 100), point(-100, -100, -100)}} {
		for k := range 8 {
			for _, n := range beyondCorners {
				c := only(k, n)
				got, ok := impl.PolyWinding(list, c)
				wantNumber(t, namedPolygon("PolyWinding", list, c), got, ok, 0, false)
				wantHolds(t, namedPolygon("PolyOn", list, c), impl.PolyOn(list, c), false)
			}
		}
	}
	// These are inside the square, but one of their coefficients is beyond.
	for _, c := range []impl.Cyc{point(-72, 101, 0, 0, 0, -100), point(-71, 100, 0, 0, 0, -101), plus(point(0, 101, 0, 0, 0, -101), gauss(-71, 100))} {
		got, ok := impl.PolyWinding(square, c)
		wantNumber(t, namedPolygon("PolyWinding", square, c), got, ok, 0, false)
	}
	// These are on the line, at 51 times the root of 3, or at 101 times that of 2, less a whole number.
	line := corners(-100, 0, 100, 0)
	for _, c := range []impl.Cyc{realPoint(0, 0, 51, 0), realPoint(-70, 0, 51, 0), realPoint(-90, 101, 0, 0), realPoint(-100, 101, 0, 0)} {
		wantHolds(t, namedPolygon("PolyOn", line, c), impl.PolyOn(line, c), false)
		got, ok := impl.PolyWinding(line, c)
		wantNumber(t, namedPolygon("PolyWinding", line, c), got, ok, 0, false)
	}
	for _, c := range []impl.Cyc{realPoint(-80, 0, 50, 0), realPoint(-100, 100, 0, 0)} {
		wantHolds(t, namedPolygon("PolyOn", line, c), impl.PolyOn(line, c), true)
	}
}

func TestPolyBackPromise(t *testing.T) {
	for _, list := range polygons() {
		what := namedRows("PolyBack", list)
		got, ok := impl.PolyBack(list)
		wantRow(t, what, got, ok, backByHand(list), true)
		wantHolds(t, what+" as a polygon", impl.PolyValid(got), true)
		if len(got) != len(list) || got[0] != list[len(list)-1] {
			t.Errorf("%s begins with %s", what, pointText(got[0]))
		}
	}
}

// TestPolygonsFail checks that nothing is told of a list that is no polygon.
func TestPolygonsFail(t *testing.T) {
	for _, none := range noPolygons() {
		area, ok := impl.PolyArea(none)
		wantSurd(t, namedRows("PolyArea", none), area, ok, impl.Surd{}, false)
		bends, ok := impl.PolyBends(none)
		wantTurns(t, namedRows("PolyBends", none), bends, ok, nil, false)
		turns, ok := impl.PolyTurns(none)
		wantNumber(t, namedRows("PolyTurns", none), turns, ok, 0, false)
		back, ok := impl.PolyBack(none)
		wantRow(t, namedRows("PolyBack", none), back, ok, nil, false)
		wantHolds(t, namedRows("PolyConvex", none), impl.PolyConvex(none), false)
		for _, c := range []impl.Cyc{point(), gauss(1, 1), gauss(2, 0), gauss(-90, 90)} {
			winding, ok := impl.PolyWinding(none, c)
			wantNumber(t, namedPolygon("PolyWinding", none, c), winding, ok, 0, false)
			wantHolds(t, namedPolygon("PolyOn", none, c), impl.PolyOn(none, c), false)
		}
	}
}

// spot is a Gaussian number of a small grid.
type spot struct{ x, y int }

func (s spot) less(other spot) spot {
	return spot{s.x - other.x, s.y - other.y}
}

func (s spot) cross(other spot) int {
	return s.x*other.y - s.y*other.x
}

func (s spot) turned(turn int) impl.Cyc {
	return impl.Cyc{C: turnedByHand(gauss(s.x, s.y).C, turn)}
}

func signOf(n int) int {
	return max(-1, min(1, n))
}

// roundOfSpots returns how many whole turns to the left there are from spot to spot and back to the first one, seen from 0.
// It fails if 0 is on the line from one to the next one.
func roundOfSpots(list []spot) (int, bool) {
	angle := 0.0
	for i, a := range list {
		b := list[(i+1)%len(list)]
		if a.cross(b) == 0 && a.x*b.x+a.y*b.y <= 0 {
			return 0, false
		}
		angle += math.Atan2(float64(a.cross(b)), float64(a.x*b.x+a.y*b.y))
	}
	return int(math.Round(angle / (2 * math.Pi))), true
}

// spotPolygons goes over all polygons of up to four corners of a grid of 3 times 3.
func spotPolygons(check func(list []spot)) {
	for n := 1; n <= 4; n++ {
		count := int(math.Pow(9, float64(n)))
		for number := range count {
			var list []spot
			for range n {
				list = append(list, spot{number % 3, number / 3 % 3})
				number /= 9
			}
			check(list)
		}
	}
}

// TestSpotPolygons checks all small polygons of whole numbers, as they are and turned, against whole numbers alone.
func TestSpotPolygons(t *testing.T) {
	number := 0
	spotPolygons(func(list []spot) {
		number++
		for _, turn := range []int{0, number % steps} {
			checkSpots(t, list, turn)
		}
	})
	if number != 7380 {
		t.Errorf("there are %d polygons", number)
	}
}

func checkSpots(t *testing.T, list []spot, turn int) {
	n := len(list)
	var polygon []impl.Cyc
	var spotSteps []spot
	var bends []int
	area := 0
	for i, a := range list {
		next, last := list[(i+1)%n], list[(i+n-1)%n]
		polygon = append(polygon, a.turned(turn))
		spotSteps = append(spotSteps, next.less(a))
		bends = append(bends, signOf(a.less(last).cross(next.less(a))))
		area += a.cross(next)
	}
	turns, turnsOK := roundOfSpots(spotSteps)
	gotArea, ok := impl.PolyArea(polygon)
	wantSurd(t, namedRows("PolyArea", polygon), gotArea, ok, surd(4*area), true)
	gotBends, ok := impl.PolyBends(polygon)
	wantTurns(t, namedRows("PolyBends", polygon), gotBends, ok, bends, true)
	gotTurns, ok := impl.PolyTurns(polygon)
	wantNumber(t, namedRows("PolyTurns", polygon), gotTurns, ok, turns, turnsOK)
	convex := n >= 3 && turnsOK && bends[0] != 0 && bends[0] == turns && slices.Min(bends) == slices.Max(bends)
	wantHolds(t, namedRows("PolyConvex", polygon), impl.PolyConvex(polygon), convex)
	for place := range 25 {
		centre := spot{place%5 - 1, place/5 - 1}
		var around []spot
		for _, a := range list {
			around = append(around, a.less(centre))
		}
		winding, off := roundOfSpots(around)
		c := centre.turned(turn)
		gotWinding, ok := impl.PolyWinding(polygon, c)
		if gotWinding != winding || ok != off || impl.PolyOn(polygon, c) == off {
			t.Errorf("%s returned %d, %t and not %d, %t", namedPolygon("PolyWinding", polygon, c), gotWinding, ok, winding, off)
		}
	}
}

func TestPolygonArguments(t *testing.T) {
	for _, before := range slices.Concat(polygons(), noPolygons()[:40]) {
		list := rowWithRoom(before)
		got, ok := impl.PolyBack(list)
		want := slices.Clone(got)
		again, againOK := impl.PolyBack(list)
		scribblePoints(got)
		wantRowAsBefore(t, namedRows("PolyBack", before), list, before)
		wantRow(t, namedRows("PolyBack again", before), again, againOK, want, ok)
		bends, bendsOK := impl.PolyBends(list)
		wantBends := slices.Clone(bends)
		bendsAgain, bendsAgainOK := impl.PolyBends(list)
		whole := bends[:cap(bends)]
		for i := range whole {
			whole[i] = -7
		}
		wantTurns(t, namedRows("PolyBends again", before), bendsAgain, bendsAgainOK, wantBends, bendsOK)
		impl.PolyValid(list)
		impl.PolyArea(list)
		impl.PolyConvex(list)
		impl.PolyTurns(list)
		impl.PolyWinding(list, point(1))
		impl.PolyOn(list, point(1))
		wantRowAsBefore(t, namedRows("PolyBends, PolyValid, PolyArea, PolyConvex, PolyTurns, PolyWinding or PolyOn", before), list, before)
	}
}
