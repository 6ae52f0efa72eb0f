package tests

import (
	"math"
	"math/big"
	"math/rand/v2"
	"slices"
	"testing"

	"loop.example/turningwheels/impl"
)

const (
	leastTeeth = 6
	mostTeeth  = 240
	mostGears  = 10
	mostRatio  = 1000000000
	mostFound  = 1000
	mostPen    = 300
)

// noGears are no numbers of teeth, though some are again in 8, 16 or 32 bits.
var noGears = []int{
	math.MinInt, math.MinInt + 20, math.MinInt32, -1<<32 + 20, -65516, -240, -236, -20, -7, -6, -5, -1, 0, 1, 2, 3, 4, 5,
	241, 242, 255, 256, 276, 480, 65556, math.MaxInt32, 1 << 32, 1<<32 + 20, math.MaxInt - 1, math.MaxInt,
}

// noPens are no pens, though some are again in 8, 16 or 32 bits.
var noPens = []int{
	math.MinInt, math.MinInt + 5, math.MinInt32, -1 << 32, -65536, -1000000, -1001, -512, -302, -301,
	301, 302, 512, 1001, 1000000, 1000001, 65536, math.MaxInt32, 1 << 32, 1<<32 + 5, math.MaxInt,
}

// edgeTrains are trains with a number of their ratio, in lowest terms, near the greatest one behind some pair.
var edgeTrains = []struct {
	list        []int
	top, bottom int
	ok          bool
}{
	{[]int{137, 7, 165, 16, 202, 17, 219, 13}, 999999990 / 2, 7 * 8 * 17 * 13, true},
	{[]int{137, 7, 165, 17, 202, 19, 219, 13}, 999999990, 7 * 17 * 19 * 13, true},
	{[]int{125, 7, 200, 9, 200, 11, 200, 13}, 1000000000, 9009, true},
	{[]int{125, 7, 200, 9, 200, 11, 200, 13, 13, 9}, -1000000000, 6237, true},
	{[]int{200, 7, 200, 9, 200, 11, 125, 13, 7, 6}, -500000000, 3861, true},
	{[]int{125, 7, 200, 9, 200, 11, 200, 13, 9, 7}, -1000000000, 7007, true},
	{[]int{125, 7, 200, 9, 200, 11, 200, 13, 11, 7}, -1000000000, 5733, true},
	{[]int{125, 7, 200, 9, 200, 11, 200, 13, 17, 6}, 0, 0, false},
	{[]int{126, 11, 167, 13, 218, 17, 218, 19}, 0, 0, false},
	{[]int{126, 10, 167, 13, 218, 17, 218, 19}, 500000004, 5 * 13 * 17 * 19, true},
	{[]int{240, 7, 240, 11, 240, 13, 240, 17}, 0, 0, false},
	{[]int{239, 7, 239, 11, 239, 13, 73, 17}, 996590087, 7 * 11 * 13 * 17, true},
	{[]int{239, 7, 239, 11, 239, 13, 74, 17}, 0, 0, false},
	// The same for the bottom.
	{[]int{7, 137, 17, 165, 19, 202, 13, 219}, 7 * 17 * 19 * 13, 999999990, true},
	{[]int{7, 125, 9, 200, 11, 200, 13, 200}, 9009, 1000000000, true},
	{[]int{7, 125, 9, 200, 11, 200, 13, 200, 9, 7}, -11583, 1000000000, true},
	{[]int{7, 125, 9, 200, 11, 200, 13, 200, 7, 11}, -5733, 1000000000, true},
	{[]int{7, 125, 9, 200, 11, 200, 13, 200, 7, 17}, 0, 0, false},
	{[]int{11, 126, 13, 167, 17, 218, 19, 218}, 0, 0, false},
	{[]int{10, 126, 13, 167, 17, 218, 19, 218}, 5 * 13 * 17 * 19, 500000004, true},
	{[]int{7, 240, 11, 240, 13, 240, 17, 240}, 0, 0, false},
	// Both at once.
	{[]int{240, 239, 240, 239, 240, 239, 60, 71}, 829440000, 969286249, true},
	{[]int{240, 239, 240, 239, 240, 239, 240, 239}, 0, 0, false},
	// Behind the fourth pair a number is too great, and small again behind the fifth one.
	{[]int{239, 7, 239, 11, 239, 13, 239, 17, 7, 239}, 0, 0, false},
	{[]int{239, 7, 239, 11, 239, 13, 7, 239, 239, 17}, -13651919, 11 * 13 * 17, true},
	{[]int{126, 11, 167, 13, 218, 17, 218, 19, 11, 126}, 0, 0, false},
	{[]int{126, 11, 167, 13, 218, 17, 11, 126, 218, 19}, -167 * 218 * 218, 13 * 17 * 19, true},
	{[]int{7, 239, 11, 239, 13, 239, 17, 239, 239, 7}, 0, 0, false},
	{[]int{7, 239, 11, 239, 13, 239, 239, 7, 17, 239}, -11 * 13 * 17, 13651919, true},
	// The products are too great ahead of lowest terms, at last or on the way, and the numbers are not.
	{[]int{240, 239, 239, 240, 240, 239, 239, 240}, 1, 1, true},
	{[]int{240, 239, 239, 240, 240, 239, 239, 240, 240, 239}, -240, 239, true},
	{[]int{240, 120, 240, 120, 240, 120, 240, 120, 240, 120}, -32, 1, true},
	{[]int{120, 240, 120, 240, 120, 240, 120, 240, 120, 240}, -1, 32, true},
	{[]int{240, 240, 240, 240, 240, 240, 240, 240, 240, 240}, -1, 1, true},
	{[]int{240, 6, 240, 6, 240, 6, 240, 6, 240, 6}, -102400000, 1, true},
	{[]int{6, 240, 6, 240, 6, 240, 6, 240, 6, 240}, -1, 102400000, true},
	{[]int{240, 7, 240, 7, 240, 7, 7, 240, 7, 240}, -240, 7, true},
	{[]int{200, 7, 200, 9, 200, 11, 200, 16, 200, 25}, -800000000, 693, true},
}

// trainByHand returns the ratio of a train, which is multiplied as a fraction of any size.
func trainByHand(list []int) (int, int, bool) {
	if len(list) == 0 || len(list) > mostGears || len(list)%2 == 1 {
		return 0, 0, false
	}
	for _, teeth := range list {
		if teeth < leastTeeth || teeth > mostTeeth {
			return 0, 0, false
		}
	}
	ratio, most := big.NewRat(1, 1), big.NewInt(mostRatio)
	for i := 0; i < len(list); i += 2 {
		ratio.Mul(ratio, big.NewRat(-int64(list[i]), int64(list[i+1])))
		if ratio.Num().CmpAbs(most) > 0 || ratio.Denom().Cmp(most) > 0 {
			return 0, 0, false
		}
	}
	return int(ratio.Num().Int64()), int(ratio.Denom().Int64()), true
}

// cuspsByHand rolls the wheel on, round for round of itself, until the teeth of the ring are met as in the beginning.
func cuspsByHand(ring int, wheel int, inside bool) (int, bool) {
	if min(ring, wheel) < leastTeeth || max(ring, wheel) > mostTeeth || inside && wheel >= ring {
		return 0, false
	}
	cusps := 1
	for cusps*wheel%ring != 0 {
		cusps++
	}
	return cusps, true
}

// roundsByHand tells how many times the wheel has then been round the ring.
func roundsByHand(ring int, wheel int, inside bool) (int, bool) {
	cusps, ok := cuspsByHand(ring, wheel, inside)
	if !ok {
		return 0, false
	}
	return cusps * wheel / ring, true
}

// ringByHand returns the ring design as the document tells it.
func ringByHand(ring int, wheel int, inside bool, pen int) ([]impl.Wheel, bool) {
	cusps, ok := cuspsByHand(ring, wheel, inside)
	if !ok || pen < -mostPen || pen > mostPen {
		return nil, false
	}
	common := ring / cusps
	middle := impl.Wheel{Speed: wheel / common, Radius: point(ring + wheel)}
	end := impl.Wheel{Speed: (ring + wheel) / common, Radius: point(-pen)}
	if inside {
		middle.Radius = point(ring - wheel)
		end = impl.Wheel{Speed: -((ring - wheel) / common), Radius: point(pen)}
	}
	return tidyByHand(design(middle, end))
}

// backToFront returns the list in the opposite order.
func backToFront(list []int) []int {
	other := slices.Clone(list)
	slices.Reverse(other)
	return other
}

// someTrains returns trains of all lengths, the same ones each time: of any gears, of gears of few kinds, and of great and of small ones in turn.
func someTrains() [][]int {
	var list [][]int
	for _, c := range edgeTrains {
		list = append(list, c.list)
	}
	source := rand.New(rand.NewPCG(9, 240))
	for length := 2; length <= mostGears; length += 2 {
		for kind := range 800 {
			var train []int
			for k := range length {
				teeth := leastTeeth + source.IntN(mostTeeth-leastTeeth+1)
				switch kind % 5 {
				case 1:
					teeth = []int{6, 7, 12, 24, 35, 120, 239, 240}[source.IntN(8)]
				case 2:
					teeth = 240 - source.IntN(60) - k%2*170
				case 3:
					teeth = 70 - source.IntN(60) + k%2*170
				case 4:
					teeth = 12 * (1 + source.IntN(20))
				}
				train = append(train, teeth)
			}
			list = append(list, train)
		}
	}
	return list
}

// noTrains returns lists of other lengths, and lists with no gear in each place, the last one among them.
func noTrains() [][]int {
	list := [][]int{nil, {}, {0}, {20}, {20, 0}, {0, 20}, {5, 5}, {241, 241}, {-20, -40}, {-20, 40}}
	for _, length := range []int{1, 3, 5, 7, 9, 11, 12, 13, 14, 16, 20, 32, 256, 258, 266} {
		list = append(list, slices.Repeat([]int{20}, length))
	}
	for length := 2; length <= mostGears; length += 2 {
		for place := range length {
			for _, teeth := range noGears {
				train := slices.Repeat([]int{30}, length)
				train[place] = teeth
				list = append(list, train)
			}
		}
	}
	return list
}

func wantRatio(t *testing.T, list []int, top int, bottom int, ok bool) {
	t.Helper()
	gotTop, gotBottom, gotOK := impl.TrainRatio(list)
	if gotTop != top || gotBottom != bottom || gotOK != ok {
		t.Errorf("%s returned %d, %d, %t and not %d, %d, %t", named("TrainRatio", list...), gotTop, gotBottom, gotOK, top, bottom, ok)
	}
}

func TestTrainRatioTold(t *testing.T) {
	cases := []struct {
		list        []int
		top, bottom int
	}{
		{[]int{20, 40}, -1, 2},
		{[]int{40, 20}, -2, 1},
		{[]int{6, 6}, -1, 1},
		{[]int{240, 240}, -1, 1},
		{[]int{6, 240}, -1, 40},
		{[]int{240, 6}, -40, 1},
		{[]int{6, 7}, -6, 7},
		{[]int{12, 18}, -2, 3},
		{[]int{239, 240}, -239, 240},
		{[]int{240, 239}, -240, 239},
		{[]int{6, 6, 6, 6}, 1, 1},
		{[]int{7, 11, 11, 7}, 1, 1},
		{[]int{6, 240, 240, 6}, 1, 1},
		{[]int{20, 40, 30, 60}, 1, 4},
		{[]int{60, 20, 30, 10}, 9, 1},
		{[]int{10, 30, 20, 60}, 1, 9},
		{[]int{10, 21, 14, 15}, 4, 9},
		{[]int{10, 15, 14, 21}, 4, 9},
		{[]int{20, 40, 60, 7}, 30, 7},
		{[]int{6, 6, 6, 6, 6, 6}, -1, 1},
		{[]int{20, 40, 20, 40, 20, 40}, -1, 8},
		{[]int{30, 10, 40, 20, 50, 10}, -30, 1},
		{[]int{7, 8, 9, 10, 11, 12}, -231, 320},
		{[]int{8, 7, 10, 9, 12, 11}, -320, 231},
		{[]int{20, 40, 20, 40, 20, 40, 20, 40}, 1, 16},
		{[]int{40, 20, 40, 20, 40, 20, 40, 20}, 16, 1},
		{[]int{6, 7, 7, 8, 8, 9, 9, 10}, 3, 5},
		{[]int{12, 6, 12, 6, 12, 6, 12, 6, 12, 6}, -32, 1},
		{[]int{6, 7, 8, 9, 10, 11, 12, 13, 14, 15}, -256, 429},
	}
	for _, c := range cases {
		wantRatio(t, c.list, c.top, c.bottom, true)
	}
}

func TestTrainRatioEdges(t *testing.T) {
	for _, c := range edgeTrains {
		wantRatio(t, c.list, c.top, c.bottom, c.ok)
		turns, ok := impl.TrainTurns(c.list)
		wantNumber(t, named("TrainTurns", c.list...), turns, ok, c.bottom, c.ok)
	}
}

// TestTrainRatioPairs takes all pairs of gears.
func TestTrainRatioPairs(t *testing.T) {
	for first := leastTeeth; first <= mostTeeth; first++ {
		for second := leastTeeth; second <= mostTeeth; second++ {
			list := []int{first, second}
			top, bottom, ok := trainByHand(list)
			wantRatio(t, list, top, bottom, ok)
			if !ok || top*second != -first*bottom {
				t.Errorf("%s is %d, %d by hand", named("TrainRatio", list...), top, bottom)
			}
		}
	}
}

func TestTrainRatioPromise(t *testing.T) {
	count := map[bool]int{}
	for _, list := range someTrains() {
		top, bottom, ok := trainByHand(list)
		count[ok]++
		wantRatio(t, list, top, bottom, ok)
		gotTop, gotBottom, gotOK := impl.TrainRatio(list)
		if !gotOK {
			continue
		}
		if (gotTop < 0) != (len(list)/2%2 == 1) || gotTop == 0 || gotBottom < 1 {
			t.Errorf("%s returned %d, %d for %d pairs", named("TrainRatio", list...), gotTop, gotBottom, len(list)/2)
		}
		otherTop, otherBottom, otherOK := impl.TrainRatio(backToFront(list))
		if otherOK && (otherTop*signOf(gotTop) != gotBottom || otherBottom*signOf(gotTop) != gotTop) {
			t.Errorf("%s is %d, %d, but %d, %d in the opposite order", named("TrainRatio", list...), gotTop, gotBottom, otherTop, otherBottom)
		}
	}
	if count[true] < 1000 || count[false] < 100 {
		t.Errorf("the ratio is told of %d trains and not of %d", count[true], count[false])
	}
}

func TestTrainTurnsTold(t *testing.T) {
	cases := []struct {
		list []int
		want int
	}{
		{[]int{20, 40}, 2},
		{[]int{40, 20}, 1},
		{[]int{6, 6}, 1},
		{[]int{12, 18}, 3},
		{[]int{18, 12}, 2},
		{[]int{6, 7}, 7},
		{[]int{6, 240}, 40},
		{[]int{240, 6}, 1},
		{[]int{239, 240}, 240},
		{[]int{20, 40, 30, 60}, 4},
		{[]int{60, 20, 30, 10}, 1},
		{[]int{7, 11, 11, 7}, 1},
		{[]int{10, 21, 14, 15}, 9},
		{[]int{7, 8, 9, 10, 11, 12}, 320},
		{[]int{20, 40, 20, 40, 20, 40, 20, 40}, 16},
		{[]int{6, 7, 8, 9, 10, 11, 12, 13, 14, 15}, 429},
		{[]int{6, 240, 6, 240, 6, 240, 6, 240, 6, 240}, 102400000},
		{[]int{7, 125, 9, 200, 11, 200, 13, 200}, 1000000000},
	}
	for _, c := range cases {
		got, ok := impl.TrainTurns(c.list)
		wantNumber(t, named("TrainTurns", c.list...), got, ok, c.want, true)
	}
}

func TestTrainTurnsPromise(t *testing.T) {
	tried := 0
	for _, list := range someTrains() {
		what := named("TrainTurns", list...)
		top, bottom, ratioOK := impl.TrainRatio(list)
		got, ok := impl.TrainTurns(list)
		_, want, wantOK := trainByHand(list)
		wantNumber(t, what, got, ok, want, wantOK)
		if ok != ratioOK {
			t.Errorf("%s is told %t, but TrainRatio %t", what, ok, ratioOK)
		}
		if !ok {
			continue
		}
		if got < 1 || got*top%bottom != 0 {
			t.Errorf("%s returned %d, and the ratio is %d, %d", what, got, top, bottom)
		}
		for less := 1; less < got && got <= 30000; less++ {
			tried++
			if less*top%bottom == 0 {
				t.Errorf("%s returned %d, but %d turns are enough", what, got, less)
			}
		}
	}
	if tried < 1000000 {
		t.Errorf("%d lesser numbers of turns are tried", tried)
	}
}

func TestTrainsFail(t *testing.T) {
	for _, none := range noTrains() {
		wantRatio(t, none, 0, 0, false)
		turns, ok := impl.TrainTurns(none)
		wantNumber(t, named("TrainTurns", none...), turns, ok, 0, false)
	}
}

func TestTrainFindTold(t *testing.T) {
	cases := []struct {
		top, bottom int
		want        []int
	}{
		{1, 2, []int{6, 12}},
		{2, 1, []int{12, 6}},
		{1, 1, []int{6, 6}},
		{1000, 1000, []int{6, 6}},
		{241, 241, []int{6, 6}},
		{2, 3, []int{6, 9}},
		{3, 2, []int{9, 6}},
		{2, 4, []int{6, 12}},
		{500, 1000, []int{6, 12}},
		{1000, 500, []int{12, 6}},
		{1, 40, []int{6, 240}},
		{40, 1, []int{240, 6}},
		{25, 1000, []int{6, 240}},
		{1000, 25, []int{240, 6}},
		{5, 6, []int{10, 12}},
		{6, 5, []int{12, 10}},
		{5, 7, []int{10, 14}},
		{6, 7, []int{6, 7}},
		{7, 6, []int{7, 6}},
		{9, 12, []int{6, 8}},
		{90, 120, []int{6, 8}},
		{239, 240, []int{239, 240}},
		{240, 239, []int{240, 239}},
		{239, 239, []int{6, 6}},
		{720, 717, []int{240, 239}},
		{717, 720, []int{239, 240}},
		{960, 1000, []int{24, 25}},
		{5, 119, []int{10, 238}},
		{119, 5, []int{238, 10}},
		{5, 120, []int{6, 144}},
		{2, 79, []int{6, 237}},
		{3, 80, []int{6, 160}},
		{80, 3, []int{160, 6}},
	}
	for _, c := range cases {
		got, ok := impl.TrainFind(c.top, c.bottom)
		wantTurns(t, named("TrainFind", c.top, c.bottom), got, ok, c.want, true)
	}
	for _, none := range [][2]int{
		{1, 41}, {41, 1}, {1, 1000}, {1000, 1}, {2, 81}, {81, 2}, {5, 121}, {121, 5}, {5, 241}, {241, 5}, {1, 241}, {241, 1},
		{240, 241}, {241, 240}, {241, 242}, {999, 1000}, {1000, 999}, {1000, 996}, {996, 1000}, {1000, 24}, {24, 1000}, {239, 241}, {482, 480},
	} {
		got, ok := impl.TrainFind(none[0], none[1])
		wantTurns(t, named("TrainFind", none[:]...), got, ok, nil, false)
	}
}

// firstPairs looks through all pairs of gears in order, for the first one of each ratio.
func firstPairs() map[[2]int][]int {
	first := map[[2]int][]int{}
	for one := leastTeeth; one <= mostTeeth; one++ {
		for two := leastTeeth; two <= mostTeeth; two++ {
			top, bottom, _ := trainByHand([]int{one, two})
			if first[[2]int{top, bottom}] == nil {
				first[[2]int{top, bottom}] = []int{one, two}
			}
		}
	}
	return first
}

// TestTrainFindPromise takes all numbers in range.
func TestTrainFindPromise(t *testing.T) {
	pairs := firstPairs()
	for top := 1; top <= mostFound; top++ {
		for bottom := 1; bottom <= mostFound; bottom++ {
			common := int(new(big.Int).GCD(nil, nil, big.NewInt(int64(top)), big.NewInt(int64(bottom))).Int64())
			want := pairs[[2]int{-top / common, bottom / common}]
			got, ok := impl.TrainFind(top, bottom)
			if !slices.Equal(got, want) || ok != (want != nil) {
				t.Fatalf("%s returned %v, %t and not %v", named("TrainFind", top, bottom), got, ok, want)
			}
			if !ok {
				continue
			}
			if gotTop, gotBottom, told := impl.TrainRatio(got); !told || gotTop*common != -top || gotBottom*common != bottom {
				t.Fatalf("%s has the ratio %d, %d, %t", named("TrainFind", top, bottom), gotTop, gotBottom, told)
			}
		}
	}
}

func TestTrainFindFails(t *testing.T) {
	for _, none := range []int{
		math.MinInt, math.MinInt32, -1 << 32, -1001, -1000, -6, -2, -1, 0, 1001, 1002, 2000, 65536 + 6, math.MaxInt32, 1<<32 + 6, math.MaxInt - 1, math.MaxInt,
	} {
		for _, other := range []int{1, 2, 6, 240, 1000, none, -none, 0, 1001} {
			got, ok := impl.TrainFind(none, other)
			wantTurns(t, named("TrainFind", none, other), got, ok, nil, false)
			got, ok = impl.TrainFind(other, none)
			wantTurns(t, named("TrainFind", other, none), got, ok, nil, false)
		}
	}
}

func TestRingCuspsAndRoundsTold(t *testing.T) {
	cases := []struct {
		ring, wheel   int
		cusps, rounds int
		inside        bool
	}{
		{24, 10, 12, 5, true},
		{24, 8, 3, 1, true},
		{24, 16, 3, 2, true},
		{24, 12, 2, 1, true},
		{24, 6, 4, 1, true},
		{24, 7, 24, 7, true},
		{7, 6, 7, 6, true},
		{12, 6, 2, 1, true},
		{24, 23, 24, 23, true},
		{240, 6, 40, 1, true},
		{240, 239, 240, 239, true},
		{240, 238, 120, 119, true},
		{239, 238, 239, 238, true},
		{105, 30, 7, 2, true},
		{96, 36, 8, 3, true},
		// As large as the ring, and larger, a wheel has room outside only; one tooth decides inside.
		{6, 6, 1, 1, false},
		{24, 24, 1, 1, false},
		{240, 240, 1, 1, false},
		{6, 7, 6, 7, false},
		{24, 25, 24, 25, false},
		{24, 23, 24, 23, false},
		{24, 48, 1, 2, false},
		{6, 240, 1, 40, false},
		{240, 6, 40, 1, false},
		{10, 24, 5, 12, false},
		{24, 10, 12, 5, false},
		{24, 8, 3, 1, false},
		{239, 240, 239, 240, false},
	}
	for _, c := range cases {
		cusps, ok := impl.RingCusps(c.ring, c.wheel, c.inside)
		wantNumber(t, named("RingCusps", c.ring, c.wheel), cusps, ok, c.cusps, true)
		rounds, ok := impl.RingRounds(c.ring, c.wheel, c.inside)
		wantNumber(t, named("RingRounds", c.ring, c.wheel), rounds, ok, c.rounds, true)
	}
	for _, none := range [][2]int{{6, 6}, {7, 7}, {24, 24}, {240, 240}, {6, 7}, {24, 25}, {239, 240}, {24, 48}, {6, 240}, {10, 24}} {
		cusps, ok := impl.RingCusps(none[0], none[1], true)
		wantNumber(t, named("RingCusps inside", none[:]...), cusps, ok, 0, false)
		rounds, ok := impl.RingRounds(none[0], none[1], true)
		wantNumber(t, named("RingRounds inside", none[:]...), rounds, ok, 0, false)
	}
}

// TestRingCuspsAndRoundsPromise takes all gears, and numbers of teeth beside them.
func TestRingCuspsAndRoundsPromise(t *testing.T) {
	for ring := leastTeeth - 3; ring <= mostTeeth+3; ring++ {
		for wheel := leastTeeth - 3; wheel <= mostTeeth+3; wheel++ {
			for _, inside := range []bool{false, true} {
				cusps, cuspsOK := impl.RingCusps(ring, wheel, inside)
				rounds, roundsOK := impl.RingRounds(ring, wheel, inside)
				wantCusps, wantOK := cuspsByHand(ring, wheel, inside)
				wantRounds, _ := roundsByHand(ring, wheel, inside)
				if cusps != wantCusps || rounds != wantRounds || cuspsOK != wantOK || roundsOK != wantOK {
					t.Errorf("%s inside %t returned %d, %t and %d, %t and not %d and %d, %t", named("RingCusps and RingRounds", ring, wheel),
						inside, cusps, cuspsOK, rounds, roundsOK, wantCusps, wantRounds, wantOK)
				}
				if cuspsOK && cusps*wheel != rounds*ring {
					t.Errorf("%s inside %t returned %d, and RingRounds %d", named("RingCusps", ring, wheel), inside, cusps, rounds)
				}
				if roundsOK && (wheel%rounds != 0 || ring%cusps != 0 || wheel/rounds != ring/cusps) {
					t.Errorf("%s inside %t returned %d, and RingCusps %d", named("RingRounds", ring, wheel), inside, rounds, cusps)
				}
			}
		}
	}
}

func TestRingDesignTold(t *testing.T) {
	cases := []struct {
		ring, wheel, pen int
		inside           bool
		want             []impl.Wheel
	}{
		{24, 8, 4, true, design(wheel(-2, 4), wheel(1, 16))},
		{24, 8, -4, true, design(wheel(-2, -4), wheel(1, 16))},
		{24, 8, 8, true, design(wheel(-2, 8), wheel(1, 16))},
		{24, 16, 16, true, design(wheel(-1, 16), wheel(2, 8))},
		{24, 10, 5, true, design(wheel(-7, 5), wheel(5, 14))},
		{24, 12, 12, true, design(wheel(-1, 12), wheel(1, 12))},
		{24, 23, 1, true, design(wheel(-1, 1), wheel(23, 1))},
		{24, 8, 0, true, design(wheel(1, 16))},
		{24, 8, 300, true, design(wheel(-2, 300), wheel(1, 16))},
		{24, 8, -300, true, design(wheel(-2, -300), wheel(1, 16))},
		{7, 6, 2, true, design(wheel(-1, 2), wheel(6, 1))},
		{240, 6, 1, true, design(wheel(-39, 1), wheel(1, 234))},
		{240, 239, 300, true, design(wheel(-1, 300), wheel(239, 1))},
		{24, 8, 4, false, design(wheel(1, 32), wheel(4, -4))},
		{24, 8, -4, false, design(wheel(1, 32), wheel(4, 4))},
		{24, 8, 0, false, design(wheel(1, 32))},
		{24, 10, 5, false, design(wheel(5, 34), wheel(17, -5))},
		{24, 24, 24, false, design(wheel(1, 48), wheel(2, -24))},
		{240, 240, 300, false, design(wheel(1, 480), wheel(2, -300))},
		{6, 6, -300, false, design(wheel(1, 12), wheel(2, 300))},
		{24, 23, 7, false, design(wheel(23, 47), wheel(47, -7))},
		{24, 25, 7, false, design(wheel(25, 49), wheel(49, -7))},
		{24, 48, 1, false, design(wheel(2, 72), wheel(3, -1))},
		{6, 240, 9, false, design(wheel(40, 246), wheel(41, -9))},
		{239, 240, 1, false, design(wheel(240, 479), wheel(479, -1))},
		{240, 239, 1, false, design(wheel(239, 479), wheel(479, -1))},
	}
	for _, c := range cases {
		got, ok := impl.RingDesign(c.ring, c.wheel, c.inside, c.pen)
		wantDesign(t, named("RingDesign", c.ring, c.wheel, c.pen), got, ok, c.want, true)
	}
}

// checkRing checks the ring design of one pen against the document, and its fold and its point at 0.
func checkRing(t *testing.T, ring int, wheel int, inside bool, pen int) {
	t.Helper()
	got, ok := impl.RingDesign(ring, wheel, inside, pen)
	want, wantOK := ringByHand(ring, wheel, inside, pen)
	if !slices.Equal(got, want) || ok != wantOK {
		t.Errorf("%s inside %t returned %s, %t and not %s, %t", named("RingDesign", ring, wheel, pen), inside, designText(got), ok, designText(want), wantOK)
	}
	if !ok {
		return
	}
	// Both wheels of a ring design never have the same speed, so that only a pen of 0 leaves one of them out.
	fold, wheels := 0, 1
	if pen != 0 {
		fold, _ = impl.RingCusps(ring, wheel, inside)
		wheels = 2
	}
	start := ring + wheel - pen
	if inside {
		start = ring - wheel + pen
	}
	at, atOK := impl.DesignAt(got, 0)
	if impl.DesignFold(got) != fold || len(got) != wheels || !atOK || at != point(start) {
		t.Errorf("%s inside %t has %d wheels, the fold %d and begins at %s, %t", named("RingDesign", ring, wheel, pen), inside, len(got), impl.DesignFold(got), pointText(at), atOK)
	}
}

// TestRingDesignPromise takes all gears with some pens, and some gears with all pens.
func TestRingDesignPromise(t *testing.T) {
	for ring := leastTeeth - 1; ring <= mostTeeth+1; ring++ {
		for wheel := leastTeeth - 1; wheel <= mostTeeth+1; wheel++ {
			for _, inside := range []bool{false, true} {
				checkRing(t, ring, wheel, inside, 0)
				checkRing(t, ring, wheel, inside, wheel)
				checkRing(t, ring, wheel, inside, ring*wheel%(2*mostPen+3)-mostPen-1)
			}
		}
	}
	for _, gears := range [][2]int{{6, 6}, {7, 6}, {6, 7}, {24, 8}, {24, 16}, {24, 23}, {24, 24}, {24, 25}, {105, 30}, {240, 239}, {239, 240}, {240, 240}, {5, 6}, {6, 5}, {241, 6}, {6, 241}} {
		for pen := -mostPen - 5; pen <= mostPen+5; pen++ {
			checkRing(t, gears[0], gears[1], false, pen)
			checkRing(t, gears[0], gears[1], true, pen)
		}
	}
}

// TestRingDesignRolls checks that the pen is where a wheel that rolls without sliding takes it.
func TestRingDesignRolls(t *testing.T) {
	for _, c := range []struct {
		ring, wheel, pen int
		inside           bool
	}{
		{24, 8, 5, true}, {24, 16, 9, true}, {24, 23, -30, true}, {105, 30, 28, true}, {240, 6, 6, true},
		{24, 8, 5, false}, {24, 24, 9, false}, {24, 36, -7, false}, {30, 105, 100, false}, {6, 240, 300, false},
	} {
		d, ok := impl.RingDesign(c.ring, c.wheel, c.inside, c.pen)
		rounds, _ := impl.RingRounds(c.ring, c.wheel, c.inside)
		for turn := range steps {
			at, atOK := impl.DesignAt(d, turn)
			// The middle of the wheel has gone so far round the ring, and as much of the ring is behind the wheel as of the wheel.
			way := 2 * math.Pi * float64(turn*rounds) / steps
			spin := way * float64(c.ring) / float64(c.wheel)
			middle, pen, angle := c.ring+c.wheel, -c.pen, way+spin
			if c.inside {
				middle, pen, angle = c.ring-c.wheel, c.pen, way-spin
			}
			x := float64(middle)*math.Cos(way) + float64(pen)*math.Cos(angle)
			y := float64(middle)*math.Sin(way) + float64(pen)*math.Sin(angle)
			if !ok || !atOK || !impl.PointsNear(value(at), complex(x, y), 1e-6) {
				t.Errorf("%s inside %t at the turn %d is %v, and the pen at %g and %g", named("RingDesign", c.ring, c.wheel, c.pen), c.inside, turn, value(at), x, y)
			}
		}
	}
}

func TestRingsFail(t *testing.T) {
	for _, none := range noGears {
		for _, other := range []int{6, 7, 24, 240, none, -none, 0, 5, 241} {
			for _, gears := range [][2]int{{none, other}, {other, none}} {
				for _, inside := range []bool{false, true} {
					cusps, ok := impl.RingCusps(gears[0], gears[1], inside)
					wantNumber(t, named("RingCusps", gears[:]...), cusps, ok, 0, false)
					rounds, ok := impl.RingRounds(gears[0], gears[1], inside)
					wantNumber(t, named("RingRounds", gears[:]...), rounds, ok, 0, false)
					for _, pen := range []int{0, 1, 300, 301} {
						d, ok := impl.RingDesign(gears[0], gears[1], inside, pen)
						wantDesign(t, named("RingDesign", gears[0], gears[1], pen), d, ok, nil, false)
					}
				}
			}
		}
	}
	for _, none := range noPens {
		for _, gears := range [][2]int{{24, 8}, {24, 16}, {240, 239}, {7, 6}, {24, 24}, {6, 7}} {
			for _, inside := range []bool{false, true} {
				d, ok := impl.RingDesign(gears[0], gears[1], inside, none)
				wantDesign(t, named("RingDesign", gears[0], gears[1], none), d, ok, nil, false)
			}
		}
	}
}

// sameByHand tells whether the wheels of one ring design, with opposite speeds, are those of the other one.
func sameByHand(ring int, wheel int, pen int, other int) bool {
	first, firstOK := ringByHand(ring, wheel, true, pen)
	second, secondOK := ringByHand(ring, ring-wheel, true, other)
	back, backOK := changedByHand(first, oppositeSpeed, sameRadius)
	return firstOK && secondOK && backOK && slices.Equal(back, second)
}

func TestRingSameTold(t *testing.T) {
	cases := []struct {
		ring, wheel, pen, other int
		want                    bool
	}{
		{24, 8, 8, 16, true},
		{24, 16, 16, 8, true},
		{24, 12, 12, 12, true},
		{24, 10, 10, 14, true},
		{24, 7, 7, 17, true},
		{12, 6, 6, 6, true},
		{13, 6, 6, 7, true},
		{240, 6, 6, 234, true},
		{240, 234, 234, 6, true},
		{240, 120, 120, 120, true},
		{239, 100, 100, 139, true},
		// Both pens exchanged, opposite pens, and others.
		{24, 8, 16, 8, false},
		{24, 16, 8, 16, false},
		{24, 8, -8, -16, false},
		{24, 8, 8, -16, false},
		{24, 8, -8, 16, false},
		{24, 8, 8, 15, false},
		{24, 8, 8, 17, false},
		{24, 8, 7, 16, false},
		{24, 8, 9, 16, false},
		{24, 8, 8, 8, false},
		{24, 8, 0, 0, false},
		{24, 8, 8, 0, false},
		{24, 8, 0, 16, false},
		{24, 12, 0, 0, false},
		{24, 12, 11, 11, false},
		{24, 8, 300, 300, false},
		// One of the designs is not told: R - r is no gear, r is none, R is none, r is not less than R, or a pen is beyond.
		{24, 20, 20, 4, false},
		{24, 19, 19, 5, false},
		{24, 18, 18, 6, true},
		{24, 6, 6, 18, true},
		{24, 5, 5, 19, false},
		{24, 0, 0, 24, false},
		{24, 24, 24, 0, false},
		{24, 25, 25, -1, false},
		{24, 48, 48, -24, false},
		{24, -24, -24, 48, false},
		{11, 6, 6, 5, false},
		{6, 6, 6, 0, false},
		{241, 100, 100, 141, false},
		{480, 240, 240, 240, false},
		{24, 8, 301, 16, false},
		{24, 8, 8, 301, false},
		{24, 8, -301, 16, false},
		{24, 8, 8, -301, false},
		{24, 8, 301, 301, false},
		{24, 20, 301, 301, false},
		{0, 0, 0, 0, false},
		{math.MinInt, 8, 8, 16, false},
		{math.MaxInt, -1, -1, math.MinInt, false},
		{24, math.MinInt, math.MinInt, 24, false},
		{24, math.MaxInt, 0, 0, false},
	}
	for _, c := range cases {
		if got := impl.RingSame(c.ring, c.wheel, c.pen, c.other); got != c.want {
			t.Errorf("%s returned %t", named("RingSame", c.ring, c.wheel, c.pen, c.other), got)
		}
	}
}

// checkSame checks RingSame of two pens against the document, and that it holds for both exchanged.
func checkSame(t *testing.T, ring int, wheel int, pen int, other int) bool {
	t.Helper()
	got := impl.RingSame(ring, wheel, pen, other)
	if got != sameByHand(ring, wheel, pen, other) {
		t.Errorf("%s returned %t", named("RingSame", ring, wheel, pen, other), got)
	}
	if got && !impl.RingSame(ring, ring-wheel, other, pen) {
		t.Errorf("%s does not hold, though it does for both exchanged", named("RingSame", ring, ring-wheel, other, pen))
	}
	return got
}

// TestRingSamePromise takes all gears with the pens for which it holds and those beside them, and some gears with many pens.
func TestRingSamePromise(t *testing.T) {
	holds := 0
	for ring := leastTeeth - 1; ring <= mostTeeth+1; ring++ {
		for wheel := 1; wheel <= ring+1; wheel++ {
			rest := ring - wheel
			_, firstOK := impl.RingDesign(ring, wheel, true, wheel)
			_, secondOK := impl.RingDesign(ring, rest, true, rest)
			same := checkSame(t, ring, wheel, wheel, rest)
			if same != (firstOK && secondOK) {
				t.Errorf("%s returned %t", named("RingSame", ring, wheel, wheel, rest), same)
			}
			if same {
				holds++
			}
			if wheel != rest && checkSame(t, ring, wheel, rest, wheel) || checkSame(t, ring, wheel, wheel+1, rest) || checkSame(t, ring, wheel, wheel, rest-1) {
				t.Errorf("%s or one beside it holds", named("RingSame", ring, wheel, rest, wheel))
			}
		}
	}
	if holds != 26335 {
		t.Errorf("RingSame holds for %d rings and wheels", holds)
	}
	for _, gears := range [][2]int{{24, 8}, {24, 12}, {24, 18}, {24, 20}, {12, 6}, {25, 12}, {30, 10}} {
		for pen := -31; pen <= 31; pen++ {
			for other := -31; other <= 31; other++ {
				checkSame(t, gears[0], gears[1], pen, other)
			}
		}
	}
}

// TestGearArguments checks that trains stay as they are given, room behind them too, and that results share no memory.
func TestGearArguments(t *testing.T) {
	for _, before := range slices.Concat(someTrains(), noTrains()) {
		room := append(slices.Clone(before), -7, -8, -9)
		list := room[:len(before)]
		impl.TrainRatio(list)
		impl.TrainTurns(list)
		if !slices.Equal(list, before) || !slices.Equal(room[len(before):], []int{-7, -8, -9}) {
			t.Errorf("%s or TrainTurns changed the train to %v", named("TrainRatio", before...), room)
		}
	}
	for _, numbers := range [][2]int{{1, 2}, {2, 4}, {239, 240}, {5, 7}} {
		first, ok := impl.TrainFind(numbers[0], numbers[1])
		want := slices.Clone(first)
		second, secondOK := impl.TrainFind(numbers[0], numbers[1])
		whole := first[:cap(first)]
		for k := range whole {
			whole[k] = -7
		}
		third, thirdOK := impl.TrainFind(numbers[0], numbers[1])
		wantTurns(t, named("TrainFind again", numbers[:]...), second, secondOK, want, ok)
		wantTurns(t, named("TrainFind once more", numbers[:]...), third, thirdOK, want, ok)
	}
	for _, inside := range []bool{false, true} {
		first, ok := impl.RingDesign(24, 10, inside, 5)
		want := slices.Clone(first)
		second, secondOK := impl.RingDesign(24, 10, inside, 5)
		scribble(first)
		third, thirdOK := impl.RingDesign(24, 10, inside, 5)
		wantDesign(t, "RingDesign again", second, secondOK, want, ok)
		wantDesign(t, "RingDesign once more", third, thirdOK, want, ok)
	}
}
