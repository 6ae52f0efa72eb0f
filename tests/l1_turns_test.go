package tests

import (
	"math"
	"slices"
	"strconv"
	"testing"

	"loop.example/turningwheels/impl"
)

// The tests write out the numbers of the document, so that a changed constant of the program does not pass.
const (
	steps   = 24
	mostNum = 1000000
)

var divisors = []int{1, 2, 3, 4, 6, 8, 12, 24}

var noTurns = []int{math.MinInt, math.MinInt32, -1000000, -24, -23, -1, 24, 25, 48, 1000000, math.MaxInt32, math.MaxInt}

var noCounts = []int{math.MinInt, math.MinInt32, -1000001, 1000001, math.MaxInt32, math.MaxInt}

var edgeNums = []int{-1000000, -999999, -999977, 999976, 999999, 1000000}

var textsOfTurns = []string{
	"0", "1/24", "1/12", "1/8", "1/6", "5/24", "1/4", "7/24", "1/3", "3/8", "5/12", "11/24",
	"1/2", "13/24", "7/12", "5/8", "2/3", "17/24", "3/4", "19/24", "5/6", "7/8", "11/12", "23/24",
}

func isTurn(t int) bool {
	return 0 <= t && t < steps
}

// nums returns the numbers about 0, for several whole turns, and those at the ends of the range.
func nums() []int {
	list := slices.Clone(edgeNums)
	for n := -100; n <= 100; n++ {
		list = append(list, n)
	}
	return list
}

// wantNumber checks a result with a number: 0 and false where the document tells that there is none.
func wantNumber(t *testing.T, what string, got int, ok bool, want int, wantOK bool) {
	t.Helper()
	if got != want || ok != wantOK {
		t.Errorf("%s returned %d, %t and not %d, %t", what, got, ok, want, wantOK)
	}
}

func named(name string, numbers ...int) string {
	text := name
	for _, n := range numbers {
		text += " " + strconv.Itoa(n)
	}
	return text
}

func TestTurnOfTold(t *testing.T) {
	cases := []struct{ num, den, want int }{
		{0, 1, 0}, {0, 24, 0}, {1, 1, 0}, {1, 2, 12}, {1, 3, 8}, {1, 4, 6}, {1, 6, 4}, {1, 8, 3}, {1, 12, 2}, {1, 24, 1},
		{2, 6, 8}, {3, 8, 9}, {23, 24, 23}, {24, 24, 0}, {25, 24, 1}, {7, 6, 4}, {9, 2, 12},
		{-1, 1, 0}, {-1, 2, 12}, {-1, 3, 16}, {-1, 4, 18}, {-1, 6, 20}, {-1, 8, 21}, {-1, 12, 22}, {-1, 24, 23},
		{-23, 24, 1}, {-24, 24, 0}, {-25, 24, 23}, {-48, 24, 0}, {-7, 6, 20}, {-3, 8, 15},
		{1000000, 1, 0}, {-1000000, 1, 0}, {1000000, 3, 8}, {-1000000, 3, 16}, {1000000, 24, 16}, {-1000000, 24, 8},
		{999999, 24, 15}, {-999999, 24, 9}, {999999, 2, 12}, {-999999, 4, 6},
	}
	for _, c := range cases {
		got, ok := impl.TurnOf(c.num, c.den)
		wantNumber(t, named("TurnOf", c.num, c.den), got, ok, c.want, true)
	}
}

func TestTurnOfPromise(t *testing.T) {
	for _, den := range divisors {
		for _, num := range nums() {
			what := named("TurnOf", num, den)
			got, ok := impl.TurnOf(num, den)
			if !ok || !isTurn(got) {
				t.Errorf("%s returned %d, %t, which is no turn", what, got, ok)
				continue
			}
			if (got*den-num*steps)%(steps*den) != 0 {
				t.Errorf("%s returned %d, which is another part of a whole turn", what, got)
			}
			if num+den <= mostNum {
				more, ok := impl.TurnOf(num+den, den)
				wantNumber(t, named("TurnOf", num+den, den), more, ok, got, true)
			}
			whole, ok := impl.TurnTimes(got, den)
			wantNumber(t, what+" done den times", whole, ok, 0, true)
		}
	}
}

func TestTurnOfFails(t *testing.T) {
	dens := []int{5, 7, 9, 10, 11, 13, 16, 18, 20, 23, 25, 48, 72, 240, math.MaxInt32, math.MaxInt}
	dens = append(dens, 0, -1, -2, -3, -4, -6, -8, -12, -24, -5, math.MinInt32, math.MinInt)
	for _, den := range dens {
		for _, num := range []int{0, 1, -1, den, 1000000, -1000000, math.MaxInt, math.MinInt} {
			got, ok := impl.TurnOf(num, den)
			wantNumber(t, named("TurnOf", num, den), got, ok, 0, false)
		}
	}
	for _, num := range noCounts {
		for _, den := range divisors {
			got, ok := impl.TurnOf(num, den)
			wantNumber(t, named("TurnOf", num, den), got, ok, 0, false)
		}
	}
}

func TestTurnAddTold(t *testing.T) {
	cases := []struct{ a, b, want int }{
		{0, 0, 0}, {0, 23, 23}, {1, 23, 0}, {5, 6, 11}, {12, 12, 0}, {13, 12, 1}, {23, 23, 22}, {7, 18, 1},
	}
	for _, c := range cases {
		got, ok := impl.TurnAdd(c.a, c.b)
		wantNumber(t, named("TurnAdd", c.a, c.b), got, ok, c.want, true)
	}
}

func TestTurnAddPromise(t *testing.T) {
	for a := range steps {
		for b := range steps {
			what := named("TurnAdd", a, b)
			got, ok := impl.TurnAdd(a, b)
			if !ok || !isTurn(got) || (got-a-b)%steps != 0 {
				t.Errorf("%s returned %d, %t", what, got, ok)
				continue
			}
			exchanged, ok := impl.TurnAdd(b, a)
			wantNumber(t, named("TurnAdd", b, a), exchanged, ok, got, true)
			rest, ok := impl.TurnTimes(a, 23)
			if !ok {
				t.Errorf("%s failed", named("TurnTimes", a, 23))
			}
			back, ok := impl.TurnAdd(rest, got)
			wantNumber(t, what+" led back", back, ok, b, true)
		}
	}
}

func TestTurnAddFails(t *testing.T) {
	for _, none := range noTurns {
		for _, other := range []int{0, 1, 23, -none, none} {
			got, ok := impl.TurnAdd(none, other)
			wantNumber(t, named("TurnAdd", none, other), got, ok, 0, false)
			got, ok = impl.TurnAdd(other, none)
			wantNumber(t, named("TurnAdd", other, none), got, ok, 0, false)
		}
	}
}

func TestTurnTimesTold(t *testing.T) {
	cases := []struct{ a, n, want int }{
		{0, 0, 0}, {5, 0, 0}, {5, 1, 5}, {5, 5, 1}, {5, -1, 19}, {1, -1, 23}, {23, -1, 1}, {23, 23, 1}, {0, -7, 0},
		{1, -24, 0}, {1, -25, 23}, {7, -3, 3}, {12, -1000000, 0}, {12, -999999, 12},
		{1, 1000000, 16}, {1, -1000000, 8}, {23, 1000000, 8}, {23, -1000000, 16}, {23, 999999, 9}, {0, 1000000, 0}, {0, -1000000, 0},
	}
	for _, c := range cases {
		got, ok := impl.TurnTimes(c.a, c.n)
		wantNumber(t, named("TurnTimes", c.a, c.n), got, ok, c.want, true)
	}
}

func TestTurnTimesPromise(t *testing.T) {
	for a := range steps {
		for _, n := range nums() {
			what := named("TurnTimes", a, n)
			got, ok := impl.TurnTimes(a, n)
			if !ok || !isTurn(got) || (got-a*n)%steps != 0 {
				t.Errorf("%s returned %d, %t", what, got, ok)
				continue
			}
			if n == mostNum {
				continue
			}
			sum, ok := impl.TurnAdd(got, a)
			if !ok {
				t.Errorf("%s failed", named("TurnAdd", got, a))
			}
			more, ok := impl.TurnTimes(a, n+1)
			wantNumber(t, named("TurnTimes", a, n+1), more, ok, sum, true)
		}
	}
}

func TestTurnTimesFails(t *testing.T) {
	for _, none := range noTurns {
		for _, n := range []int{0, 1, -1, 24, 1000000, -1000000, math.MaxInt, math.MinInt} {
			got, ok := impl.TurnTimes(none, n)
			wantNumber(t, named("TurnTimes", none, n), got, ok, 0, false)
		}
	}
	for _, n := range noCounts {
		for _, a := range []int{0, 1, 23} {
			got, ok := impl.TurnTimes(a, n)
			wantNumber(t, named("TurnTimes", a, n), got, ok, 0, false)
		}
	}
}

func TestTurnOrderTold(t *testing.T) {
	orders := []int{1, 24, 12, 8, 6, 24, 4, 24, 3, 8, 12, 24, 2, 24, 12, 8, 3, 24, 4, 24, 6, 8, 12, 24}
	for a, want := range orders {
		if got := impl.TurnOrder(a); got != want {
			t.Errorf("TurnOrder %d returned %d and not %d", a, got, want)
		}
	}
	for _, none := range noTurns {
		if got := impl.TurnOrder(none); got != 0 {
			t.Errorf("TurnOrder %d returned %d and not 0", none, got)
		}
	}
}

func TestTurnOrderPromise(t *testing.T) {
	for a := range steps {
		order := impl.TurnOrder(a)
		if order < 1 || steps%order != 0 {
			t.Errorf("TurnOrder %d returned %d, which does not divide 24", a, order)
			continue
		}
		for n := 1; n <= order; n++ {
			done, ok := impl.TurnTimes(a, n)
			if !ok || (done == 0) != (n == order) {
				t.Errorf("TurnOrder %d returned %d, but done %d times it is %d, %t", a, order, n, done, ok)
			}
		}
	}
}

func TestTurnText(t *testing.T) {
	for a, want := range textsOfTurns {
		if got := impl.TurnText(a); got != want {
			t.Errorf("TurnText %d returned %q and not %q", a, got, want)
		}
	}
	for _, none := range noTurns {
		if got := impl.TurnText(none); got != "" {
			t.Errorf("TurnText %d returned %q and not an empty text", none, got)
		}
	}
}

func TestTurnTextPromise(t *testing.T) {
	for a := range steps {
		text := impl.TurnText(a)
		if text == "" {
			t.Errorf("TurnText %d is empty", a)
			continue
		}
		got, ok := impl.TurnRead(text)
		wantNumber(t, "TurnRead "+text, got, ok, a, true)
	}
}

func TestTurnReadTold(t *testing.T) {
	for want, text := range textsOfTurns {
		got, ok := impl.TurnRead(text)
		wantNumber(t, "TurnRead "+text, got, ok, want, true)
	}
	for a := range steps {
		for _, text := range []string{" " + textsOfTurns[a], textsOfTurns[a] + " ", "+" + textsOfTurns[a], "-" + textsOfTurns[a],
			"0" + textsOfTurns[a], textsOfTurns[a] + "0", textsOfTurns[a] + "\n", textsOfTurns[a] + "\x00", textsOfTurns[a] + "/1"} {
			got, ok := impl.TurnRead(text)
			wantNumber(t, "TurnRead "+strconv.Quote(text), got, ok, 0, false)
		}
	}
}

func TestTurnReadFails(t *testing.T) {
	texts := []string{
		"", " ", "/", "1/", "/6", "1//6", "1/6/1", "1", "6", "24", "1/0", "0/0", "-", "+", "abc", "\xff", "1/6\xff",
		"0/1", "0/24", "2/24", "2/12", "12/24", "6/8", "2/2", "3/24", "4/24", "1/1", "24/24", "25/24", "7/6", "13/12", "5/4",
		"01/6", "1/06", "001/6", "00", "-0", "+0", "-1/6", "1/-6", "-1/-6", "+1/6", "1/+6", "1 /6", "1/ 6", "1 / 6", " 0", "0 ",
		"1/5", "1/7", "1/9", "1/16", "1/48", "2/5", "0.5", "1e0", "1,6", "\uff11/6", "1\u20446", "\u00bd",
		"100000000000000000000/600000000000000000000", "18446744073709551617/6",
	}
	for _, text := range texts {
		got, ok := impl.TurnRead(text)
		wantNumber(t, "TurnRead "+strconv.Quote(text), got, ok, 0, false)
	}
}

// TestTurnReadPromise reads every text of at most 5 bytes over what texts of turns are made of, and some bytes beside.
func TestTurnReadPromise(t *testing.T) {
	const bytes = "0123456789/-+ "
	told := 0
	var read func(text string)
	read = func(text string) {
		got, ok := impl.TurnRead(text)
		if ok {
			told++
			if !isTurn(got) || impl.TurnText(got) != text {
				t.Errorf("TurnRead %q returned %d, of which the text is %q", text, got, impl.TurnText(got))
			}
		} else if got != 0 {
			t.Errorf("TurnRead %q failed with %d", text, got)
		}
		if len(text) == 5 {
			return
		}
		for i := range len(bytes) {
			read(text + bytes[i:i+1])
		}
	}
	read("")
	if told != steps {
		t.Errorf("TurnRead read %d texts and not 24", told)
	}
}

func TestTurnGroupTold(t *testing.T) {
	cases := []struct {
		a, b int
		want []int
	}{
		{0, 0, []int{0}},
		{12, 0, []int{0, 12}},
		{0, 8, []int{0, 8, 16}},
		{16, 16, []int{0, 8, 16}},
		{18, 0, []int{0, 6, 12, 18}},
		{20, 0, []int{0, 4, 8, 12, 16, 20}},
		{8, 12, []int{0, 4, 8, 12, 16, 20}},
		{9, 21, []int{0, 3, 6, 9, 12, 15, 18, 21}},
		{6, 4, []int{0, 2, 4, 6, 8, 10, 12, 14, 16, 18, 20, 22}},
		{23, 0, []int{0, 1, 2, 3, 4, 5, 6, 7, 8, 9, 10, 11, 12, 13, 14, 15, 16, 17, 18, 19, 20, 21, 22, 23}},
	}
	for _, c := range cases {
		got, ok := impl.TurnGroup(c.a, c.b)
		if !ok || !slices.Equal(got, c.want) {
			t.Errorf("TurnGroup %d %d returned %v, %t and not %v", c.a, c.b, got, ok, c.want)
		}
	}
}

// groupByHand returns all that two turns make, found by doing both up to 23 times.
func groupByHand(a int, b int) []int {
	var made [steps]bool
	for i := range steps {
		for k := range steps {
			made[(i*a+k*b)%steps] = true
		}
	}
	var list []int
	for t, is := range made {
		if is {
			list = append(list, t)
		}
	}
	return list
}

func TestTurnGroupPromise(t *testing.T) {
	for a := range steps {
		for b := range steps {
			group, ok := impl.TurnGroup(a, b)
			if !ok || !slices.Equal(group, groupByHand(a, b)) {
				t.Errorf("TurnGroup %d %d returned %v, %t", a, b, group, ok)
				continue
			}
			if !slices.Contains(group, a) || !slices.Contains(group, b) || !slices.Contains(group, 0) {
				t.Errorf("TurnGroup %d %d is %v, without one of both or 0", a, b, group)
			}
			for _, x := range group {
				for _, y := range group {
					sum, ok := impl.TurnAdd(x, y)
					if !ok || !slices.Contains(group, sum) {
						t.Errorf("TurnGroup %d %d has %d and %d, but not the sum %d", a, b, x, y, sum)
					}
				}
			}
		}
	}
}

func TestTurnGroupFails(t *testing.T) {
	for _, none := range noTurns {
		for _, other := range []int{0, 1, 23, none} {
			if got, ok := impl.TurnGroup(none, other); ok || len(got) != 0 {
				t.Errorf("TurnGroup %d %d returned %v, %t", none, other, got, ok)
			}
			if got, ok := impl.TurnGroup(other, none); ok || len(got) != 0 {
				t.Errorf("TurnGroup %d %d returned %v, %t", other, none, got, ok)
			}
		}
	}
}

func TestTurnGroupSharesNothing(t *testing.T) {
	for _, pair := range [][2]int{{0, 0}, {6, 4}, {1, 0}} {
		first, _ := impl.TurnGroup(pair[0], pair[1])
		second, _ := impl.TurnGroup(pair[0], pair[1])
		want := slices.Clone(second)
		whole := first[:cap(first)]
		for i := range whole {
			whole[i] = -7
		}
		third, _ := impl.TurnGroup(pair[0], pair[1])
		if !slices.Equal(second, want) || !slices.Equal(third, want) {
			t.Errorf("TurnGroup %v shares memory: %v and %v and not %v", pair, second, third, want)
		}
	}
}
