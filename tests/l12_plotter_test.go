package tests

import (
	"math/rand/v2"
	"regexp"
	"slices"
	"strconv"
	"strings"
	"testing"

	"loop.example/turningwheels/impl"
)

const (
	mostProgramBytes = 400
	mostProgramSteps = 500
	plotSteps        = "udneswt"
)

// A loop around steps alone, and a program of steps alone: with the innermost loops done until there is none, each program is the second one.
var (
	innermostLoop = regexp.MustCompile(`r([1-9])((?: [` + plotSteps + `])+) \]`)
	stepsAlone    = regexp.MustCompile(`^[` + plotSteps + `](?: [` + plotSteps + `])*$`)
)

// foldableRuns finds, from left to right, the longest runs of four to nine of the same step: the words of three have fewer bytes than a loop.
var foldableRuns = regexp.MustCompile(`u(?: u){3,8}|d(?: d){3,8}|n(?: n){3,8}|e(?: e){3,8}|s(?: s){3,8}|w(?: w){3,8}|t(?: t){3,8}`)

// plotted is what a plotter program does.
type plotted struct {
	steps     int
	flat      string
	end       impl.Move
	quarters  int
	edges     int
	different int
	moves     []impl.Move
}

// flatByHand does the innermost loops of a text, one after the other.
func flatByHand(s string) (string, bool) {
	if len(s) > mostProgramBytes {
		return "", false
	}
	for place := innermostLoop.FindStringSubmatchIndex(s); place != nil; place = innermostLoop.FindStringSubmatchIndex(s) {
		body := s[place[4]:place[5]]
		times := int(s[place[2]] - '0')
		s = s[:place[0]] + strings.Repeat(body, times)[1:] + s[place[1]:]
		if stepsIn(s) > mostProgramSteps {
			return "", false
		}
	}
	return s, stepsAlone.MatchString(s) && stepsIn(s) <= mostProgramSteps
}

func stepsIn(s string) int {
	count := 0
	for _, letter := range plotSteps {
		count += strings.Count(s, string(letter))
	}
	return count
}

func moveOfPlace(z complex128) impl.Move {
	return move(int(real(z)), int(imag(z)))
}

// plottedByHand draws in the plane of complex numbers, where a quarter to the left is a product with i. Each edge is kept both ways.
func plottedByHand(s string) (plotted, bool) {
	flat, ok := flatByHand(s)
	if !ok {
		return plotted{}, false
	}
	result := plotted{steps: stepsIn(flat), flat: flat}
	ahead := map[byte]complex128{'n': 1i, 'e': 1, 's': -1i, 'w': -1}
	both := map[[2]complex128]bool{}
	down, place, turned := false, complex128(0), complex128(1)
	for _, word := range strings.Fields(flat) {
		direction, moves := ahead[word[0]]
		switch {
		case moves:
			next := place + direction*turned
			result.moves = append(result.moves, moveOfPlace(next-place))
			if down {
				result.edges++
				both[[2]complex128{place, next}], both[[2]complex128{next, place}] = true, true
			}
			place = next
		case word == "t":
			turned *= 1i
			result.quarters = (result.quarters + 1) % 4
		default:
			down = word == "d"
		}
	}
	result.end, result.different = moveOfPlace(place), len(both)/2
	return result, true
}

func foldByHandOf(s string) string {
	return foldableRuns.ReplaceAllStringFunc(s, func(run string) string {
		return looped(len(run)/2+1, run[:1])
	})
}

// looped returns a loop around a text.
func looped(times int, s string) string {
	return "r" + strconv.Itoa(times) + " " + s + " ]"
}

// nested returns a text in so many loops, one in the other.
func nested(loops int, times int, s string) string {
	for range loops {
		s = looped(times, s)
	}
	return s
}

// wordsOf returns a word so many times.
func wordsOf(count int, word string) string {
	return strings.Join(slices.Repeat([]string{word}, count), " ")
}

func plotName(name string, s string) string {
	return name + " of " + strconv.Quote(s)
}

func wantText(t *testing.T, what string, got string, ok bool, want string, wantOK bool) {
	t.Helper()
	if got != want || ok != wantOK {
		t.Errorf("%s returned %q, %t and not %q, %t", what, got, ok, want, wantOK)
	}
}

func wantPlotSteps(t *testing.T, s string, want int) {
	t.Helper()
	if got := impl.PlotSteps(s); got != want {
		t.Errorf("%s returned %d and not %d", plotName("PlotSteps", s), got, want)
	}
	wantHolds(t, plotName("PlotValid", s), impl.PlotValid(s), want >= 0)
}

func wantFlat(t *testing.T, s string, want string, wantOK bool) {
	t.Helper()
	got, ok := impl.PlotFlat(s)
	wantText(t, plotName("PlotFlat", s), got, ok, want, wantOK)
}

func wantEnd(t *testing.T, s string, want impl.Move, quarters int, wantOK bool) {
	t.Helper()
	got, gotQuarters, ok := impl.PlotEnd(s)
	if got != want || gotQuarters != quarters || ok != wantOK {
		t.Errorf("%s returned %v, %d, %t and not %v, %d, %t", plotName("PlotEnd", s), got, gotQuarters, ok, want, quarters, wantOK)
	}
}

func wantEdges(t *testing.T, s string, edges int, different int, wantOK bool) {
	t.Helper()
	got, gotDifferent, ok := impl.PlotEdges(s)
	if got != edges || gotDifferent != different || ok != wantOK {
		t.Errorf("%s returned %d, %d, %t and not %d, %d, %t", plotName("PlotEdges", s), got, gotDifferent, ok, edges, different, wantOK)
	}
}

func wantPlotMoves(t *testing.T, s string, want []impl.Move, wantOK bool) {
	t.Helper()
	got, ok := impl.PlotMoves(s)
	wantMoves(t, plotName("PlotMoves", s), got, ok, want, wantOK)
}

func wantFold(t *testing.T, s string, want string, wantOK bool) {
	t.Helper()
	got, ok := impl.PlotFold(s)
	wantText(t, plotName("PlotFold", s), got, ok, want, wantOK)
}

func wantMirror(t *testing.T, s string, want string, wantOK bool) {
	t.Helper()
	got, ok := impl.PlotMirror(s)
	wantText(t, plotName("PlotMirror", s), got, ok, want, wantOK)
}

// wantNoProgram checks that all functions fail, each with its zero values.
func wantNoProgram(t *testing.T, s string) {
	t.Helper()
	wantPlotSteps(t, s, -1)
	wantFlat(t, s, "", false)
	wantEnd(t, s, impl.Move{}, 0, false)
	wantEdges(t, s, 0, 0, false)
	wantPlotMoves(t, s, nil, false)
	wantFold(t, s, "", false)
	wantMirror(t, s, "", false)
}

// checkPlot compares all functions with the program by hand, and reports whether the text is a program.
func checkPlot(t *testing.T, s string) bool {
	t.Helper()
	want, ok := plottedByHand(s)
	if !ok {
		wantNoProgram(t, s)
		return false
	}
	wantPlotSteps(t, s, want.steps)
	wantEnd(t, s, want.end, want.quarters, true)
	wantEdges(t, s, want.edges, want.different, true)
	if len(want.flat) <= mostProgramBytes {
		wantFlat(t, s, want.flat, true)
	} else {
		wantFlat(t, s, "", false)
	}
	if len(want.moves) <= mostPath {
		wantPlotMoves(t, s, want.moves, true)
	} else {
		wantPlotMoves(t, s, nil, false)
	}
	if strings.Contains(s, "r") {
		wantFold(t, s, "", false)
	} else {
		wantFold(t, s, foldByHandOf(s), true)
	}
	if strings.Contains(s, "t") {
		wantMirror(t, s, "", false)
	} else {
		wantMirror(t, s, strings.NewReplacer("e", "w", "w", "e").Replace(s), true)
	}
	return true
}

// Programs at the limits: of as many bytes, or steps, or moves as there may be, and of one more.
var (
	fullSteps     = "r5 r5 r5 r4 e ] ] ] ]"
	fullBytes     = looped(1, wordsOf(197, "e")) + " n"
	fullBoth      = looped(3, wordsOf(151, "n")) + " " + wordsOf(47, "e")
	tooManySteps  = "e " + fullSteps
	tooManyAtFull = looped(4, wordsOf(101, "n")) + " " + wordsOf(97, "e")
	deepest       = nested(79, 1, "d e n")
	tooDeep       = nested(79, 1, "d e n e")
	fullFlat      = "r5 r5 r8 e ] ] ]"
	fullMoves     = "r5 r5 r4 e ] ] ]"
)

// plotPrograms returns programs: ordinary ones, and those at the limits.
func plotPrograms() []string {
	list := []string{
		"u", "d", "n", "e", "s", "w", "t", "e n", "d e", "d e e n", "t e", "e t", "t t t t t e", "d r4 e t ]", "r1 e ]", "r9 e ]", "r2 u ]", "r3 t ]",
		"r2 e ] r3 n ]", "r2 r3 e ] ]", "r2 r3 r4 e ] n ] s ]", "r2 e r2 n r2 w ] s ] d ]", "r1 r1 r1 t ] ] ]", "r9 r9 r6 e ] ] ]",
		"d e w", "d e n w s n e s w", "d r2 r4 e t ] ]", "u e d w u e d w", "d e u w n d e", "d r9 e w ] u r9 e w ]", "e d u d u n",
		fullSteps, fullBytes, fullBoth, deepest, fullFlat, fullMoves, "e " + fullFlat, "e " + fullMoves, wordsOf(200, "d"), wordsOf(199, "t") + " n",
		wordsOf(100, "w"), wordsOf(101, "s"), nested(8, 2, "e"), nested(78, 1, looped(2, "d e n")), "r9 r9 t ] ] r9 r9 e ] ] r9 r9 d ] ] r9 r9 n ] ]",
		looped(2, fullMoves), looped(5, fullMoves), "u " + looped(4, "d "+fullMoves+" t"), "r7 d e r5 t ] ]", "r9 r9 r6 u ] ] ] " + wordsOf(14, "d"),
	}
	for count := 1; count <= 30; count++ {
		list = append(list, wordsOf(count, "e"), "n "+wordsOf(count, "d")+" n", wordsOf(count, "t")+" "+wordsOf(count, "w"), wordsOf(count, "u d d d d"))
	}
	for times := 1; times <= 9; times++ {
		list = append(list, looped(times, "e"), looped(times, "d n t"), looped(times, looped(times, "d e t n")), "s "+looped(times, "u s d"), nested(2, times, "n w u"), nested(min(times, 7), 2, "n t w"))
	}
	return list
}

// noPrograms returns texts that are no programs, though most are nearly ones.
func noPrograms() []string {
	list := []string{
		"", " ", "  ", "\n", "\x00", "x", "E", "r", "]", "[", "é", "е", "ｅ", "\xff", "\xc3", "e\n", "\te", "e\x00", "\ufeffe",
		" e", "e ", " e ", "e  n", "e n ", "  e n", "e   n", "e\tn", "e\nn", "e\u00a0n", "e,n", "en", "e en", "ee n", "e x", "e x n", "x e", "e E", "N e", "e 1", "1 e", "e -",
		"r0 e ]", "r10 e ]", "r11 e ]", "r00 e ]", "r01 e ]", "r-1 e ]", "r+2 e ]", "r: e ]", "r/ e ]", "ra e ]", "r e ]", "r 2 e ]", "R2 e ]", "2 e ]", "2r e ]", "rr2 e ]", "r2r2 e ]", "r２ e ]", "r٢ e ]", "r² e ]", "r\x00 e ]", "r\xb2 e ]",
		"r1 ]", "r2 ]", "r9 ]", "r2  ]", "r2 r3 ] ]", "r2 r3 ] e ]", "r2 e r3 ] ]", "e r2 ]", "r2 ] e", "r1 r1 r1 ] ] ]",
		"r2", "r2 e", "e r2", "r2 e n", "r2 r3 e ]", "r2 e ] r3", "r2 e ] r3 n", "r2 r2 r2", "r9 r9 r9 e ] ]",
		"] e", "e ]", "e ] n", "] ]", "r2 e ] ]", "r2 e ] ] n", "r2 r3 e ] ] ]", "] r2 e ]", "e ] r2 e", "r2 e ] n ]",
		"r2e ]", "r2 e]", "r2 e ]n", "r2 e ]]", "r2 e  ]", "r2  e ]", "r2 e ] ", " r2 e ]", "r2 e [", "[2 e ]", "(r2 e )", "r2 e ] x", "r2 x ]", "r2 E ]",
		tooManySteps, tooManyAtFull, tooDeep, wordsOf(201, "e"), fullBytes + " ", " " + fullBytes, "e" + fullBytes, fullBytes + "\x00", fullFlat + strings.Repeat(" ", 400),
		"r9 r8 r7 e ] ] ]", "r2 " + fullSteps + " ]", fullSteps + " e", nested(9, 2, "e"), nested(79, 9, "e"), nested(79, 2, "d e n"), nested(60, 9, "e") + " x", nested(60, 9, "e") + " ]",
		nested(40, 9, "e") + " " + nested(39, 9, "e"), "r5 r5 r5 r4 e ] ] ] ] " + nested(20, 1, "t"), "r9 r9 r6 u ] ] ] " + wordsOf(15, "d"), "r9 " + nested(70, 1, "e") + " " + wordsOf(10, "n"),
		wordsOf(132, "r9"), wordsOf(133, "r1") + "e", wordsOf(200, "]"), strings.Repeat(" ", 400), strings.Repeat("e", 399), strings.Repeat("r", 400), strings.Repeat("e ", 200), strings.Repeat(" e", 200),
		wordsOf(100000, "e"), strings.Repeat("r9 ", 100000), nested(1000, 1, "e"),
	}
	for b := range 256 {
		if word := string([]byte{byte(b)}); !strings.Contains(plotSteps, word) {
			list = append(list, word, "e "+word, word+" e", "e "+word+" n", "r2 "+word+" ]", "r2 e ] "+word)
		}
		if b < '1' || b > '9' {
			list = append(list, string([]byte{'r', byte(b)})+" e ]", string([]byte{'r', '2', byte(b)})+" e ]")
		}
		list = append(list, string([]byte{'e', byte(b)}), string([]byte{byte(b), 'e'}))
	}
	return list
}

// randomProgram returns words with loops, so many deep at most, which may make too many steps.
func randomProgram(source *rand.Rand, count int, deep int, steps string) string {
	var words []string
	for range count {
		step := steps[source.IntN(len(steps)):][:1]
		switch {
		case deep > 0 && source.IntN(4) == 0:
			words = append(words, looped(1+source.IntN(9), randomProgram(source, 1+source.IntN(3), deep-1, steps)))
		case source.IntN(3) == 0:
			words = append(words, wordsOf(1+source.IntN(12), step))
		default:
			words = append(words, step)
		}
	}
	return strings.Join(words, " ")
}

// randomPrograms returns texts of which most are programs: with all steps, without turns, without loops, and short ones.
func randomPrograms(count int) []string {
	source := rand.New(rand.NewPCG(12, 97))
	var list []string
	for k := range count {
		list = append(list, randomProgram(source, 1+source.IntN(12), k%5, plotSteps), randomProgram(source, 1+source.IntN(8), k%4, "udnesw"))
		list = append(list, randomProgram(source, 1+source.IntN(6), 0, plotSteps), "d "+randomProgram(source, 1+source.IntN(30), 1, "nnesswt"), randomProgram(source, 2, 1, "ew"))
	}
	return list
}

// broken returns a text with one byte changed, put in, or left out.
func broken(source *rand.Rand, s string) string {
	const letters = "udneswtr]  1290x"
	place := source.IntN(len(s))
	letter := letters[source.IntN(len(letters)):][:1]
	switch source.IntN(3) {
	case 0:
		return s[:place] + letter + s[place+1:]
	case 1:
		return s[:place] + letter + s[place:]
	}
	return s[:place] + s[place+1:]
}

func TestPlotValidTold(t *testing.T) {
	for _, s := range plotPrograms() {
		wantHolds(t, plotName("PlotValid", s), impl.PlotValid(s), true)
	}
	for _, s := range noPrograms() {
		wantHolds(t, plotName("PlotValid", s), impl.PlotValid(s), false)
	}
	for s, want := range map[string]int{fullBytes: 400, fullBoth: 400, deepest: 400, tooManyAtFull: 400, wordsOf(201, "e"): 401, wordsOf(200, "e"): 399} {
		if len(s) != want {
			t.Errorf("a text of %d bytes and not %d is tested: %q", len(s), want, s)
		}
	}
}

func TestPlotPrograms(t *testing.T) {
	for _, s := range plotPrograms() {
		if !checkPlot(t, s) {
			t.Errorf("%q is no program by hand", s)
		}
	}
	for _, s := range noPrograms() {
		wantNoProgram(t, s)
		if _, ok := plottedByHand(s); ok {
			t.Errorf("%q is a program by hand", s)
		}
	}
}

func TestPlotRandomPrograms(t *testing.T) {
	source := rand.New(rand.NewPCG(12, 120))
	whole, broke := map[bool]int{}, map[bool]int{}
	for _, s := range randomPrograms(1500) {
		whole[checkPlot(t, s)]++
		broke[checkPlot(t, broken(source, s))]++
	}
	if whole[true] < 3000 || whole[false] < 150 || broke[true] < 300 || broke[false] < 3000 {
		t.Errorf("too few texts are, or are not, programs: %v, and broken ones: %v", whole, broke)
	}
}

// eachText calls a function with all texts of up to so many parts, with a text between two parts.
func eachText(parts []string, most int, between string, use func(s string)) {
	texts := []string{""}
	for range most {
		var longer []string
		for _, s := range texts {
			for _, part := range parts {
				text := part
				if s != "" {
					text = s + between + part
				}
				use(text)
				longer = append(longer, text)
			}
		}
		texts = longer
	}
}

func TestPlotShortTexts(t *testing.T) {
	count := map[bool]int{}
	eachText([]string{"e", "t", "d", "r2", "r3", "]"}, 6, " ", func(s string) { count[checkPlot(t, s)]++ })
	eachText([]string{"w", "r", "1", "0", "]", " "}, 6, "", func(s string) { count[checkPlot(t, s)]++ })
	if count[true] < 1000 || count[false] < 1000 {
		t.Errorf("%d short texts are programs, and %d are not", count[true], count[false])
	}
}

func TestPlotStepsTold(t *testing.T) {
	for s, want := range map[string]int{
		"e": 1, "u d": 2, "d r4 e t ]": 9, "r1 e ]": 1, "r9 e ]": 9, "r2 e n ]": 4, "r2 e ] r3 n ]": 5, "r2 e r3 n ] ]": 8, "r2 r3 r4 e ] n ] s ]": 32, "r9 r9 e ] ]": 81,
		"r9 r9 r6 e ] ] ]": 486, fullSteps: 500, fullBytes: 198, fullBoth: 500, deepest: 3, nested(8, 2, "t"): 256, fullFlat: 200, wordsOf(200, "u"): 200,
		tooManySteps: -1, tooManyAtFull: -1, "r9 r8 r7 e ] ] ]": -1, nested(9, 2, "t"): -1, nested(79, 9, "e"): -1, "": -1, "r2 ]": -1, "e ]": -1, "r2 e": -1, wordsOf(201, "e"): -1,
	} {
		wantPlotSteps(t, s, want)
	}
}

func TestPlotFlatTold(t *testing.T) {
	for s, want := range map[string]string{
		"e": "e", "u d n e s w t": "u d n e s w t", "r1 e ]": "e", "r2 e ]": "e e", "r3 e n ]": "e n e n e n", "r2 e ] r3 n ]": "e e n n n", "d r2 e r2 n ] t ] w": "d e n n t e n n t w",
		"r2 r2 r2 e ] n ] s ]": "e e n e e n s e e n e e n s", "r9 u ]": "u u u u u u u u u", fullFlat: wordsOf(200, "e"), wordsOf(200, "d"): wordsOf(200, "d"), fullBytes: wordsOf(197, "e") + " n", deepest: "d e n",
	} {
		wantFlat(t, s, want, true)
	}
	for _, s := range []string{fullFlat + " e", "e " + fullFlat, fullSteps, fullBoth, nested(8, 2, "e"), looped(3, wordsOf(67, "e")), looped(2, wordsOf(100, "t")) + " u"} {
		wantFlat(t, s, "", false)
		wantHolds(t, plotName("PlotValid", s), impl.PlotValid(s), true)
	}
}

func TestPlotEndTold(t *testing.T) {
	cases := []struct {
		s        string
		want     impl.Move
		quarters int
	}{
		{"n", move(0, 1), 0},
		{"e", move(1, 0), 0},
		{"s", move(0, -1), 0},
		{"w", move(-1, 0), 0},
		{"u", move(0, 0), 0},
		{"d", move(0, 0), 0},
		{"d n n e", move(1, 2), 0},
		{"u n n e", move(1, 2), 0},
		{"t", move(0, 0), 1},
		{"t t", move(0, 0), 2},
		{"t t t", move(0, 0), 3},
		{"t t t t", move(0, 0), 0},
		{"t n", move(-1, 0), 1},
		{"t e", move(0, 1), 1},
		{"t s", move(1, 0), 1},
		{"t w", move(0, -1), 1},
		{"t t n", move(0, -1), 2},
		{"t t e", move(-1, 0), 2},
		{"t t t n", move(1, 0), 3},
		{"t t t e", move(0, -1), 3},
		{"t t t s", move(-1, 0), 3},
		{"t t t w", move(0, 1), 3},
		{"t t t t n", move(0, 1), 0},
		{"e t", move(1, 0), 1},
		{"e t e t e", move(0, 1), 2},
		{"r4 e t ]", move(0, 0), 0},
		{"r5 t ] e", move(0, 1), 1},
		{"r9 r9 t ] ] e", move(0, 1), 1},
		{"r3 e e t ]", move(0, 2), 3},
		{"r3 r3 t ] w ]", move(1, 0), 1},
		{fullSteps, move(500, 0), 0},
		{fullBoth, move(47, 453), 0},
		{"r5 r5 r5 r4 t ] ] ] ]", move(0, 0), 0},
		{"r9 r9 r6 t ] ] ] e", move(-1, 0), 2},
	}
	for _, c := range cases {
		wantEnd(t, c.s, c.want, c.quarters, true)
	}
}

func TestPlotEdgesTold(t *testing.T) {
	cases := []struct {
		s         string
		edges     int
		different int
	}{
		{"e", 0, 0},
		{"u e n", 0, 0},
		{"d", 0, 0},
		{"d t u", 0, 0},
		{"d e", 1, 1},
		{"e d", 0, 0},
		{"e d w", 1, 1},
		{"d d e", 1, 1},
		{"d u e", 0, 0},
		{"d u d e u e", 1, 1},
		// There and back, and there again.
		{"d e w", 2, 1},
		{"d w e", 2, 1},
		{"d n s", 2, 1},
		{"d s n s", 3, 1},
		{"d e u w d e", 2, 1},
		{"d e u w u e d w", 2, 1},
		// Each edge from the middle to a neighbour is another one.
		{"d e w n s w e s n", 8, 4},
		// Once around, twice around, and around the other way.
		{"d e n w s", 4, 4},
		{"d r4 e t ]", 4, 4},
		{"d r2 r4 e t ] ]", 8, 4},
		{"d e n w s n e s w", 8, 4},
		{"d s w n e w s e n", 8, 4},
		{"d r4 e t ] r4 n t t t ]", 8, 4},
		// Edges beside each other, and one behind the other.
		{"d e u w n d e", 2, 2},
		{"d n u e s d n", 2, 2},
		{"d e e", 2, 2},
		{"d e e w w", 4, 2},
		{"d w w w e e e e", 7, 4},
		{"r2 d e u e ]", 2, 2},
		{"d r9 r9 r3 e w ] ] ]", 486, 1},
		{"d r9 r9 r6 e ] ] ]", 486, 486},
		{"d r5 r9 e ] t t r9 e ] t t ]", 90, 9},
		{"u " + fullMoves + " d " + fullMoves, 100, 100},
	}
	for _, c := range cases {
		wantEdges(t, c.s, c.edges, c.different, true)
	}
}

func TestPlotMovesTold(t *testing.T) {
	cases := []struct {
		s    string
		want []impl.Move
	}{
		{"u", nil},
		{"r9 d ]", nil},
		{"t t t", nil},
		{"n e s w", movesOf(0, 1, 1, 0, 0, -1, -1, 0)},
		{"d n e s w", movesOf(0, 1, 1, 0, 0, -1, -1, 0)},
		{"u e d e u e", movesOf(1, 0, 1, 0, 1, 0)},
		{"t n e s w", movesOf(-1, 0, 0, 1, 1, 0, 0, -1)},
		{"r4 e t ]", movesOf(1, 0, 0, 1, -1, 0, 0, -1)},
		{"r2 e r2 n ] t ]", movesOf(1, 0, 0, 1, 0, 1, 0, 1, -1, 0, -1, 0)},
		{"e w", movesOf(1, 0, -1, 0)},
		{fullMoves, slices.Repeat(movesOf(1, 0), 100)},
		{wordsOf(100, "w"), slices.Repeat(movesOf(-1, 0), 100)},
		{"r5 r5 r4 t t t n ] ] ]", slices.Repeat(movesOf(1, 0, 0, -1, -1, 0, 0, 1), 25)},
	}
	for _, c := range cases {
		wantPlotMoves(t, c.s, c.want, true)
	}
	for _, s := range []string{fullMoves + " n", "n " + fullMoves, wordsOf(101, "w"), looped(2, fullMoves), fullSteps, "u " + wordsOf(50, "e w") + " e"} {
		wantPlotMoves(t, s, nil, false)
		wantHolds(t, plotName("PlotValid", s), impl.PlotValid(s), true)
	}
}

func TestPlotFoldTold(t *testing.T) {
	for s, want := range map[string]string{
		"e": "e", "e e": "e e", "e e e": "e e e", "e e e e": "r4 e ]", "e e e e e": "r5 e ]", wordsOf(8, "e"): "r8 e ]", wordsOf(9, "e"): "r9 e ]", wordsOf(10, "e"): "r9 e ] e",
		wordsOf(12, "e"): "r9 e ] e e e", wordsOf(13, "e"): "r9 e ] r4 e ]", wordsOf(18, "e"): "r9 e ] r9 e ]", wordsOf(19, "e"): "r9 e ] r9 e ] e", wordsOf(22, "e"): "r9 e ] r9 e ] r4 e ]",
		"u u u u": "r4 u ]", "d d d d": "r4 d ]", "n n n n": "r4 n ]", "s s s s": "r4 s ]", "w w w w": "r4 w ]", "t t t t": "r4 t ]",
		"e e e n e e e": "e e e n e e e", "n e e e e": "n r4 e ]", "e e e e n": "r4 e ] n", "e e e e n n n n": "r4 e ] r4 n ]", "e n e n e n e n": "e n e n e n e n", "d e e e e e u n n n w w w w": "d r5 e ] u n n n r4 w ]",
		wordsOf(200, "t"): wordsOf(22, "r9 t ]") + " t t",
	} {
		wantFold(t, s, want, true)
	}
	for _, s := range []string{"r1 e ]", "r9 e ]", "e e e e r1 n ]", "r2 e ] n n n n", "r2 r2 e ] ]", fullSteps, fullBytes, deepest} {
		wantFold(t, s, "", false)
		wantHolds(t, plotName("PlotValid", s), impl.PlotValid(s), true)
	}
}

func TestPlotMirrorTold(t *testing.T) {
	for s, want := range map[string]string{
		"e": "w", "w": "e", "n": "n", "s": "s", "u": "u", "d": "d", "e w": "w e", "d e n w s u": "d w n e s u", "r4 e ]": "r4 w ]", "r2 e r3 w ] n ] e": "r2 w r3 e ] n ] w",
		fullSteps: "r5 r5 r5 r4 w ] ] ] ]", fullBytes: looped(1, wordsOf(197, "w")) + " n", deepest: nested(79, 1, "d w n"),
	} {
		wantMirror(t, s, want, true)
	}
	for _, s := range []string{"t", "e t", "t e", "r2 t ]", "r2 e r1 t ] ] w", "t t t t e", "d r4 e t ]", wordsOf(199, "e") + " t"} {
		wantMirror(t, s, "", false)
		wantHolds(t, plotName("PlotValid", s), impl.PlotValid(s), true)
	}
}

// promisedPrograms returns texts to hold the promises against: programs, nearly all of them.
func promisedPrograms() []string {
	return slices.Concat(plotPrograms(), randomPrograms(600))
}

// counted counts how often a promise has something to hold for.
func counted(t *testing.T, name string, least int, hold func(s string) bool) {
	t.Helper()
	count := 0
	for _, s := range promisedPrograms() {
		if hold(s) {
			count++
		}
	}
	if count < least {
		t.Errorf("the promise of %s was held against %d texts only", name, count)
	}
}

func TestPlotValidPromise(t *testing.T) {
	counted(t, "PlotValid", 1500, func(s string) bool {
		once := looped(1, s)
		if !impl.PlotValid(s) || !impl.PlotValid(once) {
			wantHolds(t, plotName("PlotValid", once), impl.PlotValid(once), impl.PlotValid(s) && len(once) <= mostProgramBytes)
			return false
		}
		wantPlotSteps(t, once, impl.PlotSteps(s))
		end, quarters, ok := impl.PlotEnd(s)
		wantEnd(t, once, end, quarters, ok)
		edges, different, ok := impl.PlotEdges(s)
		wantEdges(t, once, edges, different, ok)
		return true
	})
}

func TestPlotStepsPromise(t *testing.T) {
	counted(t, "PlotSteps", 1000, func(s string) bool {
		steps, thrice := impl.PlotSteps(s), looped(3, s)
		if steps < 0 || 3*steps > mostProgramSteps || len(thrice) > mostProgramBytes {
			wantPlotSteps(t, thrice, -1)
			return false
		}
		wantPlotSteps(t, thrice, 3*steps)
		return true
	})
}

func TestPlotFlatPromise(t *testing.T) {
	counted(t, "PlotFlat", 1500, func(s string) bool {
		flat, ok := impl.PlotFlat(s)
		if !ok {
			return false
		}
		wantPlotSteps(t, flat, impl.PlotSteps(s))
		end, quarters, endOK := impl.PlotEnd(s)
		wantEnd(t, flat, end, quarters, endOK)
		wantFlat(t, flat, flat, true)
		return true
	})
}

func TestPlotEndPromise(t *testing.T) {
	counted(t, "PlotEnd", 1500, func(s string) bool {
		end, quarters, _ := impl.PlotEnd(s)
		moves, ok := impl.PlotMoves(s)
		if !ok {
			return false
		}
		x, y := reachedByHand(moves, len(moves))
		if end != move(x, y) || quarters < 0 || quarters > 3 {
			t.Errorf("%s returned %v, %d, and the moves lead to %d, %d", plotName("PlotEnd", s), end, quarters, x, y)
		}
		return true
	})
}

func TestPlotEdgesPromise(t *testing.T) {
	counted(t, "PlotEdges", 1000, func(s string) bool {
		edges, different, ok := impl.PlotEdges(s)
		if different > edges || different < 0 || (different == 0) != (edges == 0) {
			t.Errorf("%s returned %d, %d, %t", plotName("PlotEdges", s), edges, different, ok)
		}
		twice, _, twiceOK := impl.PlotEdges(looped(2, "u "+s))
		if ok && twiceOK && twice != 2*edges {
			t.Errorf("%s returned %d, and twice %d", plotName("PlotEdges", s), edges, twice)
		}
		return ok && twiceOK && edges > 0
	})
}

func TestPlotMovesPromise(t *testing.T) {
	counted(t, "PlotMoves", 1500, func(s string) bool {
		moves, ok := impl.PlotMoves(s)
		for _, m := range moves {
			if m.X*m.X+m.Y*m.Y != 1 {
				t.Errorf("%s has the move %v", plotName("PlotMoves", s), m)
			}
		}
		if length := impl.MovesLength(moves); length != len(moves) {
			t.Errorf("%s are %d moves of the length %d", plotName("PlotMoves", s), len(moves), length)
		}
		return ok && len(moves) > 0
	})
}

func TestPlotFoldPromise(t *testing.T) {
	counted(t, "PlotFold", 500, func(s string) bool {
		fold, ok := impl.PlotFold(s)
		if !ok {
			return false
		}
		if len(fold) > len(s) {
			t.Errorf("%s returned %q, which is longer", plotName("PlotFold", s), fold)
		}
		flat, flatOK := impl.PlotFlat(s)
		wantFlat(t, fold, flat, flatOK)
		return fold != s
	})
}

func TestPlotMirrorPromise(t *testing.T) {
	counted(t, "PlotMirror", 500, func(s string) bool {
		mirror, ok := impl.PlotMirror(s)
		if !ok {
			return false
		}
		wantMirror(t, mirror, s, true)
		end, quarters, endOK := impl.PlotEnd(s)
		wantEnd(t, mirror, move(-end.X, end.Y), quarters, endOK)
		return mirror != s
	})
}

// TestPlotMovesResults checks that results share no memory with each other: each is told again when one is written over.
func TestPlotMovesResults(t *testing.T) {
	for _, s := range []string{"u", "e", "d r4 e t ]", fullMoves} {
		first, ok := impl.PlotMoves(s)
		want := slices.Clone(first)
		second, secondOK := impl.PlotMoves(s)
		scribbleMoves(first)
		third, thirdOK := impl.PlotMoves(s)
		wantMoves(t, plotName("PlotMoves again", s), second, secondOK, want, ok)
		wantMoves(t, plotName("PlotMoves once more", s), third, thirdOK, want, ok)
	}
}
