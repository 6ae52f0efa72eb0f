package tests

import (
	"testing"

	"loop.example/turningwheels/impl"
)

// The declarations of the document, of every chapter: with a changed signature or type the tests do not build.

var (
	// l1_turns.go
	_ func(int, int) (int, bool)   = impl.TurnOf
	_ func(int, int) (int, bool)   = impl.TurnAdd
	_ func(int, int) (int, bool)   = impl.TurnTimes
	_ func(int) int                = impl.TurnOrder
	_ func(int) string             = impl.TurnText
	_ func(string) (int, bool)     = impl.TurnRead
	_ func(int, int) ([]int, bool) = impl.TurnGroup

	// l2_exact.go
	_ func(impl.Cyc) bool                       = impl.CycValid
	_ func(int) (impl.Cyc, bool)                = impl.CycRoot
	_ func(impl.Cyc, impl.Cyc) (impl.Cyc, bool) = impl.CycAdd
	_ func(impl.Cyc, impl.Cyc) (impl.Cyc, bool) = impl.CycLess
	_ func(impl.Cyc, impl.Cyc) (impl.Cyc, bool) = impl.CycTimes
	_ func(impl.Cyc, int) (impl.Cyc, bool)      = impl.CycTurned
	_ func(impl.Cyc) (impl.Cyc, bool)           = impl.CycMirror
	_ func(impl.Cyc, int) (impl.Cyc, bool)      = impl.CycScale
	_ func(int, int) (impl.Cyc, bool)           = impl.CycGauss
	_ func(impl.Cyc) bool                       = impl.CycReal

	// l3_surds.go
	_ func(impl.Surd) bool                         = impl.SurdValid
	_ func(impl.Cyc) (impl.Surd, bool)             = impl.SurdRe
	_ func(impl.Cyc) (impl.Surd, bool)             = impl.SurdIm
	_ func(impl.Surd, impl.Surd) (impl.Surd, bool) = impl.SurdAdd
	_ func(impl.Surd, impl.Surd) (impl.Surd, bool) = impl.SurdTimes
	_ func(impl.Surd) (int, bool)                  = impl.SurdSign
	_ func(impl.Surd, impl.Surd) (int, bool)       = impl.SurdCompare
	_ func(impl.Cyc) (impl.Surd, bool)             = impl.SurdNorm
	_ func(impl.Surd) (int, bool)                  = impl.SurdWhole

	// l4_widths.go
	_ func(int) (complex128, bool)               = impl.WideRoot
	_ func(int) (complex64, bool)                = impl.SingleRoot
	_ func(impl.Cyc) (complex128, bool)          = impl.WidePoint
	_ func(impl.Cyc) (complex64, bool)           = impl.SinglePoint
	_ func(complex128) (impl.Cyc, bool)          = impl.WideGauss
	_ func(impl.Cyc) bool                        = impl.PointsFit
	_ func(complex128, complex128, float64) bool = impl.PointsNear

	// l5_wheels.go
	_ func([]impl.Wheel) bool                               = impl.DesignValid
	_ func([]impl.Wheel) ([]impl.Wheel, bool)               = impl.DesignTidy
	_ func([]impl.Wheel, int) (impl.Cyc, bool)              = impl.DesignAt
	_ func([]impl.Wheel, []impl.Wheel) ([]impl.Wheel, bool) = impl.DesignSum
	_ func([]impl.Wheel, []impl.Wheel) ([]impl.Wheel, bool) = impl.DesignTimes
	_ func([]impl.Wheel, int) ([]impl.Wheel, bool)          = impl.DesignTurned
	_ func([]impl.Wheel, int) ([]impl.Wheel, bool)          = impl.DesignLater
	_ func([]impl.Wheel) ([]impl.Wheel, bool)               = impl.DesignBack
	_ func([]impl.Wheel) ([]impl.Wheel, bool)               = impl.DesignMirror
	_ func([]impl.Wheel, int) ([]impl.Wheel, bool)          = impl.DesignFaster
	_ func([]impl.Wheel, []impl.Wheel) bool                 = impl.DesignSame

	// l6_transforms.go
	_ func([]impl.Cyc) bool                           = impl.RowValid
	_ func([]impl.Wheel, int) ([]impl.Cyc, bool)      = impl.RowOf
	_ func([]impl.Cyc) ([]impl.Cyc, bool)             = impl.TransformOf
	_ func([]impl.Cyc) ([]impl.Cyc, bool)             = impl.TransformBack
	_ func([]impl.Cyc, int) ([]impl.Cyc, bool)        = impl.RowShift
	_ func([]impl.Cyc, []impl.Cyc) ([]impl.Cyc, bool) = impl.RowTimes
	_ func([]impl.Cyc, []impl.Cyc) ([]impl.Cyc, bool) = impl.RowCircular
	_ func([]impl.Cyc) (impl.Surd, bool)              = impl.RowSquares
	_ func([]impl.Cyc) ([]impl.Wheel, bool)           = impl.RowDesign

	// l7_symmetry.go
	_ func([]impl.Wheel) int                       = impl.DesignFold
	_ func([]impl.Wheel) int                       = impl.DesignPeriod
	_ func([]impl.Wheel) ([]int, bool)             = impl.DesignSpeeds
	_ func([]impl.Wheel, []impl.Wheel) (int, bool) = impl.DesignAkin
	_ func([]impl.Wheel) bool                      = impl.DesignMirrored
	_ func([]impl.Wheel) ([]int, bool)             = impl.DesignStill
	_ func([]impl.Wheel, int) bool                 = impl.DesignClosed
	_ func([]impl.Wheel) (impl.Cyc, bool)          = impl.DesignCentre

	// l8_polygons.go
	_ func([]impl.Cyc) bool                      = impl.PolyValid
	_ func(impl.Cyc, impl.Cyc) (impl.Surd, bool) = impl.PolyCross
	_ func([]impl.Cyc) (impl.Surd, bool)         = impl.PolyArea
	_ func([]impl.Cyc) ([]int, bool)             = impl.PolyBends
	_ func([]impl.Cyc) (int, bool)               = impl.PolyTurns
	_ func([]impl.Cyc) bool                      = impl.PolyConvex
	_ func([]impl.Cyc, impl.Cyc) bool            = impl.PolyOn
	_ func([]impl.Cyc, impl.Cyc) (int, bool)     = impl.PolyWinding
	_ func([]impl.Cyc) ([]impl.Cyc, bool)        = impl.PolyBack

	// l9_gears.go
	_ func([]int) (int, int, bool)                   = impl.TrainRatio
	_ func([]int) (int, bool)                        = impl.TrainTurns
	_ func(int, int) ([]int, bool)                   = impl.TrainFind
	_ func(int, int, bool) (int, bool)               = impl.RingCusps
	_ func(int, int, bool) (int, bool)               = impl.RingRounds
	_ func(int, int, bool, int) ([]impl.Wheel, bool) = impl.RingDesign
	_ func(int, int, int, int) bool                  = impl.RingSame

	// l10_pens.go
	_ func([]complex64) bool                         = impl.PathValid
	_ func([]impl.Cyc) ([]complex64, bool)           = impl.PathOf
	_ func(complex64, int) (impl.Move, bool)         = impl.GridPoint
	_ func([]complex64, int) ([]impl.Move, bool)     = impl.PathMoves
	_ func([]impl.Move, int) ([]complex64, bool)     = impl.MovesPath
	_ func([]impl.Move) ([]impl.Move, bool)          = impl.MovesTidy
	_ func([]impl.Move) int                          = impl.MovesLength
	_ func([]complex64) (complex64, complex64, bool) = impl.PathBox
	_ func([]complex64, []complex64) (float32, bool) = impl.PathFar

	// l11_swings.go
	_ func(impl.Swing) bool                     = impl.SwingValid
	_ func(impl.Swing, int) (complex64, bool)   = impl.SwingAt
	_ func(impl.Swing, int) (complex128, bool)  = impl.SwingWide
	_ func(impl.Swing) (int, bool)              = impl.SwingRest
	_ func(impl.Swing) (int, bool)              = impl.SwingSmall
	_ func(impl.Swing) (int, bool)              = impl.SwingLost
	_ func(impl.Swing, int) ([]complex64, bool) = impl.SwingPath
	_ func(impl.Swing, int) (complex64, bool)   = impl.SwingSum

	// l12_plotter.go
	_ func(string) bool                   = impl.PlotValid
	_ func(string) int                    = impl.PlotSteps
	_ func(string) (string, bool)         = impl.PlotFlat
	_ func(string) (impl.Move, int, bool) = impl.PlotEnd
	_ func(string) (int, int, bool)       = impl.PlotEdges
	_ func(string) ([]impl.Move, bool)    = impl.PlotMoves
	_ func(string) (string, bool)         = impl.PlotFold
	_ func(string) (string, bool)         = impl.PlotMirror

	// l13_book.go
	_ func([]impl.Wheel) (string, bool)       = impl.DesignText
	_ func(string) ([]impl.Wheel, bool)       = impl.DesignRead
	_ func([]impl.Wheel) (uint32, bool)       = impl.DesignCheck
	_ func([]impl.Wheel) (impl.Entry, bool)   = impl.EntryMake
	_ func(impl.Entry) bool                   = impl.EntryRight
	_ func([]impl.Entry, []impl.Wheel) int    = impl.BookFind
	_ func([]impl.Entry) ([]impl.Entry, bool) = impl.BookSort

	// l14_session.go
	_ func(string) string = impl.Execute
)

var (
	_ = impl.Cyc{C: [8]int{}}
	_ = impl.Surd{A: int(0), B: int(0), C: int(0), D: int(0)}
	_ = impl.Wheel{Speed: int(0), Radius: impl.Cyc{}}
	_ = impl.Move{X: int(0), Y: int(0)}
	_ = impl.Swing{Start: complex64(0), Turn: int(0), Shift: int(0)}
	_ = impl.Entry{Text: string(""), Sum: uint32(0)}
)

func TestConstants(t *testing.T) {
	cases := []struct {
		name      string
		got, want int
	}{
		{"Whole", impl.Whole, 24},
		{"CoefMax", impl.CoefMax, 1000000},
		{"SurdMax", impl.SurdMax, 10000000},
		{"WheelsMax", impl.WheelsMax, 12},
		{"CornersMax", impl.CornersMax, 48},
		{"TeethMax", impl.TeethMax, 240},
		{"GridMax", impl.GridMax, 8},
		{"PathMax", impl.PathMax, 100},
		{"SwingMax", impl.SwingMax, 400},
		{"StepsMax", impl.StepsMax, 500},
		{"MaxScript", impl.MaxScript, 900},
	}
	for _, c := range cases {
		if c.got != c.want {
			t.Errorf("%s is %d and not %d", c.name, c.got, c.want)
		}
	}
}
