package sample

import (
	"math"
	"slices"

	"straggle/api"
)

// edge is the greatest part that a point may have.
const edge = api.MaxCoord

// Field is one of an event's numbers: where it stands, and the greatest that it may be.
type Field struct {
	Name string
	Of   func(e *api.Event) *int
	Most int
}

// Fields are all of an event's numbers.
func Fields() []Field {
	return []Field{
		{"Ts", func(e *api.Event) *int { return &e.Ts }, 1 << 40},
		{"Src", func(e *api.Event) *int { return &e.Src }, 3},
		{"Seq", func(e *api.Event) *int { return &e.Seq }, 1 << 20},
		{"Kind", func(e *api.Event) *int { return &e.Kind }, 5},
	}
}

// With is e with another number in that field.
func With(e api.Event, f Field, n int) api.Event {
	*f.Of(&e) = n
	return e
}

// Beyond are numbers that this field may not have.
func Beyond(f Field) []int {
	return []int{
		-1, -2, f.Most + 1, f.Most + 2, -f.Most, -1 << 40, 1<<40 + 1, 1 << 41, 1<<40 + 1<<32, 1 << 62, math.MaxInt, math.MinInt, math.MinInt + 1,
	}
}

// Minus0 is -0: a constant cannot be.
func Minus0() float64 { return math.Copysign(0, -1) }

// Events are some that may be: ordinary ones, and all numbers at their least and their greatest.
func Events() []api.Event {
	return []api.Event{
		{},
		{Ts: 5, Src: 1, Seq: 9, Kind: 2, At: 3 - 4i},
		{Ts: 1 << 40, Src: 3, Seq: 1 << 20, Kind: 5, At: edge - edge*1i},
		{Ts: 1<<40 - 1, Src: 2, Seq: 1<<20 - 1, Kind: 4, At: -edge + edge*1i},
		{Ts: 1 << 40, At: complex(Minus0(), Minus0())},
		{Seq: 1 << 20, At: complex(0, Minus0())},
		{Src: 3, At: complex(Minus0(), 7)},
		{Kind: 5, At: edge},
	}
}

// Strange are events of all sorts, most of which may not be.
func Strange() []api.Event {
	l := Events()
	for _, n := range []int{-1, 1, 1 << 33, math.MaxInt, math.MinInt} {
		for _, f := range Fields() {
			l = append(l, With(api.Event{Ts: 7, At: 1i}, f, n), With(api.Event{Src: math.MaxInt, Seq: math.MinInt, At: complex(math.NaN(), 0)}, f, n))
		}
	}
	return l
}

// WrongParts are parts that no point may have.
func WrongParts() []float64 {
	return []float64{
		edge + 1, -edge - 1, math.Nextafter(edge, math.Inf(1)), math.Nextafter(-edge, math.Inf(-1)), 0.5, -0.5, edge - 0.5,
		math.SmallestNonzeroFloat64, 1 << 40, 1 << 63, 1e300, math.Inf(1), math.Inf(-1), math.NaN(),
	}
}

// Ahead tells whether a stands ahead of b, by the words of chapter 3.
func Ahead(a, b api.Event) bool {
	return a.Ts < b.Ts || a.Ts == b.Ts && (a.Src < b.Src || a.Src == b.Src && a.Seq < b.Seq)
}

// Bits tells an event from any other, -0 from 0 and one NaN from another too.
func Bits(e api.Event) [6]uint64 {
	return [6]uint64{
		uint64(e.Ts), uint64(e.Src), uint64(e.Seq), uint64(e.Kind), math.Float64bits(real(e.At)), math.Float64bits(imag(e.At)),
	}
}

// SameBits tells whether both lists have the same events, bit by bit.
func SameBits(l, m []api.Event) bool {
	return slices.EqualFunc(l, m, func(a, b api.Event) bool { return Bits(a) == Bits(b) })
}
