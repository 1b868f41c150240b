package value

import (
	"cmp"
	"math"
	"math/big"
	"reflect"
	"slices"
	"testing"

	"straggle/api"
	"straggle/parse"
)

const (
	top   = 1 << 40
	great = 1 << 20
)

var (
	nan  = math.NaN()
	inf  = math.Inf(1)
	zero = math.Copysign(0, -1)
)

// answer is what Term tells.
type answer struct {
	n int
	e api.Errno
}

var (
	wrong = answer{e: 2}
	over  = answer{e: 12}
)

// is is the answer of a term that has a value.
func is(n int) answer { return answer{n: n} }

// askedBy is how many names a term has, by its kind.
var askedBy = []int{0, 1, 1, 1, 1, 2, 2}

// goes tells by the ways of comparing, from 0 on, whether a lesser one, the same and a greater one compare so with another.
var goes = [][3]bool{{}, {true, false, false}, {true, true, false}, {false, true, false}, {true, false, true}, {false, false, true}, {false, true, true}, {}}

// bits are an event's numbers as they are to the last bit, because of NaN and -0.
type bits [6]uint64

// bitsOf are those of an event.
func bitsOf(e api.Event) bits {
	return bits{uint64(e.Ts), uint64(e.Src), uint64(e.Seq), uint64(e.Kind), math.Float64bits(real(e.At)), math.Float64bits(imag(e.At))}
}

// all is what names are, to the last bit.
type all struct {
	at  [6]bits
	has [6]bool
}

// allOf is all of some names.
func allOf(n api.Names) all {
	a := all{has: n.Has}
	for i, e := range n.At {
		a.at[i] = bitsOf(e)
	}
	return a
}

// at is an event at a point.
func at(c complex128) api.Event { return api.Event{At: c} }

// names are names of which the first ones stand for these events.
func names(l ...api.Event) api.Names {
	var n api.Names
	for i, e := range l {
		n.At[i], n.Has[i] = e, true
	}
	return n
}

// without are names of which one is not known; its event stands there all the same.
func without(n api.Names, i int) api.Names {
	n.Has[i] = false
	return n
}

// number is a term of a number alone.
func number(n int) api.Term { return api.Term{N: n} }

// term is a term that asks names.
func term(kind uint8, n, s, r int) api.Term { return api.Term{Kind: kind, N: n, S: s, R: r} }

// one is a comparison.
func one(op uint8, l, r api.Term) api.Cmp { return api.Cmp{Op: op, L: l, R: r} }

// step is a step of that kind, with these comparisons.
func step(kind int, cmps ...api.Cmp) api.Step {
	return api.Step{Kind: kind, Min: 1, Max: 1, Cmps: cmps}
}

var (
	yes = one(3, number(7), number(7))
	no  = one(4, number(7), number(7))
)

// asked are the numbers of the names that a term has.
func asked(t api.Term) []int {
	if t.Kind >= 7 {
		return []int{t.S}
	}
	return []int{t.S, t.R}[:askedBy[t.Kind]]
}

// askedOf are the numbers of the names that a step's comparisons ask.
func askedOf(s api.Step) []int {
	var l []int
	for _, c := range s.Cmps {
		l = append(l, asked(c.L)...)
		l = append(l, asked(c.R)...)
	}
	return l
}

// isKnown tells by the words whether a name is.
func isKnown(n api.Names, i int) bool { return i >= 0 && i <= 5 && n.Has[i] }

// parts are a point's parts as whole numbers, if it may be.
func parts(c complex128) (x, y int64, may bool) {
	for _, p := range []float64{real(c), imag(c)} {
		if p != math.Trunc(p) || math.Abs(p) > great {
			return 0, 0, false
		}
	}
	return int64(real(c)), int64(imag(c)), true
}

// valueOf is by the words what Term tells.
func valueOf(t api.Term, n api.Names) answer {
	if t.Kind > 6 {
		return wrong
	}
	of := [2]api.Event{}
	for i, name := range asked(t) {
		if !isKnown(n, name) {
			return wrong
		}
		of[i] = n.At[name]
	}
	told := int64(of[0].Ts)
	if t.Kind != 1 {
		told = 0
		x, y, may := parts(of[0].At)
		x2, y2, may2 := parts(of[1].At)
		if may && may2 {
			told = [7]int64{0, 0, x, y, x*x + y*y, x*x2 + y*y2, x*y2 - y*x2}[t.Kind]
		}
	}
	sum := new(big.Int).Add(big.NewInt(int64(t.N)), big.NewInt(told))
	if !sum.IsInt64() {
		return over
	}
	return is(int(sum.Int64()))
}

// comparesSo tells by the words whether numbers do.
func comparesSo(op uint8, a, b int) bool {
	return op <= 6 && goes[op][1+cmp.Compare(a, b)]
}

// itHolds tells by the words whether a comparison does.
func itHolds(c api.Cmp, n api.Names) bool {
	l, r := valueOf(c.L, n), valueOf(c.R, n)
	return l.e == 0 && r.e == 0 && comparesSo(c.Op, l.n, r.n)
}

// boundBy are by the words names with another event for one.
func boundBy(n api.Names, i int, e api.Event) api.Names {
	for k := range n.At {
		if k == i {
			n.At[k] = e
			n.Has[k] = true
		}
	}
	return n
}

// itMeets tells by the words whether an event meets a step.
func itMeets(s api.Step, i int, n api.Names, e api.Event) bool {
	n = boundBy(n, i, e)
	return s.Kind == e.Kind && i > -1 && i < 6 && !slices.ContainsFunc(s.Cmps, func(c api.Cmp) bool { return !itHolds(c, n) })
}

// allKnown tells by the words whether all names that a step asks are, or are i.
func allKnown(s api.Step, i int, n api.Names) bool {
	return !slices.ContainsFunc(askedOf(s), func(name int) bool { return name != i && !isKnown(n, name) })
}

// others are names with other events for those that are not asked, known and not.
func others(n api.Names, asked ...int) []api.Names {
	e := api.Event{Ts: math.MinInt, Src: 9, Seq: -5, Kind: 77, At: complex(-8, nan)}
	l := []api.Names{n, n, n}
	for i := range n.At {
		if !slices.Contains(asked, i) {
			l[0].At[i], l[0].Has[i] = e, true
			l[1].At[i], l[1].Has[i] = e, false
			l[2].At[i], l[2].Has[i] = n.At[(i+1)%6], !n.Has[i]
		}
	}
	return l
}

// promised holds what is told of a term against what is promised of all of them: P12.1, P12.3, R3.
func promised(t *testing.T, one api.Term, n api.Names) answer {
	t.Helper()
	value, e := Term(one, n)
	got := answer{value, e}
	if want := valueOf(one, n); got != want {
		t.Fatalf("Term(%v, %v): %v, by the words %v", one, n, got, want)
	}
	for _, other := range append(others(n, asked(one)...), n) {
		if value, e := Term(one, other); got != (answer{value, e}) {
			t.Fatalf("Term(%v, %v): %v, with other names that it does not ask, %v: %d, %d", one, n, got, other, value, e)
		}
	}
	return got
}

// holds holds Term against an answer, and against what is promised of all terms.
func holds(t *testing.T, one api.Term, n api.Names, want answer) {
	t.Helper()
	if got := promised(t, one, n); got != want {
		t.Errorf("Term(%v, %v): %v, not %v", one, n, got, want)
	}
}

// promisedOrder holds Compare of two numbers against what is promised of all of them: P12.1, P12.3.
func promisedOrder(t *testing.T, a, b int) {
	t.Helper()
	for op := range 256 {
		if got, want := Compare(uint8(op), a, b), comparesSo(uint8(op), a, b); got != want || Compare(uint8(op), a, b) != want {
			t.Fatalf("Compare(%d, %d, %d): %v, not %v", op, a, b, got, want)
		}
	}
	so := func(op uint8) int {
		if Compare(op, a, b) {
			return 1
		}
		return 0
	}
	if so(1)+so(3)+so(5) != 1 || so(1)+so(6) != 1 || so(2)+so(5) != 1 || so(3)+so(4) != 1 {
		t.Fatalf("Compare of %d, %d: <, <=, =, !=, >, >=: %d %d %d %d %d %d", a, b, so(1), so(2), so(3), so(4), so(5), so(6))
	}
	if Compare(1, a, b) != Compare(5, b, a) || Compare(2, a, b) != Compare(6, b, a) || Compare(3, a, b) != Compare(3, b, a) {
		t.Fatalf("Compare of %d, %d is not the other way about", a, b)
	}
}

// promisedCmp holds what is told of a comparison against what is promised of all of them: P12.1, P12.2, P12.3.
func promisedCmp(t *testing.T, c api.Cmp, n api.Names) bool {
	t.Helper()
	l, r := promised(t, c.L, n), promised(t, c.R, n)
	got := Holds(c, n)
	if want := itHolds(c, n); got != want || Holds(c, n) != want {
		t.Fatalf("Holds(%v, %v): %v, of %v and %v", c, n, got, l, r)
	}
	if got != (l.e == 0 && r.e == 0 && Compare(c.Op, l.n, r.n)) {
		t.Fatalf("Holds(%v, %v): %v, and Compare otherwise", c, n, got)
	}
	for _, other := range others(n, append(asked(c.L), asked(c.R)...)...) {
		if Holds(c, other) != got {
			t.Fatalf("Holds(%v, %v): %v, with other names that it does not ask, %v, not", c, n, got, other)
		}
	}
	return got
}

// promisedBind holds Bind against what is promised of it: P12.2, R4.
func promisedBind(t *testing.T, n api.Names, i int, e api.Event) {
	t.Helper()
	was := allOf(n)
	got := Bind(n, i, e)
	if allOf(got) != allOf(boundBy(n, i, e)) || allOf(Bind(n, i, e)) != allOf(got) {
		t.Fatalf("Bind(%v, %d, %v): %v", n, i, e, got)
	}
	if allOf(n) != was {
		t.Fatalf("Bind(%v, %d, %v) changed them", n, i, e)
	}
}

// promisedStep holds what is told of a step, a number, names and an event against what is promised of all of them: P12.2, P12.3, R3, R4.
func promisedStep(t *testing.T, s api.Step, i int, n api.Names, e api.Event) bool {
	t.Helper()
	was, wasStep, wasCmps := allOf(n), s, slices.Clone(s.Cmps[:cap(s.Cmps)])
	promisedBind(t, n, i, e)
	got, known := Meets(s, i, n, e), Known(s, i, n)
	if want := itMeets(s, i, n, e); got != want || Meets(s, i, n, e) != want {
		t.Fatalf("Meets(%v, %d, %v, %v): %v, not %v", s, i, n, e, got, want)
	}
	if want := allKnown(s, i, n); known != want || Known(s, i, n) != want {
		t.Fatalf("Known(%v, %d, %v): %v, not %v", s, i, n, known, want)
	}
	for _, c := range s.Cmps {
		promisedCmp(t, c, n)
		if holds := promisedCmp(t, c, Bind(n, i, e)); got && !holds {
			t.Fatalf("Meets(%v, %d, %v, %v), and %v does not hold", s, i, n, e, c)
		}
	}
	// Whatever i stood for, too.
	mine := slices.DeleteFunc(askedOf(s), func(name int) bool { return name == i })
	for _, other := range others(n, mine...) {
		if Meets(s, i, other, e) != got || Known(s, i, other) != known {
			t.Fatalf("%v, %d, %v, %v: %v, %v, with other names that it does not ask, %v, not", s, i, n, e, got, known, other)
		}
	}
	if got && !known {
		t.Fatalf("Meets(%v, %d, %v, %v), and not all names are known", s, i, n, e)
	}
	if wasStep.Cmps = wasCmps[:len(s.Cmps)]; allOf(n) != was || !reflect.DeepEqual(s, wasStep) && len(s.Cmps) > 0 || !slices.Equal(s.Cmps[:cap(s.Cmps)], wasCmps) {
		t.Fatalf("%v, %v: they were %v, %v", s, n, wasStep, was)
	}
	return got
}

// meets holds Meets against an answer, and against what is promised of all steps.
func meets(t *testing.T, s api.Step, i int, n api.Names, e api.Event, want bool) {
	t.Helper()
	if got := promisedStep(t, s, i, n, e); got != want {
		t.Errorf("Meets(%v, %d, %v, %v): %v", s, i, n, e, got)
	}
}

// P12.1: terms of each kind, written out.
func TestTermGiven(t *testing.T) {
	a, b := api.Event{Ts: 40, Src: 3, Seq: 900, Kind: 5, At: 7 + 2i}, api.Event{Ts: 55, Src: 1, Seq: 800, Kind: 4, At: -3 + 4i}
	n := names(a, b)
	for _, c := range []struct {
		one  api.Term
		want answer
	}{
		{number(0), is(0)}, {number(5), is(5)}, {number(-5), is(-5)}, {number(math.MaxInt), is(math.MaxInt)}, {number(math.MinInt), is(math.MinInt)},
		{term(1, 0, 0, 0), is(40)}, {term(1, 3, 1, 0), is(58)}, {term(1, -41, 0, 0), is(-1)},
		{term(2, -5, 0, 0), is(2)}, {term(2, 0, 1, 0), is(-3)}, {term(2, 1, 1, 0), is(-2)},
		{term(3, 0, 0, 0), is(2)}, {term(3, -5, 1, 0), is(-1)},
		{term(4, 0, 0, 0), is(53)}, {term(4, 100, 1, 0), is(125)},
		{term(5, 0, 0, 1), is(-13)}, {term(5, 20, 1, 0), is(7)}, {term(5, 0, 0, 0), is(53)}, {term(5, 1, 1, 1), is(26)},
		{term(6, 0, 0, 1), is(34)}, {term(6, 0, 1, 0), is(-34)}, {term(6, 4, 1, 0), is(-30)}, {term(6, 0, 1, 1), is(0)}, {term(6, 9, 0, 0), is(9)},
		{term(7, 0, 0, 0), wrong}, {term(255, 5, 1, 1), wrong},
		{term(1, 0, 2, 0), wrong}, {term(2, 0, 5, 0), wrong}, {term(3, 0, 6, 0), wrong}, {term(4, 0, -1, 0), wrong}, {term(5, 0, 0, 2), wrong}, {term(6, 0, 2, 0), wrong},
	} {
		holds(t, c.one, n, c.want)
	}
	n = names(at(1+2i), at(3+4i))
	holds(t, term(5, 0, 0, 1), n, is(11))
	holds(t, term(6, 0, 0, 1), n, is(-2))
	holds(t, term(5, 0, 1, 0), n, is(11))
	holds(t, term(6, 0, 1, 0), n, is(2))
}

// P12.1: points at the greatest and the least parts, and points that may not be.
func TestTermPoints(t *testing.T) {
	const most = great * great
	corner := complex(great, -great)
	for _, c := range []struct {
		a, b complex128
		want [7]int
	}{
		{0, 0, [7]int{}}, {corner, corner, [7]int{2: great, 3: -great, 4: 2 * most, 5: 2 * most}}, {complex(great, great), -complex(great, great), [7]int{2: great, 3: great, 4: 2 * most, 5: -2 * most}},
		{complex(great, great), complex(-great, great), [7]int{2: great, 3: great, 4: 2 * most, 6: 2 * most}}, {complex(-great, -great), complex(-great, great), [7]int{2: -great, 3: -great, 4: 2 * most, 6: -2 * most}},
		{complex(-great, 0), complex(1, 1), [7]int{2: -great, 4: most, 5: -great, 6: -great}}, {complex(great-1, 1), complex(0, great), [7]int{2: great - 1, 3: 1, 4: most - 2*great + 2, 5: great, 6: most - great}},
		{complex(zero, 3), complex(2, zero), [7]int{3: 3, 4: 9, 6: -6}}, {complex(zero, zero), complex(5, 7), [7]int{}},
		{complex(great+1, 5), 1 + 1i, [7]int{}}, {complex(5, -great-1), 1 + 1i, [7]int{}}, {complex(5.5, 5), 1 + 1i, [7]int{}}, {complex(5, 0.25), 1 + 1i, [7]int{}},
		{complex(nan, 5), 1 + 1i, [7]int{}}, {complex(5, nan), 1 + 1i, [7]int{}}, {complex(inf, 5), 1 + 1i, [7]int{}}, {complex(5, -inf), 1 + 1i, [7]int{}}, {complex(1e300, 5), 1 + 1i, [7]int{}},
		{2 + 3i, complex(great+1, 5), [7]int{2: 2, 3: 3, 4: 13}}, {2 + 3i, complex(5, -great-0.5), [7]int{2: 2, 3: 3, 4: 13}}, {2 + 3i, complex(nan, 1), [7]int{2: 2, 3: 3, 4: 13}}, {2 + 3i, complex(1, inf), [7]int{2: 2, 3: 3, 4: 13}},
	} {
		for s := range 6 {
			for r := range 6 {
				var n api.Names
				n.At[r], n.Has[r] = api.Event{Ts: 300, At: c.b}, true
				if s != r {
					n.At[s], n.Has[s] = api.Event{Ts: 200, At: c.a}, true
					c.want[1] = 200
				} else if c.a != c.b {
					continue
				} else {
					c.want[1] = 300
				}
				for kind, want := range c.want {
					for _, more := range []int{0, 1, -1, top, -top} {
						holds(t, term(uint8(kind), more, s, r), n, is(want+more))
					}
				}
			}
		}
	}
}

// P12.1: a term of no kind, or of names that are not known; and names that the kind does not ask.
func TestTermArg(t *testing.T) {
	full := names(at(1), at(2), at(3), at(4), at(5), at(6))
	far := []int{-1, -2, -6, 6, 7, 25, 26, 255, 256, 1 << 32, -1 << 32, math.MinInt, math.MaxInt}
	for kind := range 256 {
		for _, n := range []api.Names{full, {}} {
			if kind > 6 {
				for _, s := range append(far, 0, 5) {
					holds(t, term(uint8(kind), 9, s, 1), n, wrong)
				}
				holds(t, term(uint8(kind), math.MaxInt, 0, 0), n, wrong)
			}
		}
	}
	for kind := uint8(1); kind < 7; kind++ {
		for i := range 6 {
			holds(t, term(kind, 0, i, i), api.Names{}, wrong)
			holds(t, term(kind, 0, i, i), without(full, i), wrong)
			holds(t, term(kind, math.MaxInt, i, i), without(full, i), wrong)
			if kind > 4 {
				holds(t, term(kind, 0, i, (i+1)%6), without(full, i), wrong)
				holds(t, term(kind, 0, (i+1)%6, i), without(full, i), wrong)
				continue
			}
			// Just S is asked.
			want := promised(t, term(kind, 3, i, i), full)
			for _, r := range append(far, 0, 1, 2, 3, 4, 5) {
				holds(t, term(kind, 3, i, r), full, want)
				holds(t, term(kind, 3, i, r), without(full, (i+1)%6), want)
			}
		}
		for _, i := range far {
			holds(t, term(kind, 0, i, 0), full, wrong)
			holds(t, term(kind, math.MinInt, i, i), full, wrong)
			if kind > 4 {
				holds(t, term(kind, 0, 0, i), full, wrong)
			}
		}
	}
	for _, i := range far {
		for _, n := range []api.Names{full, {}} {
			holds(t, term(0, 8, i, 0), n, is(8))
			holds(t, term(0, 8, 0, i), n, is(8))
			holds(t, term(0, 8, i, i), n, is(8))
		}
	}
	// An event of nothing but zeros is one, too.
	holds(t, term(4, 8, 3, 0), names(at(1), at(1), at(1), at(0)), is(8))
}

// P12.1: sums that have just room, and those that run over, to either side.
func TestTermOver(t *testing.T) {
	points := names(at(2+3i), at(5+1i), at(-2-3i), at(complex(great, great)), at(complex(-great, -great)))
	for _, c := range []struct {
		kind uint8
		s, r int
		told int
	}{
		{2, 0, 0, 2}, {3, 0, 0, 3}, {4, 0, 0, 13}, {5, 0, 1, 13}, {6, 1, 0, 13}, {2, 2, 0, -2}, {3, 2, 0, -3}, {5, 2, 1, -13}, {6, 0, 1, -13},
		{2, 3, 0, great}, {3, 4, 0, -great}, {4, 4, 0, 1 << 41}, {5, 3, 4, -1 << 41}, {5, 4, 4, 1 << 41},
	} {
		if c.told > 0 {
			holds(t, term(c.kind, math.MaxInt-c.told, c.s, c.r), points, is(math.MaxInt))
			holds(t, term(c.kind, math.MaxInt-c.told+1, c.s, c.r), points, over)
			holds(t, term(c.kind, math.MaxInt, c.s, c.r), points, over)
			holds(t, term(c.kind, math.MinInt, c.s, c.r), points, is(math.MinInt+c.told))
		} else {
			holds(t, term(c.kind, math.MinInt-c.told, c.s, c.r), points, is(math.MinInt))
			holds(t, term(c.kind, math.MinInt-c.told-1, c.s, c.r), points, over)
			holds(t, term(c.kind, math.MinInt, c.s, c.r), points, over)
			holds(t, term(c.kind, math.MaxInt, c.s, c.r), points, is(math.MaxInt+c.told))
		}
	}
	ends := []int{math.MinInt, math.MinInt + 1, -1 << 62, -top, -1, 0, 1, top, 1 << 62, math.MaxInt - 1, math.MaxInt}
	for _, ts := range ends {
		for _, n := range ends {
			promised(t, term(1, n, 4, 0), Bind(points, 4, api.Event{Ts: ts, At: complex(nan, nan)}))
		}
	}
	n := names(api.Event{Ts: math.MaxInt}, api.Event{Ts: math.MinInt})
	holds(t, term(1, 0, 0, 0), n, is(math.MaxInt))
	holds(t, term(1, 1, 0, 0), n, over)
	holds(t, term(1, 0, 1, 0), n, is(math.MinInt))
	holds(t, term(1, -1, 1, 0), n, over)
	holds(t, term(1, math.MinInt, 0, 0), n, is(-1))
	holds(t, term(1, math.MaxInt, 1, 0), n, is(-1))
}

// P12.1, P12.3: each way of comparing, of numbers near to each other and far off, and ways that are none.
func TestCompare(t *testing.T) {
	l := []int{math.MinInt, math.MinInt + 1, -1<<62 - 1, -1 << 62, -top, -1 << 32, -2, -1, 0, 1, 2, 1 << 32, top, 1 << 62, 1<<62 + 1, math.MaxInt - 1, math.MaxInt}
	for i, a := range l {
		for k, b := range l {
			promisedOrder(t, a, b)
			want := []bool{false, i < k, i <= k, i == k, i != k, i > k, i >= k, false, false}
			for op := range want {
				if got := Compare(uint8(op), a, b); got != want[op] {
					t.Errorf("Compare(%d, %d, %d): %v", op, a, b, got)
				}
			}
			if Compare(255, a, b) || Compare(128, a, b) || Compare(16+3, a, b) {
				t.Errorf("another way: %d, %d", a, b)
			}
		}
	}
}

// P12.2: comparisons whose left term, right term, or both have no value hold by no way.
func TestHolds(t *testing.T) {
	n := without(names(api.Event{Ts: 9, At: 3 + 4i}, api.Event{Ts: math.MaxInt}, at(7)), 2)
	have := []api.Term{number(25), term(4, 0, 0, 0), term(1, 16, 0, 0), number(0), number(24), number(26), number(math.MinInt), number(math.MaxInt), term(1, 0, 1, 0)}
	none := []api.Term{term(1, 0, 2, 0), term(1, 0, 3, 0), term(1, 0, -1, 0), term(2, 0, 6, 0), term(5, 0, 0, 2), term(6, 0, 2, 0), term(7, 0, 0, 0), term(255, 0, 0, 0), term(1, 1, 1, 0), term(1, math.MaxInt, 0, 0)}
	for op := range 256 {
		for _, l := range have {
			for _, r := range have {
				a, _ := Term(l, n)
				b, _ := Term(r, n)
				if got := promisedCmp(t, one(uint8(op), l, r), n); got != Compare(uint8(op), a, b) {
					t.Errorf("%v %d %v: %v", l, op, r, got)
				}
			}
			for _, r := range none {
				for _, c := range []api.Cmp{one(uint8(op), l, r), one(uint8(op), r, l), one(uint8(op), r, r), one(uint8(op), none[0], r), one(uint8(op), r, none[len(none)-1])} {
					if promisedCmp(t, c, n) {
						t.Errorf("%v holds", c)
					}
				}
			}
		}
	}
	for _, c := range []api.Cmp{one(3, number(25), term(4, 0, 0, 0)), one(3, term(1, 16, 0, 0), number(25)), one(1, number(24), term(4, 0, 0, 0)), one(5, term(4, 0, 0, 0), number(24)), one(2, number(25), number(25)), one(6, number(25), number(25)), one(4, number(24), number(26))} {
		if !promisedCmp(t, c, n) {
			t.Errorf("%v does not hold", c)
		}
	}
}

// read are the steps of a pattern out of its text.
func read(t *testing.T, text string) []api.Step {
	t.Helper()
	p, at, e := parse.Parse(text)
	if e != 0 {
		t.Fatalf("%q: %d at %d", text, e, at)
	}
	return p.Steps
}

// P12.2: patterns' steps out of their texts, and which events meet them.
func TestMeetsGiven(t *testing.T) {
	for _, c := range []struct {
		text string
		by   int
		want string
	}{
		// Behind an event of kind 0 at 40, at 7+2i, those of kind 1 at 41 to 49, at 1-4i to 9+4i.
		{"0a;1b within 9", 1, "yyyyyyyyy"}, {"0a;2b within 9", 1, "nnnnnnnnn"}, {"0a;1b[x(b)>x(a)-5] within 9", 1, "nnyyyyyyy"}, {"0a;1b[x(b)<x(a)-5] within 9", 1, "ynnnnnnnn"},
		{"0a;1b[t(b)>=t(a)+4&t(b)<t(a)+7] within 9", 1, "nnnyyynnn"}, {"0a;1b[t(b)!=45] within 9", 1, "yyyynyyyy"}, {"0a;1b[n(b)<=n(a)-40] within 9", 1, "nyynnnnnn"},
		{"0a;1b[y(b)=y(a)] within 9", 1, "nnnnnnynn"}, {"0a;1b[d(a,b)>=20] within 9", 1, "nnnyyyyyy"}, {"0a;1b[c(a,b)>0] within 9", 1, "nnnnnnnyy"}, {"0a;1b[c(b,a)>0] within 9", 1, "yyyyyynnn"}, {"0a;1b[t(c)>0];2c within 9", 1, "nnnnnnnnn"},
		{"0a;1b[1=2] within 9", 1, "nnnnnnnnn"}, {"0a;1b[1<2&x(b)>3&2<1] within 9", 1, "nnnnnnnnn"}, {"0a;1b[1<2&x(b)>3&2>1] within 9", 1, "nnnyyyyyy"}, {"0a;2b;!1c[x(c)<4] within 9", 2, "yyynnnnnn"}, {"0a;2b;!1c[x(b)<4] within 9", 2, "nnnnnnnnn"},
	} {
		steps := read(t, c.text)
		n := Bind(api.Names{}, 0, api.Event{Ts: 40, At: 7 + 2i})
		got := ""
		for i := range 9 {
			e := api.Event{Ts: 41 + i, Seq: i, Kind: 1, At: complex(float64(1+i), float64(i-4))}
			if promisedStep(t, steps[c.by], c.by, n, e) {
				got += "y"
			} else {
				got += "n"
			}
		}
		if got != c.want {
			t.Errorf("%s: %s, not %s", c.text, got, c.want)
		}
	}
}

// P12.2: another kind, numbers of no name, and a number whose name stood for another event.
func TestMeets(t *testing.T) {
	full := names(at(1), at(2), at(3), at(4), at(5), at(6))
	for i := range 6 {
		mine := one(3, term(2, 0, i, 0), number(9))
		for _, n := range []api.Names{full, {}, without(full, i)} {
			meets(t, step(3, mine), i, n, api.Event{Kind: 3, At: 9}, true)
			meets(t, step(3, mine), i, n, api.Event{Kind: 3, At: 8}, false)
			meets(t, step(3, mine), i, n, api.Event{Kind: 3, At: complex(float64(i+1), 0)}, false)
			for _, kind := range []int{0, 2, 4, -3, 5, 6, 3 + 1<<32, math.MinInt, math.MaxInt} {
				meets(t, step(3, mine), i, n, api.Event{Kind: kind, At: 9}, false)
				meets(t, step(3), i, n, api.Event{Kind: kind}, false)
				meets(t, step(kind), i, n, api.Event{Kind: 3}, false)
				meets(t, step(kind), i, n, api.Event{Kind: kind}, true)
			}
		}
		// Of the name's own event ahead nothing is asked.
		meets(t, step(3, one(3, term(2, 0, i, 0), number(i+1))), i, full, api.Event{Kind: 3, At: 9}, false)
		meets(t, step(3, one(3, term(5, 0, i, i), number(81))), i, full, api.Event{Kind: 3, At: 9}, true)
		k := (i + 1) % 6
		meets(t, step(3, one(3, term(5, 0, i, k), number(9*(k+1)))), i, full, api.Event{Kind: 3, At: 9}, true)
		meets(t, step(3, one(3, term(5, 0, i, k), number(9*(k+1)))), i, without(full, k), api.Event{Kind: 3, At: 9}, false)
		meets(t, step(3, one(4, term(1, 0, k, 0), number(77))), i, without(full, k), api.Event{Kind: 3, At: 9}, false)
		meets(t, step(3, yes, one(4, term(1, 0, 6, 0), number(77))), i, full, api.Event{Kind: 3, At: 9}, false)
		meets(t, step(3, one(4, number(77), term(1, 0, -1, 0)), yes), i, full, api.Event{Kind: 3, At: 9}, false)
	}
	for _, i := range []int{-1, -2, -6, 6, 7, 25, 26, 1 << 32, -1 << 32, math.MinInt, math.MaxInt} {
		for _, n := range []api.Names{full, {}} {
			meets(t, step(3), i, n, api.Event{Kind: 3}, false)
			meets(t, step(3, yes), i, n, api.Event{Kind: 3}, false)
			meets(t, step(3, one(3, term(2, 0, i, 0), number(0))), i, n, api.Event{Kind: 3}, false)
			meets(t, step(4), i, n, api.Event{Kind: 3}, false)
		}
	}
	// What else a step is, and what an event is that may not be, makes no difference.
	for _, s := range []api.Step{{Kind: -7}, {Kind: -7, Not: true, Min: -1, Max: 9, Strict: true, Cmps: []api.Cmp{yes}}} {
		meets(t, s, 5, api.Names{}, api.Event{Ts: -5, Src: 9, Seq: -1, Kind: -7, At: complex(nan, inf)}, true)
		meets(t, s, 5, api.Names{}, api.Event{Ts: -5, Src: 9, Seq: -1, Kind: 7, At: complex(nan, inf)}, false)
	}
}

// P12.2: all comparisons are to hold, be it the first, the last, or one in the midst that does not.
func TestMeetsEach(t *testing.T) {
	e := api.Event{Ts: 12, Kind: 2, At: 3 + 4i}
	n := names(api.Event{Ts: 5, At: 1 + 1i})
	good := []api.Cmp{yes, one(5, term(1, 0, 1, 0), term(1, 6, 0, 0)), one(3, term(4, 0, 1, 0), number(25)), one(1, term(6, 0, 1, 0), number(0)), one(6, term(5, 0, 0, 1), number(7))}
	bad := []api.Cmp{no, one(1, term(1, 0, 1, 0), term(1, 6, 0, 0)), one(0, number(1), number(1)), one(7, number(1), number(2)), one(3, number(2), term(2, 0, 2, 0)), one(4, term(7, 0, 0, 0), number(9)), one(2, term(1, math.MaxInt, 1, 0), number(math.MaxInt))}
	meets(t, step(2), 1, n, e, true)
	for many := 1; many < 12; many++ {
		var l []api.Cmp
		for i := range many {
			l = append(l, good[i%len(good)])
		}
		meets(t, step(2, l...), 1, n, e, true)
		meets(t, step(3, l...), 1, n, e, false)
		for at := range many {
			for _, c := range bad {
				spoilt := slices.Clone(l)
				spoilt[at] = c
				meets(t, step(2, spoilt...), 1, n, e, false)
				if at > 0 {
					spoilt[0] = bad[at%len(bad)]
					meets(t, step(2, spoilt...), 1, n, e, false)
				}
			}
		}
	}
	many := slices.Repeat(good, 20000)
	if !Meets(step(2, many...), 1, n, e) || !Known(step(2, many...), 1, n) {
		t.Error("of many that hold")
	}
	many[len(many)-1] = no
	if Meets(step(2, many...), 1, n, e) || !Known(step(2, many...), 1, n) {
		t.Error("of many, the last does not hold")
	}
	many[len(many)-1] = one(3, term(1, 0, 3, 0), number(0))
	if Meets(step(2, many...), 1, n, e) || Known(step(2, many...), 1, n) || !Known(step(2, many...), 1, Bind(n, 3, e)) {
		t.Error("of many, the last asks one that is not known")
	}
}

// P12.2: a name stands for the event that it is bound to, all others stay; with no such name all of them.
func TestBind(t *testing.T) {
	full := names(at(1), at(2), at(3), at(4), at(5), at(6))
	odd := api.Event{Ts: -5, Src: 9, Seq: math.MinInt, Kind: math.MaxInt, At: complex(nan, zero)}
	for _, n := range []api.Names{{}, full, without(full, 2), names(odd, odd)} {
		for _, e := range []api.Event{{}, at(9 + 1i), odd, {Ts: 3, Src: 1, Seq: 2, Kind: 4, At: -1i}} {
			for i := range 6 {
				promisedBind(t, n, i, e)
				got := Bind(n, i, e)
				if !got.Has[i] || bitsOf(got.At[i]) != bitsOf(e) {
					t.Errorf("Bind(%v, %d, %v): %v", n, i, e, got)
				}
				for k := range 6 {
					if k != i && (got.Has[k] != n.Has[k] || bitsOf(got.At[k]) != bitsOf(n.At[k])) {
						t.Errorf("Bind(%v, %d, %v): %v of %d", n, i, e, got, k)
					}
				}
				// Bound once more, and another one.
				promisedBind(t, got, i, at(77))
				promisedBind(t, got, (i+3)%6, at(78))
				if back := Bind(Bind(got, i, at(77)), i, e); allOf(back) != allOf(got) {
					t.Errorf("Bind(%v, %d, %v), bound back: %v", n, i, e, back)
				}
			}
			for _, i := range []int{-1, -2, -6, 6, 7, 12, 25, 26, 1 << 32, -1 << 32, math.MinInt, math.MaxInt} {
				promisedBind(t, n, i, e)
				if got := Bind(n, i, e); allOf(got) != allOf(n) {
					t.Errorf("Bind(%v, %d, %v): %v", n, i, e, got)
				}
			}
		}
	}
}

// P12.2: which names are asked, and are known, or the step's own.
func TestKnown(t *testing.T) {
	full := names(at(1), at(2), at(3), at(4), at(5), at(6))
	far := []int{-1, -2, -6, 6, 7, 25, 1 << 32, math.MinInt, math.MaxInt}
	know := func(s api.Step, i int, n api.Names, want bool) {
		t.Helper()
		promisedStep(t, s, i, n, api.Event{Kind: s.Kind})
		if got := Known(s, i, n); got != want {
			t.Errorf("Known(%v, %d, %v): %v", s, i, n, got)
		}
	}
	for _, i := range append(far, 0, 1, 2, 3, 4, 5) {
		for _, n := range []api.Names{full, {}, without(full, 2)} {
			know(step(1), i, n, true)
			know(step(1, yes, no, one(9, number(1), term(0, 5, 3, -4))), i, n, true)
		}
	}
	for name := range 6 {
		for kind := uint8(1); kind < 8; kind++ {
			k := (name + 1) % 6
			for _, c := range []api.Cmp{one(1, term(kind, 0, name, name), number(0)), one(9, number(0), term(kind, math.MaxInt, name, name))} {
				s, more := step(1, c), step(1, yes, c, no)
				know(s, k, full, true)
				know(s, -1, full, true)
				know(s, 6, full, true)
				know(s, name, full, true)
				know(s, name, api.Names{}, true)
				know(s, k, without(full, name), false)
				know(s, -1, without(full, name), false)
				know(s, math.MaxInt, without(full, name), false)
				know(s, k, api.Names{}, false)
				know(more, k, without(full, name), false)
				know(more, name, without(full, name), true)
				know(more, k, without(full, k), true)
			}
			two := step(1, one(1, term(kind, 0, name, k), term(1, 0, k, 0)))
			know(two, (name+2)%6, full, true)
			know(two, name, without(full, name), true)
			know(two, k, without(full, name), false)
			know(two, name, without(full, k), false)
			know(two, k, without(full, k), true)
			know(two, name, api.Names{}, false)
			know(two, -1, without(full, k), false)
		}
	}
	for _, name := range far {
		for kind := uint8(1); kind < 8; kind++ {
			s := step(1, one(1, term(kind, 0, name, 3), number(0)))
			know(s, 3, full, false)
			know(s, 0, api.Names{}, false)
			// By the words its own number is enough, even where there is no such name.
			know(s, name, full, true)
		}
		s := step(1, one(1, term(5, 0, 3, name), number(0)))
		know(s, 3, full, false)
		know(s, name, full, true)
		know(s, name, without(full, 3), false)
		// A name that the kind does not ask.
		know(step(1, one(1, term(4, 0, 3, name), term(0, 0, name, name))), 0, full, true)
	}
}

// R1: nothing and empty mean the same.
func TestEmpty(t *testing.T) {
	for _, cmps := range [][]api.Cmp{nil, {}, make([]api.Cmp, 0, 5), []api.Cmp{no}[:0]} {
		s := api.Step{Kind: 2, Cmps: cmps}
		meets(t, s, 1, api.Names{}, api.Event{Kind: 2}, true)
		meets(t, s, 1, api.Names{}, api.Event{Kind: 1}, false)
		if !Known(s, 1, api.Names{}) || !Known(s, -1, api.Names{}) {
			t.Errorf("Known(%v)", s)
		}
	}
	holds(t, api.Term{}, api.Names{}, is(0))
	if Holds(api.Cmp{}, api.Names{}) || !Meets(api.Step{}, 0, api.Names{}, api.Event{}) || Meets(api.Step{Cmps: make([]api.Cmp, 1)}, 0, api.Names{}, api.Event{}) {
		t.Error("of nothing at all")
	}
}

// R3, R4: names, steps and their comparisons are left as they were, spare room behind them included; and what is told hangs on nothing that was asked before.
func TestUnchanged(t *testing.T) {
	room := []api.Cmp{one(6, term(1, 0, 4, 0), term(1, 3, 0, 0)), one(3, term(5, -1, 4, 0), number(4)), no, one(9, term(9, 9, 9, 9), term(5, 0, 5, 1))}
	was := slices.Clone(room)
	s := api.Step{Kind: 3, Min: 2, Max: 1, Cmps: room[:2:4]}
	n := names(api.Event{Ts: 4, At: 1 + 2i})
	wasNames := allOf(n)
	e := api.Event{Ts: 7, Kind: 3, At: 1 + 2i}
	for range 3 {
		meets(t, s, 4, n, e, true)
		meets(t, api.Step{Kind: 3, Cmps: room}, 4, n, e, false)
		meets(t, s, 0, n, e, false)
		meets(t, s, 4, api.Names{}, e, false)
		holds(t, term(1, 1, 4, 0), n, wrong)
		holds(t, term(1, 1, 4, 0), Bind(n, 4, e), is(8))
		if Bind(n, 0, e); allOf(n) != wasNames || !slices.Equal(room, was) {
			t.Errorf("they left %v, %v of %v, %v", n, room, wasNames, was)
		}
	}
	// What is asked behind a change is told of what it is then.
	room[1].R.N = 5
	meets(t, s, 4, n, e, false)
	room[1].Op = 1
	meets(t, s, 4, n, e, true)
	n.At[0].Ts = 5
	meets(t, s, 4, n, e, false)
}

// maker tells numbers out of bytes; 0, when they are at their end.
type maker struct{ b []byte }

// next is a number below most.
func (m *maker) next(most int) int {
	if len(m.b) == 0 {
		return 0
	}
	n := int(m.b[0]) % most
	m.b = m.b[1:]
	return n
}

// number is a number that is asked of: small most often.
func (m *maker) number() int {
	if m.next(12) == 11 {
		return []int{math.MinInt, math.MinInt + 5, -top, top, math.MaxInt - 5, math.MaxInt}[m.next(6)]
	}
	return m.next(9) - 4
}

// name is a name's number, such as may be most often.
func (m *maker) name() int {
	if m.next(30) == 29 {
		return []int{-1, 6, 25, math.MinInt, math.MaxInt}[m.next(5)]
	}
	return m.next(6)
}

// event is one whose parts are small most often.
func (m *maker) event() api.Event {
	part := func() float64 {
		if m.next(12) == 11 {
			return []float64{zero, 0.5, great, -great, great + 1, -great - 1, nan, inf, -inf, 1e300, great - 0.5}[m.next(11)]
		}
		return float64(m.next(5) - 2)
	}
	return api.Event{Ts: m.number(), Src: m.next(5) - 1, Seq: m.next(9), Kind: m.next(3), At: complex(part(), part())}
}

// term is one of any kind, most often of one that there is.
func (m *maker) term() api.Term {
	kind := uint8(m.next(7))
	if m.next(40) == 39 {
		kind = uint8(m.next(256))
	}
	return api.Term{Kind: kind, N: m.number(), S: m.name(), R: m.name()}
}

// step is one of up to four comparisons, of ways that there are most often.
func (m *maker) step() api.Step {
	s := api.Step{Not: m.next(2) == 1, Kind: m.next(3), Min: m.number(), Max: m.number(), Strict: m.next(2) == 1}
	for range m.next(5) {
		op := uint8(1 + m.next(6))
		if m.next(40) == 39 {
			op = uint8(m.next(256))
		}
		s.Cmps = append(s.Cmps, one(op, m.term(), m.term()))
	}
	return s
}

// names are some of which most are known.
func (m *maker) names() api.Names {
	var n api.Names
	for i := range n.At {
		n.At[i], n.Has[i] = m.event(), m.next(8) != 7
	}
	return n
}

// made holds what bytes make against what is promised, and tells whether the event met the step, and whether all names were known.
func made(t *testing.T, b []byte) (met, known bool) {
	t.Helper()
	m := &maker{b}
	s, i, n, e := m.step(), m.name(), m.names(), m.event()
	promised(t, m.term(), n)
	promisedOrder(t, m.number(), m.number())
	return promisedStep(t, s, i, n, e), Known(s, i, n)
}

// P12.1 to P12.3: terms, comparisons, steps, names and events of all sorts.
func TestMade(t *testing.T) {
	seed, met, known := uint32(1), 0, 0
	const times = 6000
	for range times {
		b := make([]byte, 200)
		for i := range b {
			seed = seed*1664525 + 1013904223
			b[i] = byte(seed >> 24)
		}
		itMet, allAre := made(t, b)
		if itMet {
			met++
		}
		if allAre {
			known++
		}
	}
	if met < times/20 || met > times/2 || known < times/4 || known > times*3/4 {
		t.Errorf("of %d %d met, of %d all names were known", times, met, known)
	}
}

// P12.1: any term of any events.
func FuzzTerm(f *testing.F) {
	f.Add(uint8(2), -5, 0, 0, 40, 7.0, 2.0, 1.0, 1.0, uint8(3))
	f.Add(uint8(6), math.MaxInt, 0, 1, 40, 1048576.0, -1048576.0, 1048576.0, 1048576.0, uint8(3))
	f.Add(uint8(5), math.MinInt, 3, 5, math.MinInt, nan, 0.5, inf, zero, uint8(63))
	f.Fuzz(func(t *testing.T, kind uint8, n, s, r, ts int, x, y, x2, y2 float64, has uint8) {
		var l api.Names
		for i := range l.At {
			l.At[i], l.Has[i] = api.Event{Ts: ts, At: complex(x, y)}, has>>i&1 == 1
			x, y, x2, y2 = x2, y2, x, y
		}
		for k := range uint8(9) {
			promised(t, term(k, n, s, r), l)
		}
		promised(t, term(kind, n, s, r), l)
	})
}

// P12.1, P12.3: any two numbers.
func FuzzCompare(f *testing.F) {
	f.Add(0, 0)
	f.Add(math.MinInt, math.MaxInt)
	f.Fuzz(func(t *testing.T, a, b int) {
		promisedOrder(t, a, b)
		promisedOrder(t, a, a)
	})
}

// P12.1 to P12.3: any step, names and event.
func FuzzMeets(f *testing.F) {
	f.Add([]byte{})
	f.Add([]byte{0, 1, 2, 3, 0, 4, 1, 1, 3, 0, 0, 0, 2, 5, 1, 4, 3, 2, 1, 0, 0, 1, 1, 2, 1, 3, 3, 2, 1})
	f.Fuzz(func(t *testing.T, b []byte) { made(t, b) })
}
