package row

import (
	"fmt"
	"math"
	"slices"
	"testing"

	"straggle/api"
	"straggle/event"
	"straggle/sample"
)

const (
	most  = math.MaxInt
	least = math.MinInt
)

// key is an event of that key; its kind and its point tell where it came from in what a test prints.
func key(ts, src, seq int) api.Event {
	return api.Event{Ts: ts, Src: src, Seq: seq, Kind: 1, At: 2 - 3i}
}

// times are events of these times, one behind the other as they are given.
func times(all ...int) []api.Event {
	var s []api.Event
	for _, ts := range all {
		s = append(s, key(ts, 1, 4))
	}
	return s
}

// rising is a row that may be: each event stands ahead of the next one for another reason.
func rising() []api.Event {
	return []api.Event{key(2, 2, 8), key(5, 1, 4), key(5, 1, 6), key(5, 3, 2), key(9, 0, 0), key(9, 0, 2), key(11, 2, 1)}
}

// others are events of e's key, each with another kind or another point.
func others(e api.Event) []api.Event {
	kind, point, both, wrong := e, e, e, e
	kind.Kind++
	point.At = 6 - 7i
	both.Kind, both.At = e.Kind+2, 9i
	wrong.Kind, wrong.At = -1, complex(math.NaN(), 0.5)
	return []api.Event{kind, point, both, wrong}
}

// beside are e's neighbours by one number: those that stand directly ahead of its key, and directly behind it.
func beside(e api.Event) (ahead, behind []api.Event) {
	return []api.Event{key(e.Ts, e.Src, e.Seq-1), key(e.Ts, e.Src-1, most), key(e.Ts-1, most, most)},
		[]api.Event{key(e.Ts, e.Src, e.Seq+1), key(e.Ts, e.Src+1, least), key(e.Ts+1, least, least)}
}

// with is s with these events at a place, in memory of its own.
func with(s []api.Event, at int, l ...api.Event) []api.Event {
	return slices.Concat(s[:at], l, s[at:])
}

// less is s without the event at a place, in memory of its own.
func less(s []api.Event, at int) []api.Event { return slices.Concat(s[:at], s[at+1:]) }

// changed is s with another event at a place, in memory of its own.
func changed(s []api.Event, at int, e api.Event) []api.Event { return with(less(s, at), at, e) }

// shown is a row for a test to print: the beginning of a long one.
func shown(s []api.Event) string {
	if len(s) > 50 {
		return fmt.Sprintf("%+v and %d more", s[:50], len(s)-50)
	}
	return fmt.Sprintf("%+v", s)
}

// oneKey tells whether a and b have one key, by chapter 3's words.
func oneKey(a, b api.Event) bool { return a.Ts == b.Ts && a.Src == b.Src && a.Seq == b.Seq }

// placeByWords is the place of an event by the chapter's words, gone by from the end.
func placeByWords(s []api.Event, e api.Event) int {
	place := len(s)
	for at := len(s) - 1; at >= 0; at-- {
		if !sample.Ahead(s[at], e) {
			place = at
		}
	}
	return place
}

// mayByWords tells whether a row may be, by the chapter's words: each event, and any two of them.
func mayByWords(s []api.Event) bool {
	may := true
	for at, e := range s {
		may = may && event.Right(e)
		for _, x := range s[:at] {
			may = may && sample.Ahead(x, e)
		}
	}
	return may
}

// these are the events of s that are asked for, by their places.
func these(s []api.Event, asked func(at int) bool) []api.Event {
	var l []api.Event
	for at := range s {
		if asked(at) {
			l = append(l, s[at])
		}
	}
	return l
}

// foreign stands in the room about what is handed in, and is written into what was told.
func foreign() api.Event { return api.Event{Ts: -77, Src: -77, Seq: -77, Kind: -77, At: -77} }

// spoil writes into a list, and into the room behind it.
func spoil(l []api.Event) {
	for at := range l[:cap(l)] {
		l[:cap(l)][at] = foreign()
	}
}

// told holds a list that a call tells of s against what it has to be, and against R3 and R4: s and the room about it stay; what is written into one answer is not seen in s or in another answer; what is written into s is not seen in an answer.
func told(t *testing.T, name string, s, want []api.Event, call func(s []api.Event) []api.Event) {
	t.Helper()
	room := slices.Concat([]api.Event{foreign()}, s, []api.Event{foreign(), foreign(), foreign()})
	was := slices.Clone(room)
	row := room[1 : len(s)+1]
	one, two := call(row), call(row)
	if !sample.SameBits(one, want) {
		t.Fatalf("%s of %s: %s, not %s", name, shown(s), shown(one), shown(want))
	}
	spoil(one)
	if !sample.SameBits(room, was) {
		t.Fatalf("%s of %s: what was handed in is %s", name, shown(s), shown(room))
	}
	if again := call(row); !sample.SameBits(two, want) || !sample.SameBits(again, want) {
		t.Fatalf("%s of %s: %s and %s, when another one was written into", name, shown(s), shown(two), shown(again))
	}
	spoil(room)
	if !sample.SameBits(two, want) {
		t.Fatalf("%s of %s: %s, when what was handed in was written into", name, shown(s), shown(two))
	}
}

// toldToo holds a list, with whether it was so, as told does.
func toldToo(t *testing.T, name string, s, want []api.Event, so bool, call func(s []api.Event) ([]api.Event, bool)) {
	t.Helper()
	told(t, name, s, want, func(s []api.Event) []api.Event {
		t.Helper()
		l, ok := call(s)
		if ok != so {
			t.Fatalf("%s of %s: %t", name, shown(s), ok)
		}
		return l
	})
}

// holdsPut holds Put and Without against what they have to tell, memory included.
func holdsPut(t *testing.T, s []api.Event, e api.Event, want []api.Event, so bool) {
	t.Helper()
	toldToo(t, "Put", s, want, so, func(s []api.Event) ([]api.Event, bool) { return Put(s, e) })
}

func holdsWithout(t *testing.T, s []api.Event, e api.Event, want []api.Event, so bool) {
	t.Helper()
	toldToo(t, "Without", s, want, so, func(s []api.Event) ([]api.Event, bool) { return Without(s, e) })
}

func holdsBetween(t *testing.T, s []api.Event, a, b api.Event, want []api.Event) {
	t.Helper()
	told(t, "Between", s, want, func(s []api.Event) []api.Event { return Between(s, a, b) })
}

func holdsDrop(t *testing.T, s []api.Event, ts int, want []api.Event) {
	t.Helper()
	told(t, "Drop", s, want, func(s []api.Event) []api.Event { return Drop(s, ts) })
}

func holdsFind(t *testing.T, s []api.Event, e api.Event, at int, so bool) {
	t.Helper()
	if got, ok := Find(s, e); got != at || ok != so {
		t.Fatalf("Find(%s, %+v): %d, %t, not %d, %t", shown(s), e, got, ok, at, so)
	}
}

// holdsBehind holds Behind against the place of what it has to tell; there is none at a place beyond the row.
func holdsBehind(t *testing.T, s []api.Event, e api.Event, at int) {
	t.Helper()
	var want api.Event
	if at < len(s) {
		want = s[at]
	}
	if got, ok := Behind(s, e); sample.Bits(got) != sample.Bits(want) || ok != (at < len(s)) {
		t.Fatalf("Behind(%s, %+v): %+v, %t, not %+v", shown(s), e, got, ok, want)
	}
}

func holdsFrom(t *testing.T, s []api.Event, ts, want int) {
	t.Helper()
	if got := From(s, ts); got != want {
		t.Fatalf("From(%s, %d): %d, not %d", shown(s), ts, got, want)
	}
}

// promised holds all that is told of a row and an event against the chapter's words.
func promised(t *testing.T, s []api.Event, e api.Event) {
	t.Helper()
	was := slices.Clone(s)
	if Right(s) != mayByWords(s) {
		t.Fatalf("Right(%+v): %t", s, Right(s))
	}
	place := placeByWords(s, e)
	there := place < len(s) && oneKey(s[place], e)
	holdsFind(t, s, e, place, there)
	if there {
		holdsPut(t, s, e, s, false)
		holdsWithout(t, s, e, less(s, place), true)
	} else {
		holdsPut(t, s, e, with(s, place, e), true)
		holdsWithout(t, s, e, s, false)
	}
	behind := these(s, func(at int) bool { return sample.Ahead(e, s[at]) })
	if got, ok := Behind(s, e); ok != (len(behind) > 0) || !sample.SameBits([]api.Event{got}, append(behind, api.Event{})[:1]) {
		t.Fatalf("Behind(%+v, %+v): %+v, %t", s, e, got, ok)
	}
	promisedTimes(t, s, e.Ts)
	follows(t, s, e)
	if !sample.SameBits(s, was) {
		t.Fatalf("%+v was %+v", s, was)
	}
}

// promisedTimes holds what is told of a row and a time against the chapter's words.
func promisedTimes(t *testing.T, s []api.Event, ts int) {
	t.Helper()
	from := len(s)
	for at := len(s) - 1; at >= 0; at-- {
		if s[at].Ts >= ts {
			from = at
		}
	}
	holdsFrom(t, s, ts, from)
	holdsDrop(t, s, ts, these(s, func(at int) bool { return s[at].Ts >= ts }))
}

// promisedBetween holds what lies between two events against the chapter's words.
func promisedBetween(t *testing.T, s []api.Event, a, b api.Event) {
	t.Helper()
	holdsBetween(t, s, a, b, these(s, func(at int) bool { return sample.Ahead(a, s[at]) && sample.Ahead(s[at], b) }))
}

// follows holds a row and an event against what follows: P15.4.
func follows(t *testing.T, s []api.Event, e api.Event) {
	t.Helper()
	l, put := Put(s, e)
	if put {
		if back, ok := Without(l, e); !ok || !sample.SameBits(back, s) {
			t.Fatalf("%+v without %+v, which was put: %+v, %t", s, e, back, ok)
		}
	}
	if !mayByWords(s) {
		return
	}
	if Right(l) != (!put || event.Right(e)) {
		t.Fatalf("%+v with %+v: Right %t", s, e, Right(l))
	}
	for at := 1; at < len(s); at++ {
		if l := Between(s, s[at-1], s[at]); len(l) != 0 {
			t.Fatalf("%+v: between neighbours lie %+v", s, l)
		}
		holdsBehind(t, s, s[at-1], at)
	}
}

// The chapter's example: of times 2, 5, 9, and one of 5 of another source; of a greater one, and of a lesser one.
func TestExample(t *testing.T) {
	s := times(2, 5, 9)
	greater, lesser := key(5, 2, 0), key(5, 0, 9)
	holdsFind(t, s, greater, 2, false)
	holdsFind(t, s, lesser, 1, false)
	holdsPut(t, s, greater, []api.Event{s[0], s[1], greater, s[2]}, true)
	holdsPut(t, s, lesser, []api.Event{s[0], lesser, s[1], s[2]}, true)
}

// P15.1: rows that may be: none, one, those that rise by time, by source, by number alone, and any part of one.
func TestRight(t *testing.T) {
	rows := [][]api.Event{
		nil, {}, make([]api.Event, 0, 5), rising(), times(2, 5, 9), times(0, 1, 1<<40),
		{key(5, 0, 4), key(5, 1, 4), key(5, 2, 4), key(5, 3, 4)},
		{key(5, 1, 0), key(5, 1, 1), key(5, 1, 1<<20)},
		{key(5, 3, 1<<20), key(6, 0, 0)}, {key(5, 1, 1<<20), key(5, 2, 0)},
	}
	for _, e := range sample.Events() {
		rows = append(rows, []api.Event{e})
	}
	for from := range rising() {
		rows = append(rows, rising()[from:], rising()[:from], less(rising(), from))
	}
	for _, s := range rows {
		if !Right(s) || !mayByWords(s) {
			t.Errorf("%+v may not be", s)
		}
	}
}

// P15.1: two of one key, be they the same or not, at each place; rows that fall at one place only, from the first one to the last.
func TestRightNotRising(t *testing.T) {
	s := rising()
	for at, e := range s {
		for _, x := range append(others(e)[:3], e) {
			for _, wrong := range [][]api.Event{{e, x}, {x, e}, with(s, at, x), with(s, at+1, x)} {
				if Right(wrong) {
					t.Errorf("two of one key: %+v may be", wrong)
				}
			}
		}
		if at == 0 {
			continue
		}
		for _, wrong := range [][]api.Event{
			{e, s[at-1]}, slices.Concat(s[at:], s[:at]), slices.Concat(s[:at-1], []api.Event{e, s[at-1]}, s[at+1:]),
			changed(s, at, s[0]), changed(s, at-1, s[len(s)-1]),
		} {
			if Right(wrong) {
				t.Errorf("falling: %+v may be", wrong)
			}
		}
	}
	for _, wrong := range [][]api.Event{
		times(5, 2), {key(5, 2, 4), key(5, 1, 4)}, {key(5, 1, 4), key(5, 1, 3)}, {key(5, 0, 0), key(4, 3, 9)}, {key(5, 2, 0), key(5, 1, 9)},
		times(2, 9, 5), times(9, 2, 5), times(2, 5, 5), times(2, 2, 5), times(1<<40, 0),
	} {
		if Right(wrong) {
			t.Errorf("%+v may be", wrong)
		}
	}
}

// P15.1: one event that may not be, at each place, by each of its numbers and by its point.
func TestRightWrongEvent(t *testing.T) {
	s := rising()
	for at, e := range s {
		for _, f := range sample.Fields() {
			for _, n := range sample.Beyond(f) {
				wrong := changed(s, at, sample.With(e, f, n))
				if Right(wrong) {
					t.Errorf("%s %d: %+v may be", f.Name, n, wrong)
				}
			}
		}
		for _, part := range sample.WrongParts() {
			for _, point := range []complex128{complex(part, 0), complex(0, part), complex(part, part)} {
				x := e
				x.At = point
				if Right(changed(s, at, x)) || Right([]api.Event{x}) {
					t.Errorf("%+v may be", changed(s, at, x))
				}
			}
		}
	}
	for _, wrong := range [][]api.Event{
		times(-1), times(-1, 0), times(1<<40, 1<<40+1), {key(5, 3, 1), key(5, 4, 1)}, {key(5, -1, 1), key(5, 0, 1)},
		{key(5, 1, 1<<20), key(5, 1, 1<<20+1)}, {key(5, 1, -1), key(5, 1, 0)}, times(least, most),
	} {
		if Right(wrong) {
			t.Errorf("%+v may be", wrong)
		}
	}
}

// P15.1: each event at its place, whatever its kind and point; ahead of all, between each two, behind all; in the row of none.
func TestFind(t *testing.T) {
	s := rising()
	for at, e := range s {
		for _, x := range append(others(e), e) {
			holdsFind(t, s, x, at, true)
		}
		ahead, behind := beside(e)
		for _, x := range ahead {
			// What stands between two is held by both: here by the one behind it.
			holdsFind(t, s[at:], x, 0, false)
			if at == 0 || sample.Ahead(s[at-1], x) {
				holdsFind(t, s, x, at, false)
			}
		}
		for _, x := range behind {
			holdsFind(t, s[:at+1], x, at+1, false)
			if at == len(s)-1 || sample.Ahead(x, s[at+1]) {
				holdsFind(t, s, x, at+1, false)
			}
		}
	}
	holdsFind(t, s, key(least, least, least), 0, false)
	holdsFind(t, s, key(most, most, most), len(s), false)
	for _, none := range [][]api.Event{nil, {}} {
		for _, e := range append(sample.Strange(), s...) {
			holdsFind(t, none, e, 0, false)
		}
	}
}

// P15.1: rows that do not rise: the first one that does not stand ahead counts, though others behind it do, or have its key.
func TestFindNotRising(t *testing.T) {
	for _, c := range []struct {
		s  []api.Event
		e  api.Event
		at int
		so bool
	}{
		{times(9, 2, 5), key(5, 1, 4), 0, false},
		{times(2, 9, 5, 1), key(5, 1, 4), 1, false},
		{times(2, 9, 5, 1), key(2, 1, 4), 0, true},
		{times(2, 9, 5, 1), key(1, 1, 4), 0, false},
		{times(2, 9, 5, 1), key(10, 1, 4), 4, false},
		{times(9, 5, 2), key(5, 1, 4), 0, false},
		{times(2, 5, 1, 5, 9), key(5, 1, 4), 1, true},
		{times(1, 0, 3, 2, 5), key(5, 1, 4), 4, true},
		{times(1, 0, 3, 2, 5), key(4, 1, 4), 4, false},
		{times(5, 5), key(5, 1, 4), 0, true},
		{times(2, 5, 5, 9), key(5, 1, 4), 1, true},
		{times(2, 5, 5, 9), key(5, 1, 5), 3, false},
		{times(2, 5, 5, 9), key(5, 1, 3), 1, false},
		{[]api.Event{key(5, 2, 0), key(5, 1, 4)}, key(5, 1, 4), 0, false},
		{[]api.Event{key(5, 1, 5), key(5, 1, 4)}, key(5, 1, 4), 0, false},
	} {
		holdsFind(t, c.s, c.e, c.at, c.so)
		for _, x := range others(c.e) {
			holdsFind(t, c.s, x, c.at, c.so)
		}
	}
}

// P15.1: the same rows; rows that differ in one number or point of one event, have one event more or fewer, or two of them turned about.
func TestSame(t *testing.T) {
	for _, s := range [][]api.Event{nil, {}, rising(), times(9, 2, 2), sample.Strange()} {
		room := append(slices.Clone(s), foreign())
		if !Same(s, s) || !Same(s, room[:len(s)]) || Same(s, room) || Same(room, s) {
			t.Errorf("%s", shown(s))
		}
		for at, e := range s {
			l := append(others(e), foreign())
			for _, f := range sample.Fields() {
				n := *f.Of(&e)
				for _, m := range []int{n + 1, n - 1, n ^ 1<<32, n ^ least} {
					l = append(l, sample.With(e, f, m))
				}
			}
			for _, x := range l {
				if Same(s, changed(s, at, x)) || Same(changed(s, at, x), s) {
					t.Errorf("%s: the same with %+v at %d", shown(s), x, at)
				}
			}
			for _, other := range [][]api.Event{less(s, at), s[:at], s[at+1:], with(s, at, e), with(s, at, api.Event{})} {
				if Same(s, other) || Same(other, s) {
					t.Errorf("%+v, %+v are the same", s, other)
				}
			}
		}
	}
	s := rising()
	for at := range s[1:] {
		turned := slices.Clone(s)
		turned[at], turned[at+1] = s[at+1], s[at]
		if Same(s, turned) || Same(turned, s) {
			t.Errorf("%+v, %+v are the same", s, turned)
		}
	}
	if !Same(nil, []api.Event{}) || !Same([]api.Event{}, nil) || Same(nil, make([]api.Event, 1)) || Same(make([]api.Event, 1), nil) {
		t.Error("nothing and an empty list")
	}
}

// P15.1: points as event.Same holds them: -0 is 0, NaN is NaN.
func TestSamePoints(t *testing.T) {
	points := func(l ...complex128) []api.Event {
		s := rising()[:len(l)]
		for at, c := range l {
			s[at].At = c
		}
		return s
	}
	odd := math.Float64frombits(0xfff8000000000123)
	for _, c := range []struct {
		a, b []api.Event
		same bool
	}{
		{points(0, complex(sample.Minus0(), 7)), points(complex(0, sample.Minus0()), 7i), true},
		{points(complex(math.NaN(), 1), 3), points(complex(odd, 1), 3), true},
		{points(3, complex(1, math.NaN())), points(3, complex(1, math.NaN())), true},
		{points(3, complex(1, math.NaN())), points(3, complex(math.NaN(), 1)), false},
		{points(complex(math.Inf(1), 0)), points(complex(math.Inf(-1), 0)), false},
		{points(0.5), points(0), false},
		{points(1+2i, 3), points(2+1i, 3), false},
		{points(1, 3+1i), points(1, 3-1i), false},
	} {
		if Same(c.a, c.b) != c.same || Same(c.b, c.a) != c.same {
			t.Errorf("%+v, %+v: %t", c.a, c.b, !c.same)
		}
	}
}

// P15.2: an event that is taken out of a row is put at its place again, the others staying; where one of its key is, the row is as it is.
func TestPut(t *testing.T) {
	s := rising()
	for at, e := range s {
		for _, x := range append(others(e), e) {
			holdsPut(t, less(s, at), x, changed(s, at, x), true)
			holdsPut(t, s, x, s, false)
			holdsPut(t, s[:at], x, with(s[:at], at, x), true)
			holdsPut(t, s[at:], x, s[at:], false)
			holdsPut(t, s[at+1:], x, changed(s[at:], 0, x), true)
			holdsPut(t, nil, x, []api.Event{x}, true)
			holdsPut(t, []api.Event{}, x, []api.Event{x}, true)
		}
		ahead, behind := beside(e)
		for _, x := range ahead {
			holdsPut(t, s[at:], x, with(s[at:], 0, x), true)
		}
		for _, x := range behind {
			holdsPut(t, s[:at+1], x, with(s[:at+1], at+1, x), true)
		}
	}
	for _, e := range sample.Strange() {
		holdsPut(t, nil, e, []api.Event{e}, true)
		holdsPut(t, []api.Event{e}, e, []api.Event{e}, false)
	}
}

// P15.2: into rows that do not rise an event is put at its place, too, even where one of its key stands behind that.
func TestPutNotRising(t *testing.T) {
	e := key(5, 1, 4)
	for _, c := range []struct {
		s, want []api.Event
		so      bool
	}{
		{times(9, 2, 4), times(5, 9, 2, 4), true},
		{times(2, 9, 4, 1), times(2, 5, 9, 4, 1), true},
		{times(4, 3, 2), times(4, 3, 2, 5), true},
		{times(9, 5), times(5, 9, 5), true},
		{times(2, 9, 5, 1), times(2, 5, 9, 5, 1), true},
		{times(2, 5, 9, 5), times(2, 5, 9, 5), false},
		{times(5, 5), times(5, 5), false},
		{times(4, 3, 5, 2), times(4, 3, 5, 2), false},
	} {
		holdsPut(t, c.s, e, c.want, c.so)
		for _, x := range others(e) {
			want := slices.Clone(c.want)
			if c.so {
				want[placeByWords(c.s, e)] = x
			}
			holdsPut(t, c.s, x, want, c.so)
		}
	}
}

// P15.2: a row without each of its events, whatever kind and point is handed in beside its key; without one that is not there it is as it is.
func TestWithout(t *testing.T) {
	s := rising()
	for at, e := range s {
		for _, x := range append(others(e), e) {
			holdsWithout(t, s, x, less(s, at), true)
			holdsWithout(t, s[:at+1], x, s[:at], true)
			holdsWithout(t, s[at:], x, s[at+1:], true)
			holdsWithout(t, []api.Event{e}, x, nil, true)
			holdsWithout(t, less(s, at), x, less(s, at), false)
			holdsWithout(t, nil, x, nil, false)
			holdsWithout(t, []api.Event{}, x, nil, false)
		}
		ahead, behind := beside(e)
		for _, x := range append(ahead, behind...) {
			if !slices.ContainsFunc(s, func(y api.Event) bool { return oneKey(x, y) }) {
				holdsWithout(t, s, x, s, false)
			}
		}
	}
	for _, e := range sample.Strange() {
		holdsWithout(t, []api.Event{e}, e, nil, true)
	}
}

// P15.2: of rows that do not rise the one at the event's place is taken, if it has its key: not one behind it.
func TestWithoutNotRising(t *testing.T) {
	e := key(5, 1, 4)
	for _, c := range []struct {
		s, want []api.Event
		so      bool
	}{
		{times(9, 5), times(9, 5), false},
		{times(2, 9, 5, 1), times(2, 9, 5, 1), false},
		{times(6, 5, 5), times(6, 5, 5), false},
		{times(2, 5, 1, 5), times(2, 1, 5), true},
		{times(5, 5), times(5), true},
		{times(4, 3, 5, 2), times(4, 3, 2), true},
		{times(4, 3, 2), times(4, 3, 2), false},
	} {
		for _, x := range append(others(e), e) {
			holdsWithout(t, c.s, x, c.want, c.so)
		}
	}
	// Of two of one key the first one goes.
	first, second := others(e)[0], others(e)[1]
	holdsWithout(t, []api.Event{first, second}, e, []api.Event{second}, true)
	holdsWithout(t, []api.Event{second, first}, e, []api.Event{first}, true)
}

// P15.3: what lies between two events of a row is what stands between them; nothing, if the one does not stand ahead of the other.
func TestBetween(t *testing.T) {
	s := rising()
	first, last := key(least, least, least), key(most, most, most)
	for i, a := range s {
		for j, b := range s {
			var want []api.Event
			if i < j {
				want = s[i+1 : j]
			}
			holdsBetween(t, s, a, b, want)
			for _, x := range others(a) {
				holdsBetween(t, s, x, b, want)
				holdsBetween(t, s, b, x, these(s, func(at int) bool { return j < at && at < i }))
			}
		}
		holdsBetween(t, s, first, a, s[:i])
		holdsBetween(t, s, a, last, s[i+1:])
		holdsBetween(t, s, last, a, nil)
		holdsBetween(t, s, a, first, nil)
		ahead, behind := beside(a)
		for k := range ahead {
			holdsBetween(t, s[i:i+1], ahead[k], behind[k], s[i:i+1])
			holdsBetween(t, s[i:i+1], behind[k], ahead[k], nil)
			holdsBetween(t, s[i:i+1], a, behind[k], nil)
			holdsBetween(t, s[i:i+1], ahead[k], a, nil)
		}
	}
	holdsBetween(t, s, first, last, s)
	holdsBetween(t, s, last, first, nil)
	holdsBetween(t, nil, first, last, nil)
	holdsBetween(t, []api.Event{}, first, last, nil)
}

// P15.3: of rows that do not rise what lies between is told in the row's order.
func TestBetweenNotRising(t *testing.T) {
	s := times(9, 2, 5, 7, 2, 5, 3)
	for _, c := range []struct {
		a, b int
		want []api.Event
	}{
		{2, 9, times(5, 7, 5, 3)}, {1, 10, s}, {2, 5, times(3)}, {5, 9, times(7)}, {3, 9, times(5, 7, 5)}, {9, 2, nil}, {5, 5, nil}, {2, 3, nil}, {9, 99, nil},
		{8, 99, times(9)}, {-9, 3, times(2, 2)},
	} {
		holdsBetween(t, s, key(c.a, 1, 4), key(c.b, 1, 4), c.want)
	}
	holdsBetween(t, s, key(2, 1, 3), key(5, 1, 5), times(2, 5, 2, 5, 3))
	holdsBetween(t, s, key(2, 2, 0), key(7, 0, 9), times(5, 5, 3))
}

// P15.3: behind each event the next one, whatever its kind and point; behind the last one nothing; ahead of all the first one.
func TestBehind(t *testing.T) {
	s := rising()
	for at, e := range s {
		for _, x := range append(others(e), e) {
			holdsBehind(t, s, x, at+1)
			holdsBehind(t, less(s, at), x, at)
			holdsBehind(t, s[:at+1], x, at+1)
			holdsBehind(t, []api.Event{e}, x, 1)
		}
		ahead, behind := beside(e)
		for _, x := range ahead {
			holdsBehind(t, s[at:], x, 0)
		}
		for _, x := range behind {
			holdsBehind(t, s[:at+1], x, at+1)
		}
	}
	holdsBehind(t, s, key(least, least, least), 0)
	holdsBehind(t, s, key(most, most, most), len(s))
	holdsBehind(t, nil, s[0], 0)
	holdsBehind(t, []api.Event{}, s[0], 0)
}

// P15.3: of rows that do not rise the first one that stands behind, though one behind it stands nearer.
func TestBehindNotRising(t *testing.T) {
	for _, c := range []struct {
		s  []api.Event
		ts int
		at int
	}{
		{times(9, 2, 5), 2, 0}, {times(9, 2, 5), 1, 0}, {times(9, 2, 5), 9, 3}, {times(2, 9, 5), 2, 1}, {times(5, 2, 5, 6), 5, 3}, {times(5, 5, 2), 5, 3},
		{times(5, 5, 2), 4, 0}, {times(1, 0, 3, 2), 2, 2}, {times(2, 1, 0), 3, 3},
	} {
		holdsBehind(t, c.s, key(c.ts, 1, 4), c.at)
	}
}

// P15.3: times below all, each event's own, one more and one less, above all, the least and the greatest.
func TestFromDrop(t *testing.T) {
	s := rising()
	for _, c := range []struct{ ts, at int }{
		{least, 0}, {-1, 0}, {0, 0}, {1, 0}, {2, 0}, {3, 1}, {4, 1}, {5, 1}, {6, 4}, {8, 4}, {9, 4}, {10, 6}, {11, 6}, {12, 7}, {1 << 32, 7}, {most, 7},
	} {
		holdsFrom(t, s, c.ts, c.at)
		holdsDrop(t, s, c.ts, s[c.at:])
	}
	for _, ts := range []int{least, -1, 0, 1, most} {
		for _, none := range [][]api.Event{nil, {}} {
			holdsFrom(t, none, ts, 0)
			holdsDrop(t, none, ts, nil)
		}
		one := times(ts)
		holdsFrom(t, one, ts, 0)
		holdsDrop(t, one, ts, one)
		if ts < most {
			holdsFrom(t, one, ts+1, 1)
			holdsDrop(t, one, ts+1, nil)
		}
	}
	edges := times(least, least+1, most-1, most)
	for ts, at := range map[int]int{least: 0, least + 1: 1, least + 2: 2, 0: 2, most - 1: 2, most: 3} {
		holdsFrom(t, edges, ts, at)
		holdsDrop(t, edges, ts, edges[at:])
	}
}

// P15.3: of rows that do not rise From is the first one at or above a time, and Drop leaves out each one below it, wherever it stands.
func TestFromDropNotRising(t *testing.T) {
	s := times(5, 2, 9, 2, 5, 1)
	for _, c := range []struct {
		ts, at int
		left   []api.Event
	}{
		{1, 0, s}, {2, 0, times(5, 2, 9, 2, 5)}, {3, 0, times(5, 9, 5)}, {5, 0, times(5, 9, 5)}, {6, 2, times(9)}, {9, 2, times(9)}, {10, 6, nil},
	} {
		holdsFrom(t, s, c.ts, c.at)
		holdsDrop(t, s, c.ts, c.left)
	}
	holdsFrom(t, times(1, 2, 9, 3), 3, 2)
	holdsDrop(t, times(1, 9, 2), 3, times(9))
}

// P15.1 to P15.4: all rows of up to four events of six keys, in whatever order, with an event of each key; what lies between each two.
func TestAll(t *testing.T) {
	keys := []api.Event{key(2, 0, 1), key(2, 0, 2), key(2, 1, 0), key(3, 0, 0), key(3, 0, 1), key(1, 3, 9)}
	rows := [][]api.Event{nil}
	for range 5 {
		var longer [][]api.Event
		for _, s := range rows {
			for i, e := range keys {
				promised(t, s, others(e)[len(s)%3])
				promisedBetween(t, s, e, keys[(i+len(s))%len(keys)])
				promisedBetween(t, s, e, keys[(i+len(s)*2+1)%len(keys)])
				// Its kind tells where it stood.
				e.Kind = len(s)
				longer = append(longer, with(s, len(s), e))
			}
		}
		rows = longer
	}
}

// P15.4: a row grows event by event, in several orders, each of them being put where it belongs; and is taken away again in another order.
func TestGrow(t *testing.T) {
	s := rising()
	n := len(s)
	for stride := 1; stride < n; stride++ {
		var l []api.Event
		var was [][]api.Event
		for i := range n {
			e := s[(i+1)*stride%n]
			promised(t, l, e)
			was = append(was, l)
			var put bool
			if l, put = Put(l, e); !put || len(l) != i+1 || !Right(l) {
				t.Fatalf("%+v put: %+v, %t", e, l, put)
			}
		}
		if !Same(l, s) {
			t.Fatalf("%+v grew, not %+v", l, s)
		}
		for i := n - 1; i >= 0; i-- {
			var ok bool
			if l, ok = Without(l, s[(i+1)*stride%n]); !ok || !sample.SameBits(l, was[i]) {
				t.Fatalf("%+v, not %+v; %t", l, was[i], ok)
			}
		}
	}
}

// R1, P15.1 to P15.4: events at the edges of int, and with points that are no numbers, as what is handed in and as rows.
func TestEdges(t *testing.T) {
	var odd []api.Event
	for _, ts := range []int{least, least + 1, -1, 0, most} {
		for _, src := range []int{least, 0, most} {
			for _, seq := range []int{least, most} {
				part := sample.WrongParts()[len(odd)%14]
				odd = append(odd, api.Event{Ts: ts, Src: src, Seq: seq, Kind: ts, At: complex(part, math.NaN())})
			}
		}
	}
	all := slices.Concat(odd, sample.Strange())
	backwards := slices.Clone(all)
	slices.Reverse(backwards)
	for i, e := range all {
		for _, s := range [][]api.Event{nil, odd, all, backwards, {e}, {e, e}, all[i:], all[:i]} {
			promised(t, s, e)
			promisedBetween(t, s, e, all[(i*7+3)%len(all)])
		}
		for _, x := range odd {
			promisedBetween(t, odd, e, x)
			promisedBetween(t, odd, x, e)
		}
	}
}

// R1: long rows.
func TestLong(t *testing.T) {
	const n = 100000
	s := make([]api.Event, n)
	for at := range s {
		s[at] = key(at/2*3, at%2*2, at)
	}
	if !Right(s) || Right(changed(s, n-1, s[0])) || Right(changed(s, 0, s[n-1])) {
		t.Error("a long row")
	}
	for _, at := range []int{0, 1, n / 2, n - 2, n - 1} {
		e := s[at]
		holdsFind(t, s, e, at, true)
		holdsPut(t, s, e, s, false)
		holdsPut(t, less(s, at), e, s, true)
		holdsWithout(t, s, e, less(s, at), true)
		holdsBehind(t, s, e, at+1)
		holdsBetween(t, s, s[0], e, s[min(1, at):at])
		holdsFrom(t, s, e.Ts, at/2*2)
		holdsDrop(t, s, e.Ts, s[at/2*2:])
	}
	if !Same(s, slices.Clone(s)) || Same(s, less(s, n-1)) || Same(s, changed(s, n-1, others(s[n-1])[0])) {
		t.Error("a long row is not the same")
	}
}

// FuzzRow holds what is told of rows and events of any bytes against the chapter's words.
func FuzzRow(f *testing.F) {
	f.Add([]byte{})
	f.Add([]byte{5, 1, 1, 9, 4, 1, 2, 0, 3, 5, 1, 2, 9, 0, 0})
	f.Add([]byte{255, 0, 128, 0, 255, 127, 1, 1, 1, 1, 1, 0, 250, 6, 0})
	f.Fuzz(func(t *testing.T, b []byte) {
		number := func(b byte) int {
			switch b {
			case 250:
				return most
			case 251:
				return least
			case 252:
				return 1 << 40
			}
			return int(int8(b))
		}
		var l []api.Event
		// No more than thirty: any two, and all parts of them, are gone through.
		for b = b[:min(len(b), 90)]; len(b) > 2; b = b[3:] {
			l = append(l, api.Event{
				Ts: number(b[0]), Src: number(b[1] % 8 * 36), Seq: number(b[2]), Kind: int(b[1] / 40), At: complex(float64(b[2])/2, sample.Minus0()),
			})
		}
		for at, e := range l {
			promised(t, l[:at], e)
			promised(t, event.Sorted(l[at:]...), e)
			promisedBetween(t, l, e, l[len(l)-1-at])
		}
	})
}
