package record

import (
	"math"
	"testing"

	"straggle/api"
	"straggle/event"
)

const (
	most  = math.MaxInt
	least = math.MinInt
	edge  = api.MaxCoord
)

// minus0 is -0: a constant cannot be.
var minus0 = math.Copysign(0, -1)

// field is one of a record's numbers: where it stands, and the greatest that it may be in a record of that kind.
type field struct {
	name string
	of   func(r *api.Rec) *int
	most int
}

// eventFields are the numbers of a record's event.
func eventFields() []field {
	return []field{
		{"Event.Ts", func(r *api.Rec) *int { return &r.Event.Ts }, 1 << 40},
		{"Event.Src", func(r *api.Rec) *int { return &r.Event.Src }, 255},
		{"Event.Seq", func(r *api.Rec) *int { return &r.Event.Seq }, 1 << 20},
		{"Event.Kind", func(r *api.Rec) *int { return &r.Event.Kind }, 5},
	}
}

// ownFields are the numbers of a record itself.
func ownFields() []field {
	return []field{
		{"Src", func(r *api.Rec) *int { return &r.Src }, 255},
		{"Ts", func(r *api.Rec) *int { return &r.Ts }, 1 << 40},
	}
}

// with is r with another number in that field.
func with(r api.Rec, f field, n int) api.Rec {
	*f.of(&r) = n
	return r
}

// at is r with its event at another point.
func at(r api.Rec, c complex128) api.Rec {
	r.Event.At = c
	return r
}

// inside are numbers that may stand in a field, its edges among them.
func inside(f field) []int { return []int{0, 1, 3, 4, 5, f.most / 2, f.most - 1, f.most} }

// beyond are numbers that may not stand there.
func beyond(f field) []int {
	return []int{
		-1, -2, -255, -256, f.most + 1, f.most + 2, -f.most - 1, -1 << 40, 1<<40 + 1, 1 << 41, 1<<40 + 1<<32, 1 << 62, most, least, least + 1,
	}
}

// rightEvents are records of events that may be: ordinary ones, and all numbers at their least and their greatest.
func rightEvents() []api.Rec {
	var l []api.Rec
	for _, e := range []api.Event{
		{},
		{Ts: 5, Src: 1, Seq: 9, Kind: 2, At: 3 - 4i},
		{Ts: 1 << 40, Src: 255, Seq: 1 << 20, Kind: 5, At: edge - edge*1i},
		{Ts: 1<<40 - 1, Src: 3, Seq: 1<<20 - 1, Kind: 4, At: -edge + edge*1i},
		{Ts: 1 << 40, At: complex(minus0, minus0)},
		{Seq: 1 << 20, At: complex(0, minus0)},
		{Src: 4, At: complex(minus0, 7)},
		{Kind: 5, At: edge},
	} {
		l = append(l, api.Rec{Kind: 1, Event: e})
	}
	return l
}

// rightMarks are marks that may be.
func rightMarks() []api.Rec {
	return []api.Rec{
		{Kind: 2}, {Kind: 2, Src: 3, Ts: 9}, {Kind: 2, Src: 4, Ts: 1<<40 - 1}, {Kind: 2, Src: 255, Ts: 1 << 40}, {Kind: 2, Src: 254}, {Kind: 2, Ts: 1 << 40},
	}
}

// wrongParts are parts that no point may have.
func wrongParts() []float64 {
	return []float64{
		edge + 1, -edge - 1, math.Nextafter(edge, math.Inf(1)), math.Nextafter(-edge, math.Inf(-1)), 0.5, -0.5, edge - 0.5,
		math.SmallestNonzeroFloat64, -math.SmallestNonzeroFloat64, 1 << 40, 1 << 63, 1e300, math.Inf(1), math.Inf(-1), math.NaN(),
	}
}

// strange are records of all sorts and kinds, most of which may not be.
func strange() []api.Rec {
	l := append(rightEvents(), rightMarks()...)
	for _, n := range []int{-1, 1, 3, 255, 256, 1 << 33, most, least} {
		for _, f := range append(eventFields(), ownFields()...) {
			for _, kind := range []uint8{0, 1, 2, 3, 255} {
				l = append(l, with(api.Rec{Kind: kind}, f, n), with(api.Rec{Kind: kind, Event: api.Event{Ts: 6, Src: 7, Seq: 8, Kind: 9, At: 1i}, Src: 10, Ts: 11}, f, n))
			}
		}
	}
	for _, p := range wrongParts() {
		for _, kind := range []uint8{0, 1, 2, 3, 255} {
			l = append(l, at(api.Rec{Kind: kind}, complex(p, 0)), at(api.Rec{Kind: kind, Src: 1}, complex(0, p)), at(api.Rec{Kind: kind, Ts: 1}, complex(p, minus0)))
		}
	}
	return l
}

// others are the kinds that are none.
func others() []uint8 {
	l := []uint8{0}
	for kind := 3; kind < 256; kind++ {
		l = append(l, uint8(kind))
	}
	return l
}

// bits tells a record from any other, -0 from 0 and one NaN from another too.
func bits(r api.Rec) [9]uint64 {
	return [9]uint64{
		uint64(r.Kind), uint64(r.Event.Ts), uint64(r.Event.Src), uint64(r.Event.Seq), uint64(r.Event.Kind),
		math.Float64bits(real(r.Event.At)), math.Float64bits(imag(r.Event.At)), uint64(r.Src), uint64(r.Ts),
	}
}

// P4.1: records of events that may be, each number at its edges and between, the source beyond those that there are too.
func TestRightEvent(t *testing.T) {
	for _, r := range rightEvents() {
		if !Right(r) {
			t.Errorf("%+v is not right", r)
		}
		for _, f := range eventFields() {
			for _, n := range inside(f) {
				if d := with(r, f, n); !Right(d) {
					t.Errorf("%+v is not right", d)
				}
			}
		}
		for src := range 256 {
			r.Event.Src = src
			if !Right(r) {
				t.Errorf("%+v is not right", r)
			}
		}
		for _, c := range []complex128{0, complex(minus0, 0), complex(0, minus0), complex(minus0, minus0), edge, -edge, edge * 1i, -edge - edge*1i} {
			if d := at(r, c); !Right(d) {
				t.Errorf("%+v is not right", d)
			}
		}
	}
}

// P4.1: a record of an event with one number beyond its edges, all else being right; and with all of them.
func TestRightEventWrongNumber(t *testing.T) {
	for _, r := range rightEvents() {
		for _, f := range eventFields() {
			for _, n := range beyond(f) {
				if d := with(r, f, n); Right(d) {
					t.Errorf("%s %d: %+v is right", f.name, n, d)
				}
			}
		}
	}
	for _, e := range []api.Event{
		{Ts: -1, Src: -1, Seq: -1, Kind: -1}, {Ts: 1<<40 + 1, Src: 256, Seq: 1<<20 + 1, Kind: 6}, {Ts: least, Src: most, Seq: least, Kind: most, At: 0.5},
	} {
		if r := (api.Rec{Kind: 1, Event: e}); Right(r) {
			t.Errorf("%+v is right", r)
		}
	}
}

// P4.1: a record of an event has no source and no time of its own, not even such as a mark may have.
func TestRightEventOwnNumbers(t *testing.T) {
	for _, r := range rightEvents() {
		for _, f := range ownFields() {
			for _, n := range append(inside(f), beyond(f)...) {
				if d := with(r, f, n); Right(d) != (n == 0) {
					t.Errorf("%s %d: %+v: %t", f.name, n, d, Right(d))
				}
			}
			if n := r.Event.Ts; n != 0 && Right(with(r, f, n)) {
				t.Errorf("%s %d, as its event's: %+v is right", f.name, n, r)
			}
			if n := r.Event.Src; n != 0 && Right(with(r, f, n)) {
				t.Errorf("%s %d, as its event's: %+v is right", f.name, n, r)
			}
		}
	}
}

// P4.1: points that may not be, for the sake of either part.
func TestRightEventWrongPoint(t *testing.T) {
	for _, r := range rightEvents() {
		for _, p := range wrongParts() {
			for _, q := range []float64{0, minus0, 1, edge, -edge, p} {
				for _, c := range []complex128{complex(p, q), complex(q, p)} {
					if d := at(r, c); Right(d) {
						t.Errorf("%+v is right", d)
					}
				}
			}
		}
	}
}

// P4.1: marks that may be, each number at its edges and between.
func TestRightMark(t *testing.T) {
	for _, r := range rightMarks() {
		if !Right(r) {
			t.Errorf("%+v is not right", r)
		}
		for _, f := range ownFields() {
			for _, n := range inside(f) {
				if d := with(r, f, n); !Right(d) {
					t.Errorf("%+v is not right", d)
				}
			}
		}
		for src := range 256 {
			r.Src = src
			if !Right(r) {
				t.Errorf("%+v is not right", r)
			}
		}
	}
}

// P4.1: a mark with one number beyond its edges; and with both.
func TestRightMarkWrongNumber(t *testing.T) {
	for _, r := range rightMarks() {
		for _, f := range ownFields() {
			for _, n := range beyond(f) {
				if d := with(r, f, n); Right(d) {
					t.Errorf("%s %d: %+v is right", f.name, n, d)
				}
			}
		}
	}
	for _, r := range []api.Rec{{Kind: 2, Src: -1, Ts: -1}, {Kind: 2, Src: 256, Ts: 1<<40 + 1}, {Kind: 2, Src: most, Ts: least}} {
		if Right(r) {
			t.Errorf("%+v is right", r)
		}
	}
}

// P4.1: a mark with an event that is not nothing, in one field alone, such as may be too; -0 is 0.
func TestRightMarkEvent(t *testing.T) {
	for _, r := range rightMarks() {
		for _, f := range eventFields() {
			for _, n := range append(inside(f), beyond(f)...) {
				if d := with(r, f, n); Right(d) != (n == 0) {
					t.Errorf("%s %d: %+v: %t", f.name, n, d, Right(d))
				}
			}
		}
		for _, p := range append(wrongParts(), 1, -1, edge, -edge) {
			for _, q := range []float64{0, minus0, p} {
				for _, c := range []complex128{complex(p, q), complex(q, p)} {
					if d := at(r, c); Right(d) {
						t.Errorf("%+v is right", d)
					}
				}
			}
		}
		for _, c := range []complex128{complex(minus0, 0), complex(0, minus0), complex(minus0, minus0)} {
			if d := at(r, c); !Right(d) {
				t.Errorf("%+v is not right", d)
			}
		}
		full := r
		full.Event = api.Event{Ts: 5, Src: 1, Seq: 9, Kind: 2, At: 3 - 4i}
		if Right(full) {
			t.Errorf("%+v is right", full)
		}
	}
}

// P4.1: no other kind may be, whatever else the record has.
func TestRightOtherKind(t *testing.T) {
	for _, kind := range others() {
		for _, r := range strange() {
			r.Kind = kind
			if Right(r) {
				t.Errorf("%+v is right", r)
			}
		}
	}
}

// P4.1: the record of any event is of that kind, has that event bit by bit, and nothing else.
func TestOf(t *testing.T) {
	if r := Of(api.Event{Ts: 1, Src: 2, Seq: 3, Kind: 4, At: 5 + 6i}); r != (api.Rec{Kind: api.RcEvent, Event: api.Event{Ts: 1, Src: 2, Seq: 3, Kind: 4, At: 5 + 6i}}) {
		t.Errorf("%+v", r)
	}
	for _, s := range strange() {
		if r, want := Of(s.Event), (api.Rec{Kind: 1, Event: s.Event}); bits(r) != bits(want) {
			t.Errorf("Of(%+v): %+v", s.Event, r)
		}
	}
}

// P4.1: the record of any mark is of that kind, has that source and that time, and nothing else.
func TestMark(t *testing.T) {
	if r := Mark(3, 9); r != (api.Rec{Kind: api.RcMark, Src: 3, Ts: 9}) {
		t.Errorf("%+v", r)
	}
	numbers := []int{0, 3, 4, 9, 255, 256, -1, 1 << 40, 1<<40 + 1, 1 << 62, most, least}
	for _, src := range numbers {
		for _, ts := range numbers {
			r := Mark(src, ts)
			if bits(r) != bits(api.Rec{Kind: 2, Src: src, Ts: ts}) {
				t.Errorf("Mark(%d, %d): %+v", src, ts, r)
			}
			if may := src >= 0 && src <= 255 && ts >= 0 && ts <= 1<<40; Right(r) != may {
				t.Errorf("Mark(%d, %d): %t", src, ts, Right(r))
			}
		}
	}
}

// P4.1: a record is the same as itself, and as none that differs in its kind or in one number alone, either way about.
func TestSameNumbers(t *testing.T) {
	for _, r := range strange() {
		if !Same(r, r) {
			t.Errorf("%+v is not the same as itself", r)
		}
		for bit := range 8 {
			d := r
			d.Kind ^= 1 << bit
			if Same(d, r) || Same(r, d) {
				t.Errorf("%+v, %+v are the same", d, r)
			}
		}
		for _, f := range append(eventFields(), ownFields()...) {
			n := *f.of(&r)
			for _, m := range []int{n + 1, n - 1, n ^ 1<<32, n ^ least, ^n} {
				if d := with(r, f, m); Same(d, r) || Same(r, d) {
					t.Errorf("%+v, %+v are the same", d, r)
				}
			}
		}
	}
}

// P4.1: points as event.Same holds them, of records of any kind: -0 is 0, NaN is NaN.
func TestSamePoints(t *testing.T) {
	// Those of one row are the same, those of two are not.
	rows := [][]float64{
		{0, minus0}, {1}, {-1}, {edge}, {edge + 1}, {0.5}, {math.SmallestNonzeroFloat64}, {math.Inf(1)}, {math.Inf(-1)},
		{math.NaN(), math.Float64frombits(0xfff8000000000123)},
	}
	for kind := range 4 {
		r := api.Rec{Kind: uint8(kind), Event: api.Event{Ts: 5, Src: 1, Seq: 2, Kind: 3}, Src: 4, Ts: 6}
		for i, row := range rows {
			for j, other := range rows {
				for _, p := range row {
					for _, q := range other {
						for _, c := range [][2]complex128{{complex(p, 4), complex(q, 4)}, {complex(4, p), complex(4, q)}} {
							if a, b := at(r, c[0]), at(r, c[1]); Same(a, b) != (i == j) {
								t.Errorf("%+v, %+v: %t", a, b, i != j)
							}
						}
					}
				}
			}
		}
	}
}

// P4.2: the source and the time are the event's, or the mark's own, of records that may not be too; the other ones are not told.
func TestSrcTs(t *testing.T) {
	if r := Mark(3, 9); Src(r) != 3 || Ts(r) != 9 {
		t.Errorf("%+v: %d, %d", r, Src(r), Ts(r))
	}
	if r := Of(api.Event{Ts: 7, Src: 2, Seq: 5, Kind: 4}); Src(r) != 2 || Ts(r) != 7 {
		t.Errorf("%+v: %d, %d", r, Src(r), Ts(r))
	}
	for _, r := range strange() {
		r.Kind = 1
		if Src(r) != r.Event.Src || Ts(r) != r.Event.Ts {
			t.Errorf("%+v: %d, %d", r, Src(r), Ts(r))
		}
		r.Kind = 2
		if Src(r) != r.Src || Ts(r) != r.Ts {
			t.Errorf("%+v: %d, %d", r, Src(r), Ts(r))
		}
		for _, kind := range others() {
			if r.Kind = kind; Src(r) != -1 || Ts(r) != -1 {
				t.Errorf("%+v: %d, %d", r, Src(r), Ts(r))
			}
		}
	}
}

// P4.2: a source is known from 0 to sources less 1, of records that may not be too; of another kind never.
func TestKnown(t *testing.T) {
	if r := Mark(3, 9); !Known(r, 4) || Known(r, 3) {
		t.Errorf("%+v: %t, %t", r, Known(r, 4), Known(r, 3))
	}
	counts := []int{least, least + 1, -256, -2, -1, 0, 1, 2, 3, 4, 5, 255, 256, 257, 1 << 32, most - 1, most}
	for _, sources := range counts {
		for _, src := range append(counts, 254, 1<<32+1) {
			want := false
			if src >= 0 && sources > 0 {
				want = src <= sources-1
			}
			// The other place's source is another one, so that the wrong one is told apart.
			inEvent := api.Rec{Kind: 1, Event: api.Event{Ts: -3, Src: src}, Src: ^src, Ts: src}
			inMark := api.Rec{Kind: 2, Event: api.Event{Src: ^src, Ts: src}, Src: src, Ts: -3}
			if Known(inEvent, sources) != want || Known(inMark, sources) != want {
				t.Errorf("%d of %d: %t, %t", src, sources, Known(inEvent, sources), Known(inMark, sources))
			}
			for _, kind := range others() {
				inEvent.Kind, inMark.Kind = kind, kind
				if Known(inEvent, sources) || Known(inMark, sources) {
					t.Errorf("%d of %d, kind %d: known", src, sources, kind)
				}
			}
		}
	}
}

// P4.3: of an event that may be the record may be; and of one that may not, none but for the sake of its source.
func TestFollowsEvent(t *testing.T) {
	for _, s := range strange() {
		for _, src := range []int{s.Event.Src, 0, 3, 4, 255, 256, -1} {
			e := s.Event
			e.Src = src
			if event.Right(e) && !Right(Of(e)) {
				t.Errorf("%+v may be, its record may not", e)
			}
			if !event.Right(e) && Right(Of(e)) && (e.Src < api.MaxSources || e.Src > 255) {
				t.Errorf("%+v may not be, its record may", e)
			}
		}
	}
}

// P4.3: no record is both an event's and a mark's.
func TestFollowsOne(t *testing.T) {
	for _, r := range strange() {
		of, mark := Of(r.Event), Mark(r.Src, r.Ts)
		if Same(of, mark) || Same(mark, of) || Same(r, of) && Same(r, mark) {
			t.Errorf("%+v is both", r)
		}
		if of.Kind == mark.Kind {
			t.Errorf("%+v, %+v are of one kind", of, mark)
		}
	}
	if a, b := Of(api.Event{}), Mark(0, 0); !Right(a) || !Right(b) || Same(a, b) {
		t.Errorf("%+v, %+v: %t, %t, %t", a, b, Right(a), Right(b), Same(a, b))
	}
}

// Kinds rise, are those that have a teller each, and may be left early.
func TestKinds(t *testing.T) {
	var l []uint8
	by := tellers(api.Rec{})
	for kind := range kinds() {
		if by[kind] == nil {
			t.Errorf("%d tells nothing", kind)
		}
		l = append(l, kind)
	}
	if len(l) != 2 || l[0] != api.RcEvent || l[1] != api.RcMark || len(by) != 2 {
		t.Error(l, len(by))
	}
	for kind := range kinds() {
		if kind != api.RcEvent {
			t.Error(kind)
		}
		break
	}
}

// mayBe is Right by the words of the chapter, the event's and the point's too.
func mayBe(r api.Rec) bool {
	from0 := func(n, most int) bool { return 0 <= n && n <= most }
	whole := func(p float64) bool { return math.Trunc(p) == p && math.Abs(p) <= edge }
	e := r.Event
	switch r.Kind {
	case 1:
		return r.Src == 0 && r.Ts == 0 && from0(e.Ts, 1<<40) && from0(e.Src, 255) && from0(e.Seq, 1<<20) && from0(e.Kind, 5) &&
			whole(real(e.At)) && whole(imag(e.At))
	case 2:
		return e.Ts == 0 && e.Src == 0 && e.Seq == 0 && e.Kind == 0 && real(e.At) == 0 && imag(e.At) == 0 && from0(r.Src, 255) && from0(r.Ts, 1<<40)
	}
	return false
}

// FuzzRight holds records of any numbers against the chapter's words.
func FuzzRight(f *testing.F) {
	f.Add(uint8(1), 5, 1, 9, 2, 3.0, -4.0, 0, 0, 4)
	f.Add(uint8(2), 0, 0, 0, 0, 0.0, minus0, 3, 9, 4)
	f.Add(uint8(3), least, most, -1, 6, math.NaN(), math.Inf(1), 256, 1<<40+1, least)
	f.Fuzz(func(t *testing.T, kind uint8, ts, src, seq, eventKind int, x, y float64, ownSrc, ownTs, sources int) {
		r := api.Rec{Kind: kind, Event: api.Event{Ts: ts, Src: src, Seq: seq, Kind: eventKind, At: complex(x, y)}, Src: ownSrc, Ts: ownTs}
		if Right(r) != mayBe(r) || !Same(r, r) {
			t.Errorf("%+v: %t, %t", r, Right(r), Same(r, r))
		}
		wantSrc, wantTs := -1, -1
		switch kind {
		case 1:
			wantSrc, wantTs = src, ts
		case 2:
			wantSrc, wantTs = ownSrc, ownTs
		}
		if Src(r) != wantSrc || Ts(r) != wantTs || Known(r, sources) != (wantSrc >= 0 && wantSrc < sources) {
			t.Errorf("%+v: %d, %d, %t", r, Src(r), Ts(r), Known(r, sources))
		}
		if bits(Of(r.Event)) != bits(api.Rec{Kind: 1, Event: r.Event}) || bits(Mark(ownSrc, ownTs)) != bits(api.Rec{Kind: 2, Src: ownSrc, Ts: ownTs}) {
			t.Errorf("%+v: %+v, %+v", r, Of(r.Event), Mark(ownSrc, ownTs))
		}
	})
}
