package wire

import (
	"bytes"
	"encoding/binary"
	"math"
	"slices"
	"testing"

	"straggle/api"
	"straggle/record"
)

const (
	most  = math.MaxInt
	least = math.MinInt
	edge  = api.MaxCoord
)

// minus0 is -0: a constant cannot be.
var minus0 = math.Copysign(0, -1)

// field is one of a record's numbers: where it stands, the greatest that it may be, and where its bytes begin and end.
type field struct {
	name      string
	of        func(r *api.Rec) *int
	most      int
	from, end int
}

// eventFields are the numbers of a record's event.
func eventFields() []field {
	return []field{
		{"Event.Ts", func(r *api.Rec) *int { return &r.Event.Ts }, 1 << 40, 1, 7},
		{"Event.Src", func(r *api.Rec) *int { return &r.Event.Src }, 255, 7, 8},
		{"Event.Seq", func(r *api.Rec) *int { return &r.Event.Seq }, 1 << 20, 8, 11},
		{"Event.Kind", func(r *api.Rec) *int { return &r.Event.Kind }, 5, 11, 12},
	}
}

// markFields are the numbers of a mark.
func markFields() []field {
	return []field{
		{"Src", func(r *api.Rec) *int { return &r.Src }, 255, 1, 2},
		{"Ts", func(r *api.Rec) *int { return &r.Ts }, 1 << 40, 2, 8},
	}
}

// with is r with another number in that field.
func with(r api.Rec, f field, n int) api.Rec {
	*f.of(&r) = n
	return r
}

// at is r with its event at another point.
func at(r api.Rec, x, y float64) api.Rec {
	r.Event.At = complex(x, y)
	return r
}

// inside are numbers that may stand in a field, its edges among them.
func inside(f field) []int {
	l := []int{0, 1, f.most / 2, f.most - 1, f.most}
	for n := 1; n < f.most; n *= 2 {
		l = append(l, n-1, n)
	}
	return l
}

// beyond are numbers that may not stand there.
func beyond(f field) []int {
	return []int{
		-1, -2, -255, -256, f.most + 1, f.most + 2, -f.most - 1, -1 << 40, 1<<40 + 1, 1 << 41, 1<<40 + 1<<32, 1 << 48, 1<<48 + 1, 1 << 56, 1 << 62, most, least, least + 1,
	}
}

// parts are parts that a point may have.
func parts() []int {
	l := []int{0}
	for n := 1; n <= edge; n *= 2 {
		l = append(l, n-1, n, -n, 1-n)
	}
	return append(l, 3, -3, 255, 256, 257, -255, -256, -257, 65537, -65537, 0xabcde, -0xabcde)
}

// wrongParts are parts that no point may have.
func wrongParts() []float64 {
	return []float64{
		edge + 1, -edge - 1, math.Nextafter(edge, math.Inf(1)), math.Nextafter(-edge, math.Inf(-1)), 0.5, -0.5, edge - 0.5,
		math.SmallestNonzeroFloat64, -math.SmallestNonzeroFloat64, 1 << 31, -1 << 31, 1 << 32, 1<<32 - 1, 1<<32 + 1, -1 << 32, 1 << 40, 1 << 63, 1e300,
		math.Inf(1), math.Inf(-1), math.NaN(),
	}
}

// rightEvents are records of events that may be: ordinary ones, and all numbers at their least and their greatest.
func rightEvents() []api.Rec {
	var l []api.Rec
	for _, e := range []api.Event{
		{},
		{Ts: 5, Src: 1, Seq: 9, Kind: 2, At: 3 - 4i},
		{Ts: 0x0102030405, Src: 6, Seq: 0x070809, Kind: 5, At: 0x0a0b0c - 0x0d0e0f*1i},
		{Ts: 1 << 40, Src: 255, Seq: 1 << 20, Kind: 5, At: edge + edge*1i},
		{Ts: 1 << 40, Src: 255, Seq: 1 << 20, Kind: 5, At: -edge - edge*1i},
		{Ts: 1<<40 - 1, Src: 3, Seq: 1<<20 - 1, Kind: 4, At: -edge + (edge-1)*1i},
		{Src: 4, At: -1},
		{Kind: 5, At: -1i},
	} {
		l = append(l, api.Rec{Kind: 1, Event: e})
	}
	return l
}

// rightMarks are marks that may be.
func rightMarks() []api.Rec {
	return []api.Rec{
		{Kind: 2}, {Kind: 2, Src: 3, Ts: 258}, {Kind: 2, Src: 4, Ts: 1<<40 - 1}, {Kind: 2, Src: 255, Ts: 1 << 40}, {Kind: 2, Src: 254, Ts: 0x0102030405}, {Kind: 2, Ts: 1 << 40},
	}
}

// rights are records of both kinds that may be, and any number of them at each of its edges.
func rights() []api.Rec {
	var l []api.Rec
	for _, r := range rightEvents() {
		l = append(l, r)
		for _, f := range eventFields() {
			for _, n := range inside(f) {
				l = append(l, with(r, f, n))
			}
		}
		for _, p := range parts() {
			l = append(l, at(r, float64(p), imag(r.Event.At)), at(r, real(r.Event.At), float64(p)), at(r, float64(p), float64(-p)))
		}
	}
	for _, r := range rightMarks() {
		l = append(l, r)
		for _, f := range markFields() {
			for _, n := range inside(f) {
				l = append(l, with(r, f, n))
			}
		}
	}
	return l
}

// wrongs are records that may not be, most of them for the sake of one number alone.
func wrongs() []api.Rec {
	var l []api.Rec
	for _, r := range rightEvents() {
		for _, f := range eventFields() {
			for _, n := range beyond(f) {
				l = append(l, with(r, f, n))
			}
		}
		for _, f := range markFields() {
			l = append(l, with(r, f, 1), with(r, f, -1), with(r, f, f.most), with(r, f, most))
		}
		for _, p := range wrongParts() {
			l = append(l, at(r, p, imag(r.Event.At)), at(r, real(r.Event.At), p), at(r, p, p))
		}
	}
	for _, r := range rightMarks() {
		for _, f := range markFields() {
			for _, n := range beyond(f) {
				l = append(l, with(r, f, n))
			}
		}
		for _, f := range eventFields() {
			l = append(l, with(r, f, 1), with(r, f, -1), with(r, f, f.most), with(r, f, most))
		}
		for _, p := range append(wrongParts(), 1, -1, edge) {
			l = append(l, at(r, p, 0), at(r, 0, p))
		}
	}
	for _, r := range append(rightEvents(), rightMarks()...) {
		for _, kind := range []uint8{0, 3, 4, 128, 254, 255} {
			r.Kind = kind
			l = append(l, r)
		}
		// As it is, but of the other kind: all numbers 0 may be of both, and are left out.
		if r.Event != (api.Event{}) {
			r.Kind = 2
			l = append(l, r)
		} else if r.Src != 0 || r.Ts != 0 {
			r.Kind = 1
			l = append(l, r)
		}
	}
	return l
}

// bits tells a record from any other, -0 from 0 and one NaN from another too.
func bits(r api.Rec) [9]uint64 {
	return [9]uint64{
		uint64(r.Kind), uint64(r.Event.Ts), uint64(r.Event.Src), uint64(r.Event.Seq), uint64(r.Event.Kind),
		math.Float64bits(real(r.Event.At)), math.Float64bits(imag(r.Event.At)), uint64(r.Src), uint64(r.Ts),
	}
}

// high are the lowest so many bytes of n, the highest first, by the library.
func high(n, count int) []byte {
	return binary.BigEndian.AppendUint64(nil, uint64(n))[8-count:]
}

// joined are these bytes, one behind the other.
func joined(l ...[]byte) []byte { return slices.Concat(l...) }

// put are a record's bytes by the chapter's words; of one that may not be they are none's.
func put(r api.Rec) []byte {
	if r.Kind == 2 {
		return joined([]byte{2}, high(r.Src, 1), high(r.Ts, 6))
	}
	e := r.Event
	above := func(p float64) int {
		if p < 0 {
			return int(p) + 1<<32
		}
		return int(p)
	}
	return joined([]byte{1}, high(e.Ts, 6), high(e.Src, 1), high(e.Seq, 3), high(e.Kind, 1), high(above(real(e.At)), 4), high(above(imag(e.At)), 4))
}

// take is what Take has to tell, by the chapter's words.
func take(b []byte) (api.Rec, api.Errno) {
	whole := func(l []byte) int {
		n := 0
		for _, x := range l {
			n = n*256 + int(x)
		}
		return n
	}
	coord := func(l []byte) (float64, bool) {
		n := whole(l)
		if n <= 1<<20 {
			return float64(n), true
		}
		return float64(n - 1<<32), n >= 1<<32-1<<20
	}
	switch {
	case len(b) == 0:
		return api.Rec{}, 50
	case b[0] != 1 && b[0] != 2:
		return api.Rec{}, 11
	case b[0] == 1 && len(b) < 20 || b[0] == 2 && len(b) < 8:
		return api.Rec{}, 50
	case b[0] == 1 && len(b) > 20 || b[0] == 2 && len(b) > 8:
		return api.Rec{}, 11
	case b[0] == 2:
		if whole(b[2:8]) > 1<<40 {
			return api.Rec{}, 11
		}
		return api.Rec{Kind: 2, Src: int(b[1]), Ts: whole(b[2:8])}, 0
	}
	x, xIs := coord(b[12:16])
	y, yIs := coord(b[16:20])
	e := api.Event{Ts: whole(b[1:7]), Src: int(b[7]), Seq: whole(b[8:11]), Kind: int(b[11]), At: complex(x, y)}
	if !xIs || !yIs || e.Ts > 1<<40 || e.Seq > 1<<20 || e.Kind > 5 {
		return api.Rec{}, 11
	}
	return api.Rec{Kind: 1, Event: e}, 0
}

// taken holds Take against the chapter's words at some bytes, and what it told against those bytes.
func taken(t *testing.T, b []byte) {
	t.Helper()
	r, e := Take(b)
	want, wantE := take(b)
	if bits(r) != bits(want) || e != wantE {
		t.Fatalf("Take(%v): %+v, %d; not %+v, %d", b, r, e, want, wantE)
	}
	if e != api.OK {
		return
	}
	if back, f := Put(r); !record.Right(r) || !bytes.Equal(back, b) || f != api.OK {
		t.Fatalf("Take(%v): %+v, which is put as %v, %d", b, r, back, f)
	}
}

// P5.1, P5.2: records of both kinds at given bytes, each number at its least and its greatest.
func TestGiven(t *testing.T) {
	for _, c := range []struct {
		r api.Rec
		b []byte
	}{
		{record.Mark(3, 258), []byte{2, 3, 0, 0, 0, 0, 1, 2}},
		{record.Mark(0, 0), []byte{2, 0, 0, 0, 0, 0, 0, 0}},
		{record.Mark(255, 1<<40), []byte{2, 255, 1, 0, 0, 0, 0, 0}},
		{record.Mark(4, 1<<40-1), []byte{2, 4, 0, 255, 255, 255, 255, 255}},
		{record.Mark(1, 0x0102030405), []byte{2, 1, 0, 1, 2, 3, 4, 5}},
		{record.Of(api.Event{}), []byte{1, 0, 0, 0, 0, 0, 0, 0, 0, 0, 0, 0, 0, 0, 0, 0, 0, 0, 0, 0}},
		{
			record.Of(api.Event{Ts: 5, Src: 1, Seq: 9, Kind: 2, At: 3 - 4i}),
			[]byte{1, 0, 0, 0, 0, 0, 5, 1, 0, 0, 9, 2, 0, 0, 0, 3, 255, 255, 255, 252},
		},
		{
			record.Of(api.Event{Ts: 0x0102030405, Src: 6, Seq: 0x070809, Kind: 4, At: 0x0a0b0c + 0x0d0e0f*1i}),
			[]byte{1, 0, 1, 2, 3, 4, 5, 6, 7, 8, 9, 4, 0, 10, 11, 12, 0, 13, 14, 15},
		},
		{
			record.Of(api.Event{Ts: 1 << 40, Src: 255, Seq: 1 << 20, Kind: 5, At: edge + edge*1i}),
			[]byte{1, 1, 0, 0, 0, 0, 0, 255, 16, 0, 0, 5, 0, 16, 0, 0, 0, 16, 0, 0},
		},
		{
			record.Of(api.Event{At: -edge - edge*1i}),
			[]byte{1, 0, 0, 0, 0, 0, 0, 0, 0, 0, 0, 0, 255, 240, 0, 0, 255, 240, 0, 0},
		},
		{
			record.Of(api.Event{At: -1 + 1i}),
			[]byte{1, 0, 0, 0, 0, 0, 0, 0, 0, 0, 0, 0, 255, 255, 255, 255, 0, 0, 0, 1},
		},
		{
			record.Of(api.Event{At: 256 - 256i}),
			[]byte{1, 0, 0, 0, 0, 0, 0, 0, 0, 0, 0, 0, 0, 0, 1, 0, 255, 255, 255, 0},
		},
	} {
		if b, e := Put(c.r); !bytes.Equal(b, c.b) || e != api.OK {
			t.Errorf("Put(%+v): %v, %d", c.r, b, e)
		}
		if r, e := Take(c.b); bits(r) != bits(c.r) || e != api.OK {
			t.Errorf("Take(%v): %+v, %d", c.b, r, e)
		}
	}
}

// P5.1, P5.3: records that may be are put by the chapter's words, and taken bit by bit.
func TestPut(t *testing.T) {
	for _, r := range rights() {
		b, e := Put(r)
		if !bytes.Equal(b, put(r)) || e != api.OK || len(b) != Size(r.Kind) {
			t.Fatalf("Put(%+v): %v, %d", r, b, e)
		}
		if back, f := Take(b); bits(back) != bits(r) || f != api.OK || !record.Same(back, r) {
			t.Fatalf("Put(%+v): %v, which is taken as %+v, %d", r, b, back, f)
		}
	}
}

// P5.1: all sources, all kinds of events, each with its own bytes.
func TestPutSources(t *testing.T) {
	for src := range 256 {
		r, m := record.Of(api.Event{Ts: 7, Src: src, Seq: 3, Kind: src % 6}), record.Mark(src, 7)
		if b, e := Put(r); e != api.OK || !bytes.Equal(b, put(r)) || b[7] != byte(src) || b[11] != byte(src%6) {
			t.Errorf("Put(%+v): %v, %d", r, b, e)
		}
		if b, e := Put(m); e != api.OK || !bytes.Equal(b, put(m)) || b[1] != byte(src) {
			t.Errorf("Put(%+v): %v, %d", m, b, e)
		}
	}
}

// P5.1: a record that may not be is ErrArg, and nothing.
func TestPutWrong(t *testing.T) {
	for _, r := range wrongs() {
		if record.Right(r) {
			t.Errorf("%+v may be", r)
		}
		if b, e := Put(r); len(b) != 0 || e != api.ErrArg {
			t.Errorf("Put(%+v): %v, %d", r, b, e)
		}
	}
}

// P5.1: 20 bytes, 8, and 0 of all other kinds.
func TestSize(t *testing.T) {
	for kind := range 256 {
		want := map[int]int{1: 20, 2: 8}[kind]
		if n := Size(uint8(kind)); n != want {
			t.Errorf("Size(%d): %d", kind, n)
		}
	}
}

// P5.2: none, and first bytes that are no kind, however many there are.
func TestTakeFirst(t *testing.T) {
	if r, e := Take(nil); bits(r) != bits(api.Rec{}) || e != api.ErrShort {
		t.Errorf("none: %+v, %d", r, e)
	}
	if r, e := Take([]byte{}); bits(r) != bits(api.Rec{}) || e != api.ErrShort {
		t.Errorf("none: %+v, %d", r, e)
	}
	if r, e := Take([]byte{9}); bits(r) != bits(api.Rec{}) || e != api.ErrForm {
		t.Errorf("9: %+v, %d", r, e)
	}
	for first := range 256 {
		if first == 1 || first == 2 {
			continue
		}
		for _, count := range []int{1, 2, 7, 8, 9, 19, 20, 21, 300} {
			for _, fill := range []byte{0, 1, 255} {
				b := bytes.Repeat([]byte{fill}, count)
				b[0] = byte(first)
				if r, e := Take(b); bits(r) != bits(api.Rec{}) || e != api.ErrForm {
					t.Errorf("Take(%v): %+v, %d", b, r, e)
				}
			}
		}
	}
}

// P5.2: too few bytes are ErrShort, too many ErrForm, whatever they are, and whether the record may be or not.
func TestTakeCount(t *testing.T) {
	for first, size := range map[byte]int{1: 20, 2: 8} {
		for count := 1; count < 300; count++ {
			for fill := range 256 {
				b := bytes.Repeat([]byte{byte(fill)}, count)
				b[0] = first
				_, e := Take(b)
				switch {
				case count < size && e != api.ErrShort, count > size && e != api.ErrForm, count == size && fill == 0 && e != api.OK:
					t.Errorf("Take(%v): %d", b, e)
				}
				taken(t, b)
			}
		}
	}
}

// P5.2: each record that may be, with bytes left out at its end or laid behind it.
func TestTakeCutAndLonger(t *testing.T) {
	for _, r := range rights() {
		b := put(r)
		for count := range b {
			if got, e := Take(b[:count]); bits(got) != bits(api.Rec{}) || e != api.ErrShort {
				t.Fatalf("Take(%v): %+v, %d", b[:count], got, e)
			}
		}
		for _, more := range [][]byte{{0}, {1}, {255}, b} {
			if got, e := Take(joined(b, more)); bits(got) != bits(api.Rec{}) || e != api.ErrForm {
				t.Fatalf("Take(%v): %+v, %d", joined(b, more), got, e)
			}
		}
	}
}

// over is a record's bytes with a number in the bytes of a field, whether it may stand there or not.
func over(b []byte, from, end, n int) []byte {
	return joined(b[:from], high(n, end-from), b[end:])
}

// P5.2: each number at its bounds and beyond them, up to all that its bytes can tell.
func TestTakeBeyond(t *testing.T) {
	fields := map[uint8][]field{1: eventFields(), 2: markFields()}
	for _, r := range append(rightEvents(), rightMarks()...) {
		b := put(r)
		for _, f := range fields[r.Kind] {
			top := 1<<(8*(f.end-f.from)) - 1
			for _, n := range []int{0, 1, f.most - 1, f.most, f.most + 1, f.most + 2, 2 * f.most, 2*f.most + 1, top / 2, top/2 + 1, top - 1, top} {
				if n > top {
					continue
				}
				c := over(b, f.from, f.end, n)
				want, wantE := api.Rec{}, api.ErrForm
				if n <= f.most {
					want, wantE = with(r, f, n), api.OK
				}
				if got, e := Take(c); bits(got) != bits(want) || e != wantE {
					t.Errorf("%s %d: Take(%v): %+v, %d", f.name, n, c, got, e)
				}
				taken(t, c)
			}
		}
	}
}

// P5.2: either part at its bounds and beyond them, from above and from below.
func TestTakeParts(t *testing.T) {
	for _, r := range rightEvents() {
		b := put(r)
		for n, want := range map[int]int{
			0: 0, 1: 1, edge - 1: edge - 1, edge: edge, 1<<32 - 1: -1, 1<<32 - 2: -2, 1<<32 - edge + 1: 1 - edge, 1<<32 - edge: -edge,
		} {
			c, d := over(b, 12, 16, n), over(b, 16, 20, n)
			if got, e := Take(c); bits(got) != bits(at(r, float64(want), imag(r.Event.At))) || e != api.OK {
				t.Errorf("Take(%v): %+v, %d", c, got, e)
			}
			if got, e := Take(d); bits(got) != bits(at(r, real(r.Event.At), float64(want))) || e != api.OK {
				t.Errorf("Take(%v): %+v, %d", d, got, e)
			}
		}
		for _, n := range []int{edge + 1, edge + 2, 2 * edge, 1 << 24, 1 << 30, 1<<31 - 1, 1 << 31, 1<<31 + 1, 1<<31 + edge, 3 << 30, 1<<32 - 2*edge, 1<<32 - edge - 2, 1<<32 - edge - 1} {
			for _, c := range [][]byte{over(b, 12, 16, n), over(b, 16, 20, n), over(over(b, 12, 16, n), 16, 20, n)} {
				if got, e := Take(c); bits(got) != bits(api.Rec{}) || e != api.ErrForm {
					t.Errorf("Take(%v): %+v, %d", c, got, e)
				}
			}
		}
	}
}

// P5.2: all bytes 255 behind the kind, and behind the source.
func TestTakeAll255(t *testing.T) {
	for first, size := range map[byte]int{1: 20, 2: 8} {
		b := bytes.Repeat([]byte{255}, size)
		if r, e := Take(b); bits(r) != bits(api.Rec{}) || e != api.ErrForm {
			t.Errorf("Take(%v): %+v, %d", b, r, e)
		}
		b[0] = first
		if r, e := Take(b); bits(r) != bits(api.Rec{}) || e != api.ErrForm {
			t.Errorf("Take(%v): %+v, %d", b, r, e)
		}
		b[1] = 0
		if r, e := Take(b); bits(r) != bits(api.Rec{}) || e != api.ErrForm {
			t.Errorf("Take(%v): %+v, %d", b, r, e)
		}
	}
}

// P5.2: which error is told, where two would be.
func TestTakeFirstError(t *testing.T) {
	far := bytes.Repeat([]byte{255}, 40)
	for _, c := range []struct {
		first byte
		count int
		want  api.Errno
	}{
		{0, 1, api.ErrForm}, {0, 7, api.ErrForm}, {3, 1, api.ErrForm}, {255, 5, api.ErrForm}, {255, 40, api.ErrForm}, // no kind ahead of too few
		{1, 1, api.ErrShort}, {1, 8, api.ErrShort}, {1, 19, api.ErrShort}, {2, 1, api.ErrShort}, {2, 7, api.ErrShort}, // too few ahead of no record
		{1, 20, api.ErrForm}, {1, 21, api.ErrForm}, {2, 8, api.ErrForm}, {2, 9, api.ErrForm}, {2, 20, api.ErrForm},
	} {
		b := joined([]byte{c.first}, far[:c.count-1])
		if r, e := Take(b); bits(r) != bits(api.Rec{}) || e != c.want {
			t.Errorf("Take(%v): %+v, %d", b, r, e)
		}
	}
}

// P5.2, P5.3: records' bytes with any one byte as any other one.
func TestTakeEachByte(t *testing.T) {
	for _, r := range append(rightEvents(), rightMarks()...) {
		for i := range put(r) {
			b := put(r)
			for x := range 256 {
				b[i] = byte(x)
				taken(t, b)
			}
		}
	}
}

// P5.3: -0 is put as 0, and comes back as 0, in either part, and of a mark too.
func TestMinus0(t *testing.T) {
	for _, p := range []float64{0, minus0, 7, -7, edge, -edge} {
		for _, c := range [][2]float64{{minus0, p}, {p, minus0}, {minus0, minus0}} {
			r := at(rightEvents()[1], c[0], c[1])
			want := at(r, c[0]+0, c[1]+0)
			b, e := Put(r)
			if !bytes.Equal(b, put(want)) || e != api.OK {
				t.Errorf("Put(%+v): %v, %d", r, b, e)
			}
			if back, f := Take(b); bits(back) != bits(want) || f != api.OK || !record.Same(back, r) {
				t.Errorf("Put(%+v): %v, which is taken as %+v, %d", r, b, back, f)
			}
		}
	}
	for _, c := range [][2]float64{{minus0, 0}, {0, minus0}, {minus0, minus0}} {
		r := at(record.Mark(3, 258), c[0], c[1])
		b, e := Put(r)
		if !bytes.Equal(b, []byte{2, 3, 0, 0, 0, 0, 1, 2}) || e != api.OK {
			t.Errorf("Put(%+v): %v, %d", r, b, e)
		}
		if back, f := Take(b); bits(back) != bits(record.Mark(3, 258)) || f != api.OK {
			t.Errorf("Put(%+v): %v, which is taken as %+v, %d", r, b, back, f)
		}
	}
}

// P5.3: no two records have the same bytes.
func TestPutApart(t *testing.T) {
	told := map[string][9]uint64{}
	for _, r := range rights() {
		b, _ := Put(r)
		if other, ok := told[string(b)]; ok && other != bits(r) {
			t.Errorf("%v: %v, %v", b, other, bits(r))
		}
		told[string(b)] = bits(r)
	}
}

// R4: an answer is in memory of its own, its spare room too.
func TestPutOwn(t *testing.T) {
	for _, r := range append(rightEvents(), rightMarks()...) {
		a, _ := Put(r)
		b, _ := Put(r)
		room := a[:cap(a)]
		for i := range room {
			room[i] = 77
		}
		if !bytes.Equal(b, put(r)) {
			t.Errorf("Put(%+v): %v shares memory", r, b)
		}
		if c, e := Put(r); !bytes.Equal(c, put(r)) || e != api.OK {
			t.Errorf("Put(%+v): %v, %d", r, c, e)
		}
	}
}

// R4: bytes that are handed in are not changed, spare room behind them included, and not kept.
func TestTakeOwn(t *testing.T) {
	for _, r := range append(rightEvents(), rightMarks()...) {
		room := joined(put(r), []byte{9, 9, 9, 9})
		was := slices.Clone(room)
		b := room[:len(room)-4]
		got, e := Take(b)
		if !bytes.Equal(room, was) || e != api.OK {
			t.Errorf("Take(%v): %v, %d", was, room, e)
		}
		for i := range room {
			room[i] = 255
		}
		if bits(got) != bits(r) {
			t.Errorf("Take(%v): %+v", was, got)
		}
		if again, f := Take(was[:len(was)-4]); bits(again) != bits(r) || f != api.OK {
			t.Errorf("Take(%v): %+v, %d", was, again, f)
		}
	}
}

// R4: nor are bytes changed that are no record's.
func TestTakeWrongOwn(t *testing.T) {
	for count := range 30 {
		for first := range 4 {
			room := bytes.Repeat([]byte{200}, 34)
			room[0] = byte(first)
			was := slices.Clone(room)
			Take(room[:count])
			if !bytes.Equal(room, was) {
				t.Errorf("Take(%v): %v", was[:count], room)
			}
		}
	}
}

// R1: a great many bytes.
func TestTakeLong(t *testing.T) {
	b := make([]byte, 1<<20)
	for first := range 4 {
		b[0] = byte(first)
		taken(t, b)
	}
}

// A layout has each of its places once, may be left early, and gone over again.
func TestLayout(t *testing.T) {
	for kind, want := range map[uint8][]int{
		0: nil, 1: {recKind, ts, src, seq, eventKind, realPart, imagPart}, 2: {recKind, src, ts}, 3: nil, 255: nil,
	} {
		l := layout(kind)
		for range 2 {
			var got []int
			for place := range l {
				got = append(got, place)
			}
			if !slices.Equal(got, want) {
				t.Errorf("%d: %v", kind, got)
			}
		}
		for count := range want {
			told := 0
			for range l {
				if told++; told > count {
					break
				}
			}
			if told != count+1 {
				t.Errorf("%d: %d of %d", kind, told, count+1)
			}
		}
	}
}

// FuzzTake holds any bytes against the chapter's words.
func FuzzTake(f *testing.F) {
	for _, r := range append(rightEvents(), rightMarks()...) {
		f.Add(put(r))
	}
	f.Add([]byte{})
	f.Add([]byte{9})
	f.Fuzz(func(t *testing.T, b []byte) { taken(t, b) })
}

// FuzzPut holds records of any numbers against the chapter's words.
func FuzzPut(f *testing.F) {
	f.Add(uint8(1), 5, 1, 9, 2, 3.0, -4.0, 0, 0)
	f.Add(uint8(2), 0, 0, 0, 0, 0.0, minus0, 3, 9)
	f.Add(uint8(3), least, most, -1, 6, math.NaN(), math.Inf(1), 256, 1<<40+1)
	f.Fuzz(func(t *testing.T, kind uint8, ts, src, seq, eventKind int, x, y float64, ownSrc, ownTs int) {
		r := api.Rec{Kind: kind, Event: api.Event{Ts: ts, Src: src, Seq: seq, Kind: eventKind, At: complex(x, y)}, Src: ownSrc, Ts: ownTs}
		b, e := Put(r)
		if !record.Right(r) {
			if len(b) != 0 || e != api.ErrArg {
				t.Errorf("Put(%+v): %v, %d", r, b, e)
			}
			return
		}
		if !bytes.Equal(b, put(r)) || e != api.OK {
			t.Errorf("Put(%+v): %v, %d", r, b, e)
		}
		if back, g := Take(b); !record.Same(back, r) || g != api.OK {
			t.Errorf("Put(%+v): %v, which is taken as %+v, %d", r, b, back, g)
		}
	})
}
