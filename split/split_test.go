package split

import (
	"bytes"
	"math"
	"slices"
	"testing"

	"straggle/api"
	"straggle/record"
	"straggle/wire"
)

const edge = api.MaxCoord

// minus0 is -0: a constant cannot be.
var minus0 = math.Copysign(0, -1)

// piece is one as a test writes it.
func piece(at int, cut bool, b ...byte) api.Piece {
	return api.Piece{At: at, Bytes: b, Cut: cut}
}

// some are so many bytes, each another than the ones next to it, from first on.
func some(count int, first byte) []byte {
	b := make([]byte, count)
	for i := range b {
		b[i] = first + byte(i)
	}
	return b
}

// joined are these bytes, one behind the other.
func joined(l ...[]byte) []byte { return slices.Concat(l...) }

// samePieces tells whether they are the same, nil bytes and empty ones too.
func samePieces(a, b []api.Piece) bool {
	return slices.EqualFunc(a, b, func(p, q api.Piece) bool {
		return p.At == q.At && p.Cut == q.Cut && bytes.Equal(p.Bytes, q.Bytes)
	})
}

// bits tells a record from any other, -0 from 0 too.
func bits(r api.Rec) [9]uint64 {
	return [9]uint64{
		uint64(r.Kind), uint64(r.Event.Ts), uint64(r.Event.Src), uint64(r.Event.Seq), uint64(r.Event.Kind),
		math.Float64bits(real(r.Event.At)), math.Float64bits(imag(r.Event.At)), uint64(r.Src), uint64(r.Ts),
	}
}

// sameRecs tells whether they are the same, bit by bit.
func sameRecs(a, b []api.Rec) bool {
	return slices.EqualFunc(a, b, func(r, s api.Rec) bool { return bits(r) == bits(s) })
}

// split are a script's pieces by the chapter's words, byte by byte.
func split(script []byte) []api.Piece {
	var l []api.Piece
	lack := 0
	for at, x := range script {
		if lack == 0 {
			l = append(l, api.Piece{At: at})
			lack = int(x)
			continue
		}
		p := &l[len(l)-1]
		p.Bytes = append(p.Bytes, x)
		lack--
	}
	if lack > 0 {
		l[len(l)-1].Cut = true
	}
	return l
}

// told are the records of a script by the chapter's words.
func told(script []byte) []api.Rec {
	var l []api.Rec
	for _, p := range split(script) {
		if r, e := wire.Take(p.Bytes); e == api.OK && !p.Cut {
			l = append(l, r)
		}
	}
	return l
}

// again is a script out of its pieces: their bytes, and ahead of them the L that stood there.
func again(script []byte, l []api.Piece) []byte {
	var b []byte
	for _, p := range l {
		b = append(b, script[p.At])
		b = append(b, p.Bytes...)
	}
	return b
}

// moved are pieces that stand so far behind.
func moved(l []api.Piece, by int) []api.Piece {
	var m []api.Piece
	for _, p := range l {
		p.At += by
		m = append(m, p)
	}
	return m
}

// put are a record's bytes.
func put(t testing.TB, r api.Rec) []byte {
	t.Helper()
	b, e := wire.Put(r)
	if e != api.OK {
		t.Fatalf("%+v may not be put: %d", r, e)
	}
	return b
}

// rights are records that may be.
func rights() []api.Rec {
	return []api.Rec{
		record.Mark(3, 258),
		record.Of(api.Event{Ts: 5, Src: 1, Seq: 9, Kind: 2, At: 3 - 4i}),
		record.Mark(0, 0),
		record.Of(api.Event{}),
		record.Mark(255, 1<<40),
		record.Of(api.Event{Ts: 1 << 40, Src: 255, Seq: 1 << 20, Kind: 5, At: edge + edge*1i}),
		record.Of(api.Event{Ts: 0x0102030405, Src: 6, Seq: 0x070809, Kind: 4, At: -edge - edge*1i}),
		record.Mark(4, 1<<40-1),
	}
}

// wrongs are records that may not be.
func wrongs() []api.Rec {
	return []api.Rec{
		{},
		{Kind: 3},
		{Kind: 255, Ts: 5},
		{Kind: 2, Src: 256},
		{Kind: 2, Src: -1},
		{Kind: 2, Ts: 1<<40 + 1},
		{Kind: 2, Event: api.Event{Ts: 1}},
		{Kind: 1, Src: 1},
		{Kind: 1, Event: api.Event{Kind: 6}},
		{Kind: 1, Event: api.Event{Seq: math.MinInt}},
		{Kind: 1, Event: api.Event{At: 0.5}},
		{Kind: 1, Event: api.Event{At: complex(math.NaN(), 0)}},
	}
}

// none is a piece's bytes that are no record's, and what wire.Take tells of them.
type none struct {
	b []byte
	e api.Errno
}

// nones are bytes that are no record's: of each kind of fault some.
func nones(t testing.TB) []none {
	mark, event := put(t, rights()[0]), put(t, rights()[1])
	return []none{
		{[]byte{9}, api.ErrForm},
		{[]byte{0}, api.ErrForm},
		{some(255, 3), api.ErrForm},
		{[]byte{1}, api.ErrShort},
		{[]byte{2}, api.ErrShort},
		{mark[:7], api.ErrShort},
		{event[:19], api.ErrShort},
		{joined(mark, []byte{0}), api.ErrForm},
		{joined(event, []byte{0}), api.ErrForm},
		{joined(mark, mark), api.ErrForm},
		{joined([]byte{2}, some(254, 0)), api.ErrForm},
		{[]byte{2, 0, 1, 0, 0, 0, 0, 1}, api.ErrForm},
		{append([]byte{1}, bytes.Repeat([]byte{255}, 19)...), api.ErrForm},
	}
}

// script is the script of these pieces' bytes, which all may be.
func script(l ...[]byte) []byte {
	var s []byte
	for _, b := range l {
		s = append(append(s, byte(len(b))), b...)
	}
	return s
}

// P6.1: scripts and their pieces, written out.
func TestAllGiven(t *testing.T) {
	full := some(255, 1)
	for _, c := range []struct {
		script []byte
		want   []api.Piece
	}{
		{nil, nil},
		{[]byte{}, nil},
		{[]byte{2, 7, 8, 0, 3, 9}, []api.Piece{piece(0, false, 7, 8), piece(3, false), piece(4, true, 9)}},
		{[]byte{0}, []api.Piece{piece(0, false)}},
		{[]byte{0, 0, 0}, []api.Piece{piece(0, false), piece(1, false), piece(2, false)}},
		{[]byte{1}, []api.Piece{piece(0, true)}},
		{[]byte{255}, []api.Piece{piece(0, true)}},
		{[]byte{1, 0}, []api.Piece{piece(0, false, 0)}},
		{[]byte{1, 255}, []api.Piece{piece(0, false, 255)}},
		{[]byte{2, 255}, []api.Piece{piece(0, true, 255)}},
		{[]byte{2, 1, 1}, []api.Piece{piece(0, false, 1, 1)}},
		{[]byte{2, 1, 1, 1}, []api.Piece{piece(0, false, 1, 1), piece(3, true)}},
		{[]byte{1, 1, 1, 1, 1, 1}, []api.Piece{piece(0, false, 1), piece(2, false, 1), piece(4, false, 1)}},
		{[]byte{0, 4, 1, 2, 3}, []api.Piece{piece(0, false), piece(1, true, 1, 2, 3)}},
		{[]byte{3, 1, 2, 3, 0, 2}, []api.Piece{piece(0, false, 1, 2, 3), piece(4, false), piece(5, true)}},
		{[]byte{128}, []api.Piece{piece(0, true)}},
		{joined([]byte{255}, full), []api.Piece{piece(0, false, full...)}},
		{joined([]byte{255}, full[:254]), []api.Piece{piece(0, true, full[:254]...)}},
		{joined([]byte{254}, full), []api.Piece{piece(0, false, full[:254]...), piece(255, true)}},
		{joined([]byte{255}, full, []byte{255}, full, []byte{0}), []api.Piece{piece(0, false, full...), piece(256, false, full...), piece(512, false)}},
		{joined([]byte{255}, full, []byte{255}), []api.Piece{piece(0, false, full...), piece(256, true)}},
	} {
		if l := All(c.script); !samePieces(l, c.want) {
			t.Errorf("All(%v): %v, not %v", c.script, l, c.want)
		}
	}
}

// P6.1: a last piece of each length, with all of its bytes, one less, and none, alone and behind another piece.
func TestAllLast(t *testing.T) {
	for long := range 256 {
		for has := range long + 1 {
			last := joined([]byte{byte(long)}, some(has, byte(long)))
			want := piece(0, has < long, last[1:]...)
			if l := All(last); !samePieces(l, []api.Piece{want}) {
				t.Fatalf("All(%v): %v", last, l)
			}
			want.At = 3
			behind := joined([]byte{2, 7, 8}, last)
			if l := All(behind); !samePieces(l, []api.Piece{piece(0, false, 7, 8), want}) {
				t.Fatalf("All(%v): %v", behind, l)
			}
		}
	}
}

// small tells all scripts of few bytes from 0 to 3.
func small(most int) [][]byte {
	l := [][]byte{nil}
	for i := 0; i < len(l); i++ {
		if len(l[i]) == most {
			break
		}
		for x := range byte(4) {
			l = append(l, append(slices.Clone(l[i]), x))
		}
	}
	return l
}

// P6.1, P6.3: all small scripts, by the chapter's words; all of their bytes stand in their pieces, and only the last one is cut.
func TestAllSmall(t *testing.T) {
	for _, s := range small(7) {
		wholly(t, s)
	}
}

// wholly holds All against the chapter's words at a script.
func wholly(t *testing.T, s []byte) {
	t.Helper()
	l := All(s)
	if !samePieces(l, split(s)) {
		t.Fatalf("All(%v): %v, not %v", s, l, split(s))
	}
	if back := again(s, l); !bytes.Equal(back, s) {
		t.Fatalf("All(%v): %v, whose bytes are %v", s, l, back)
	}
	for i, p := range l {
		if lack := int(s[p.At]) - len(p.Bytes); p.Cut != (lack > 0) || p.Cut && i < len(l)-1 || lack < 0 {
			t.Fatalf("All(%v): %v, cut at %d", s, l, i)
		}
	}
	if r := Recs(s); !sameRecs(r, told(s)) {
		t.Fatalf("Recs(%v): %+v", s, r)
	}
}

// P6.1, P6.3: long scripts, of pieces without bytes, of long pieces, and of pieces of all lengths.
func TestAllLong(t *testing.T) {
	var all [][]byte
	for long := range 256 {
		all = append(all, some(long, byte(long)))
	}
	for _, s := range [][]byte{
		make([]byte, 5000),
		bytes.Repeat([]byte{1}, 5001),
		bytes.Repeat([]byte{255}, 100_000),
		bytes.Repeat([]byte{254}, 100_001),
		bytes.Repeat(some(256, 0), 50),
		script(all...),
		joined(script(all...), script(all...)),
	} {
		wholly(t, s)
		wholly(t, s[:len(s)-1])
		wholly(t, s[1:])
	}
}

// P6.1: pieces of lengths that may be, alone and one behind the other.
func TestJoin(t *testing.T) {
	full := some(255, 9)
	for _, c := range []struct {
		l    [][]byte
		want []byte
	}{
		{nil, nil},
		{[][]byte{}, nil},
		{[][]byte{nil}, []byte{0}},
		{[][]byte{{}}, []byte{0}},
		{[][]byte{{}, nil, {}}, []byte{0, 0, 0}},
		{[][]byte{{7}}, []byte{1, 7}},
		{[][]byte{{7, 8}, {}, {9}}, []byte{2, 7, 8, 0, 1, 9}},
		{[][]byte{{0}, {1}, {2, 2}, {0, 0, 0}}, []byte{1, 0, 1, 1, 2, 2, 2, 3, 0, 0, 0}},
		{[][]byte{full}, joined([]byte{255}, full)},
		{[][]byte{full[:254]}, joined([]byte{254}, full[:254])},
		{[][]byte{full, nil, full}, joined([]byte{255}, full, []byte{0, 255}, full)},
	} {
		if s, e := Join(c.l...); !bytes.Equal(s, c.want) || e != api.OK {
			t.Errorf("Join(%v): %v, %d", c.l, s, e)
		}
	}
	if s, e := Join(); len(s) != 0 || e != api.OK {
		t.Errorf("Join(): %v, %d", s, e)
	}
}

// P6.1, P6.3: each length that may be; what is joined is split as it was.
func TestJoinSplit(t *testing.T) {
	var all [][]byte
	for long := range 256 {
		b := some(long, byte(3*long))
		all = append(all, b)
		for _, l := range [][][]byte{{b}, {b, nil}, {nil, b}, {{1, 2}, b, {3}}, {b, b, b}, all} {
			s, e := Join(l...)
			if !bytes.Equal(s, script(l...)) || e != api.OK {
				t.Fatalf("Join(%v): %v, %d", l, s, e)
			}
			pieces, at := All(s), 0
			if len(pieces) != len(l) {
				t.Fatalf("Join(%v): %v, whose pieces are %v", l, s, pieces)
			}
			for i, p := range pieces {
				if p.At != at || p.Cut || !bytes.Equal(p.Bytes, l[i]) {
					t.Fatalf("Join(%v): %v, whose pieces are %v", l, s, pieces)
				}
				at += 1 + len(l[i])
			}
		}
	}
}

// P6.1: more than 255 bytes are ErrArg, and nothing, wherever they stand.
func TestJoinWrong(t *testing.T) {
	for _, long := range []int{256, 257, 258, 300, 511, 512, 513, 768, 4096, 65535, 65536, 65537} {
		b, full := some(long, 0), some(255, 0)
		for _, l := range [][][]byte{{b}, {b, b}, {nil, b}, {b, nil}, {{7}, b, {8}}, {{7}, {8}, b}, {b, {7}, {8}}, {full, b}, {b, full}, {full, full, full, b}} {
			if s, e := Join(l...); len(s) != 0 || e != api.ErrArg {
				t.Errorf("Join with %d: %v, %d", long, s, e)
			}
		}
	}
	l := make([][]byte, 1000)
	for i := range l {
		l[i] = make([]byte, 256)
		if s, e := Join(l...); len(s) != 0 || e != api.ErrArg {
			t.Fatalf("Join with 256 at %d: %v, %d", i, s, e)
		}
		l[i] = make([]byte, 255)
		if s, e := Join(l[:i+1]...); len(s) != 256*(i+1) || e != api.OK {
			t.Fatalf("Join of %d: %d, %d", i+1, len(s), e)
		}
	}
}

// P6.2: a piece that is a record, wherever it stands.
func TestRec(t *testing.T) {
	for _, r := range rights() {
		for _, at := range []int{0, 1, 300, -1, math.MaxInt, math.MinInt} {
			if got, e := Rec(piece(at, false, put(t, r)...)); bits(got) != bits(r) || e != api.OK {
				t.Errorf("Rec of %+v at %d: %+v, %d", r, at, got, e)
			}
		}
	}
	if r, e := Rec(piece(0, false, 2, 3, 0, 0, 0, 0, 1, 2)); bits(r) != bits(record.Mark(3, 258)) || e != api.OK {
		t.Errorf("a mark: %+v, %d", r, e)
	}
}

// P6.2: a piece without bytes is ErrForm, and nothing, cut or not.
func TestRecEmpty(t *testing.T) {
	for _, p := range []api.Piece{{}, {Bytes: []byte{}}, {Cut: true}, {Bytes: []byte{}, Cut: true}, {At: 7}, {At: -7, Cut: true}, {Bytes: []byte{2, 3}[:0]}} {
		if r, e := Rec(p); bits(r) != bits(api.Rec{}) || e != api.ErrForm {
			t.Errorf("Rec(%v): %+v, %d", p, r, e)
		}
	}
}

// P6.2: a piece that is cut is ErrForm, and nothing, whether its bytes would be a record's, too few for one, or none's.
func TestRecCut(t *testing.T) {
	for _, r := range rights() {
		b := put(t, r)
		for has := range len(b) + 1 {
			if got, e := Rec(piece(0, true, b[:has]...)); bits(got) != bits(api.Rec{}) || e != api.ErrForm {
				t.Errorf("Rec of %v, cut: %+v, %d", b[:has], got, e)
			}
		}
	}
	for _, c := range nones(t) {
		if got, e := Rec(piece(0, true, c.b...)); bits(got) != bits(api.Rec{}) || e != api.ErrForm {
			t.Errorf("Rec of %v, cut: %+v, %d", c.b, got, e)
		}
	}
}

// P6.2: of bytes that are no record's, what wire.Take tells, and nothing; also of more than a piece may have.
func TestRecNone(t *testing.T) {
	for _, c := range nones(t) {
		r, e := Rec(piece(5, false, c.b...))
		if _, took := wire.Take(c.b); bits(r) != bits(api.Rec{}) || e != c.e || e != took {
			t.Errorf("Rec of %v: %+v, %d", c.b, r, e)
		}
	}
	for _, r := range rights() {
		b := put(t, r)
		for has := 1; has < len(b); has++ {
			if got, e := Rec(piece(0, false, b[:has]...)); bits(got) != bits(api.Rec{}) || e != api.ErrShort {
				t.Errorf("Rec of %v: %+v, %d", b[:has], got, e)
			}
		}
		if got, e := Rec(piece(0, false, joined(b, make([]byte, 300))...)); bits(got) != bits(api.Rec{}) || e != api.ErrForm {
			t.Errorf("Rec of %v and 300 more: %+v, %d", b, got, e)
		}
	}
	for first := range 256 {
		for _, count := range []int{1, 8, 20, 255, 256, 1000} {
			b := make([]byte, count)
			b[0] = byte(first)
			want, wantE := wire.Take(b)
			if r, e := Rec(piece(0, false, b...)); bits(r) != bits(want) || e != wantE {
				t.Errorf("Rec of %v: %+v, %d", b, r, e)
			}
		}
	}
}

// P6.2: scripts where some pieces are records and some are not, in order.
func TestRecs(t *testing.T) {
	r, bad := rights(), nones(t)
	b := func(i int) []byte { return put(t, r[i]) }
	for _, c := range []struct {
		script []byte
		want   []api.Rec
	}{
		{nil, nil},
		{[]byte{}, nil},
		{[]byte{0}, nil},
		{[]byte{2, 7, 8, 0, 3, 9}, nil},
		{script(b(0)), r[:1]},
		{script(b(0), b(1), b(2)), r[:3]},
		{script(b(2), b(1), b(0)), []api.Rec{r[2], r[1], r[0]}},
		{script(b(1), b(1), b(0), b(1)), []api.Rec{r[1], r[1], r[0], r[1]}},
		{script(nil, b(0), nil, nil, b(1), nil), r[:2]},
		{script(bad[0].b, b(0), bad[3].b, bad[2].b, b(1), bad[12].b), r[:2]},
		{script(b(0), joined(b(1), b(2)), b(3)), []api.Rec{r[0], r[3]}},
		{script(b(0), bad[7].b, b(0)), []api.Rec{r[0], r[0]}},
		{script(bad[0].b, bad[1].b, bad[2].b), nil},
		// The last piece is cut: its bytes are none there, too few, or all that a record has.
		{joined(script(b(0)), []byte{8}), r[:1]},
		{joined(script(b(0)), []byte{8}, b(2)[:7]), r[:1]},
		{joined(script(b(0)), []byte{9}, b(2)), r[:1]},
		{joined(script(b(0)), []byte{255}, b(1)), r[:1]},
		{joined([]byte{21}, b(1)), nil},
		// A record stands in a piece's bytes, with its length, and is none of the script.
		{script(script(b(0))), nil},
		{script(b(1), script(b(0)), b(2)), r[1:3]},
	} {
		if l := Recs(c.script); !sameRecs(l, c.want) {
			t.Errorf("Recs(%v): %+v, not %+v", c.script, l, c.want)
		}
	}
}

// P6.2: each piece that is none among records, at each place.
func TestRecsAmong(t *testing.T) {
	r := rights()
	for _, c := range append(nones(t), none{}) {
		for at := range len(r) + 1 {
			var l [][]byte
			for i := range r {
				if i == at {
					l = append(l, c.b)
				}
				l = append(l, put(t, r[i]))
			}
			if at == len(r) {
				l = append(l, c.b, c.b)
			}
			if got := Recs(script(l...)); !sameRecs(got, r) {
				t.Errorf("Recs with %v at %d: %+v", c.b, at, got)
			}
		}
	}
}

// P6.2, P6.3: records are put, one, many, and none; their script has just these, in order.
func TestPut(t *testing.T) {
	var many []api.Rec
	for i := range 1000 {
		many = append(many, rights()[i%len(rights())], record.Mark(i%256, i))
	}
	lists := [][]api.Rec{nil, {}, many, rights(), {rights()[0], rights()[0]}}
	for i, r := range rights() {
		lists = append(lists, []api.Rec{r}, rights()[:i], rights()[i:])
	}
	for _, l := range lists {
		var want [][]byte
		for _, r := range l {
			want = append(want, put(t, r))
		}
		s, e := Put(l...)
		if !bytes.Equal(s, script(want...)) || e != api.OK {
			t.Fatalf("Put(%+v): %v, %d", l, s, e)
		}
		if got := Recs(s); !sameRecs(got, l) {
			t.Fatalf("Put(%+v): %v, which tells %+v", l, s, got)
		}
		for i, p := range All(s) {
			if r, f := Rec(p); bits(r) != bits(l[i]) || f != api.OK {
				t.Fatalf("Put(%+v): %v, whose piece %d is %+v, %d", l, s, i, r, f)
			}
		}
	}
	if s, e := Put(); len(s) != 0 || e != api.OK {
		t.Errorf("Put(): %v, %d", s, e)
	}
	s, e := Put(record.Mark(3, 258), record.Of(api.Event{At: -1 + 1i}))
	if want := []byte{8, 2, 3, 0, 0, 0, 0, 1, 2, 20, 1, 0, 0, 0, 0, 0, 0, 0, 0, 0, 0, 0, 255, 255, 255, 255, 0, 0, 0, 1}; !bytes.Equal(s, want) || e != api.OK {
		t.Errorf("Put of a mark and an event: %v, %d", s, e)
	}
}

// P6.2: one that may not be put is ErrArg, and nothing, alone and at each place among others.
func TestPutWrong(t *testing.T) {
	for _, w := range wrongs() {
		if s, e := Put(w); len(s) != 0 || e != api.ErrArg {
			t.Errorf("Put(%+v): %v, %d", w, s, e)
		}
		if s, e := Put(w, w); len(s) != 0 || e != api.ErrArg {
			t.Errorf("Put(%+v), twice: %v, %d", w, s, e)
		}
		for at := range len(rights()) + 1 {
			l := slices.Insert(rights(), at, w)
			if s, e := Put(l...); len(s) != 0 || e != api.ErrArg {
				t.Errorf("Put with %+v at %d: %v, %d", w, at, s, e)
			}
		}
	}
	if s, e := Put(wrongs()...); len(s) != 0 || e != api.ErrArg {
		t.Errorf("Put of wrong ones alone: %v, %d", s, e)
	}
}

// P6.2, P6.3: a part -0 is put as 0, and told so.
func TestPutMinus0(t *testing.T) {
	r := record.Of(api.Event{Ts: 7, At: complex(minus0, 5)})
	want := record.Of(api.Event{Ts: 7, At: 5i})
	s, e := Put(r, rights()[0])
	if got := Recs(s); !sameRecs(got, []api.Rec{want, rights()[0]}) || e != api.OK {
		t.Errorf("Put(%+v): %v, %d, which tells %+v", r, s, e, got)
	}
}

// parted holds a script in two parts against both, where the first one has no piece that is cut.
func parted(t *testing.T, a, b []byte) {
	t.Helper()
	first := All(a)
	if len(first) > 0 && first[len(first)-1].Cut {
		return
	}
	s := joined(a, b)
	if l := All(s); !samePieces(l, slices.Concat(first, moved(All(b), len(a)))) {
		t.Fatalf("All(%v): %v; in parts %v, %v", s, l, first, All(b))
	}
	if l := Recs(s); !sameRecs(l, slices.Concat(Recs(a), Recs(b))) {
		t.Fatalf("Recs(%v): %+v; in parts %+v, %+v", s, l, Recs(a), Recs(b))
	}
}

// P6.3: a script in two parts has the pieces of both, and their records.
func TestParts(t *testing.T) {
	for _, a := range small(4) {
		for _, b := range small(4) {
			parted(t, a, b)
		}
	}
	s, e := Put(rights()...)
	if e != api.OK {
		t.Fatal(e)
	}
	for _, bad := range nones(t) {
		whole := joined(s, script(bad.b), s, []byte{7, 7})
		for at := range len(whole) + 1 {
			parted(t, whole[:at], whole[at:])
		}
	}
}

// P6.3: a script's first part up to a piece's beginning has the pieces ahead of it.
func TestPartsAtPieces(t *testing.T) {
	s := joined(script(some(255, 2), nil, []byte{7}, some(20, 1), nil), []byte{9, 9})
	l := All(s)
	for i, p := range l {
		if ahead, behind := All(s[:p.At]), All(s[p.At:]); !samePieces(ahead, l[:i]) || !samePieces(moved(behind, p.At), l[i:]) {
			t.Errorf("All in parts at %d: %v, %v", p.At, ahead, behind)
		}
	}
}

// R4: pieces may be left early, and gone over again.
func TestPiecesLeft(t *testing.T) {
	s := []byte{2, 7, 8, 0, 3, 9}
	all := pieces(s)
	for most := range 4 {
		var l []api.Piece
		for p := range all {
			if len(l) == most {
				break
			}
			l = append(l, p)
		}
		if !samePieces(l, split(s)[:most]) {
			t.Errorf("left behind %d: %v", most, l)
		}
	}
}

// room is b with other bytes behind it, which are none of b.
func room(b []byte) (l, all []byte) {
	all = joined(b, some(300, 100))
	return all[:len(b)], all
}

// R4: a script is not changed, what stands behind it is not asked, and pieces have memory of their own, each.
func TestAllOwn(t *testing.T) {
	for _, s := range append(small(5), script(some(255, 1), []byte{3}, some(20, 5)), joined([]byte{0, 1, 2, 255}, some(200, 0))) {
		in, all := room(s)
		was := slices.Clone(all)
		l, other := All(in), All(in)
		if !bytes.Equal(all, was) || !samePieces(l, split(s)) {
			t.Fatalf("All(%v): %v; changed to %v", s, l, all)
		}
		for i := range all {
			all[i] = 77
		}
		if !samePieces(l, split(s)) {
			t.Fatalf("All(%v) shares memory with it: %v", s, l)
		}
		for i, p := range l {
			spare := p.Bytes[:cap(p.Bytes)]
			for j := range spare {
				spare[j] = 88
			}
			if !samePieces(l[i+1:], split(s)[i+1:]) || !samePieces(other, split(s)) || !bytes.Equal(all, bytes.Repeat([]byte{77}, len(all))) {
				t.Fatalf("All(%v): piece %d shares memory", s, i)
			}
		}
	}
}

// R4: what is joined is not changed and not kept, and the script has memory of its own.
func TestJoinOwn(t *testing.T) {
	for _, lens := range [][]int{{}, {0}, {1}, {255}, {5, 0, 7}, {20, 8, 8, 20}, {255, 255, 255}, {5, 256, 7}} {
		l, all, was := make([][]byte, len(lens), len(lens)+2), make([][]byte, len(lens)), make([][]byte, len(lens))
		for i, n := range lens {
			l[i], all[i] = room(some(n, byte(i)))
			was[i] = slices.Clone(all[i])
		}
		s, e := Join(l...)
		other, _ := Join(l...)
		want := slices.Clone(s)
		for i := range all {
			if !bytes.Equal(all[i], was[i]) || len(l[i]) != lens[i] || len(l[i]) > 0 && &l[i][0] != &all[i][0] {
				t.Fatalf("Join of %v, %d: changed at %d", lens, e, i)
			}
			for j := range all[i] {
				all[i][j] = 77
			}
		}
		for _, b := range l[:cap(l)][len(l):] {
			if b != nil {
				t.Fatalf("Join of %v: changed behind its list", lens)
			}
		}
		spare := other[:cap(other)]
		for i := range spare {
			spare[i] = 88
		}
		if !bytes.Equal(s, want) {
			t.Fatalf("Join of %v shares memory: %v", lens, s)
		}
	}
}

// R4: a piece is not changed and not kept; nor is a script that is asked for its records.
func TestRecOwn(t *testing.T) {
	s, _ := Put(rights()...)
	in, all := room(joined(s, script(nil, []byte{9}), []byte{8}))
	was := slices.Clone(all)
	l, other := Recs(in), Recs(in)
	clear(other[:cap(other)])
	for _, p := range All(in) {
		in, all := room(p.Bytes)
		was := slices.Clone(all)
		r, e := Rec(api.Piece{At: p.At, Bytes: in, Cut: p.Cut})
		clear(in)
		if again, f := Rec(p); bits(again) != bits(r) || f != e || !bytes.Equal(all[len(in):], was[len(in):]) {
			t.Errorf("Rec(%v): %+v, %d, then %+v, %d", p, r, e, again, f)
		}
	}
	if !bytes.Equal(all, was) {
		t.Errorf("Recs(%v): changed to %v", was, all)
	}
	clear(all)
	if !sameRecs(l, rights()) {
		t.Errorf("Recs: %+v", l)
	}
}

// R4: records are not changed, and their script has memory of its own.
func TestPutOwn(t *testing.T) {
	l := append(rights(), wrongs()...)
	was := slices.Clone(l)
	good := l[:len(rights())]
	a, _ := Put(good...)
	b, _ := Put(good...)
	if _, e := Put(l...); e != api.ErrArg || !sameRecs(l, was) {
		t.Errorf("Put: %d, changed to %+v", e, l)
	}
	clear(a[:cap(a)])
	clear(l)
	if got := Recs(b); !sameRecs(got, rights()) {
		t.Errorf("Put shares memory: %+v", got)
	}
}

// P6.1, P6.2, P6.3: any bytes.
func FuzzAll(f *testing.F) {
	s, _ := Put(rights()...)
	for _, b := range [][]byte{nil, {2, 7, 8, 0, 3, 9}, {255}, s, s[1:], joined(s, []byte{9}, s[:9])} {
		f.Add(b, 3)
	}
	f.Fuzz(func(t *testing.T, s []byte, at int) {
		wholly(t, s)
		at = int(uint(at) % uint(len(s)+1))
		parted(t, s[:at], s[at:])
		var l [][]byte
		cut := false
		for _, p := range All(s) {
			l, cut = append(l, p.Bytes), p.Cut
			r, e := Rec(p)
			want, wantE := wire.Take(p.Bytes)
			if cut || len(p.Bytes) == 0 {
				want, wantE = api.Rec{}, api.ErrForm
			}
			if bits(r) != bits(want) || e != wantE {
				t.Fatalf("Rec(%v): %+v, %d", p, r, e)
			}
		}
		if back, e := Join(l...); e != api.OK || !cut && !bytes.Equal(back, s) {
			t.Fatalf("Join(%v): %v, %d", l, back, e)
		}
		recs := Recs(s)
		if b, e := Put(recs...); e != api.OK || !sameRecs(Recs(b), recs) || len(All(b)) != len(recs) {
			t.Fatalf("Put(%+v): %v, %d", recs, b, e)
		}
	})
}

// P6.1, P6.3: any bytes of any three pieces.
func FuzzJoin(f *testing.F) {
	f.Add([]byte{}, []byte{7}, some(255, 0))
	f.Add([]byte{}, some(256, 0), []byte{7})
	f.Fuzz(func(t *testing.T, a, b, c []byte) {
		l := [][]byte{a, b, c}
		s, e := Join(l...)
		if max(len(a), len(b), len(c)) > 255 {
			if len(s) != 0 || e != api.ErrArg {
				t.Fatalf("Join(%v): %v, %d", l, s, e)
			}
			return
		}
		want := []api.Piece{{Bytes: a}, {At: 1 + len(a), Bytes: b}, {At: 2 + len(a) + len(b), Bytes: c}}
		if !samePieces(All(s), want) || e != api.OK {
			t.Fatalf("Join(%v): %v, %d", l, s, e)
		}
	})
}
