package event

import (
	"math"
	"slices"
	"sort"
	"testing"

	"straggle/api"
	"straggle/sample"
)

const (
	most  = math.MaxInt
	least = math.MinInt
	edge  = api.MaxCoord
)

// P3.1: events that may be, each number at its edges and between.
func TestRight(t *testing.T) {
	for _, e := range sample.Events() {
		if !Right(e) {
			t.Errorf("%+v is not right", e)
		}
		for _, f := range sample.Fields() {
			for _, n := range []int{0, 1, f.Most / 2, f.Most - 1, f.Most} {
				if d := sample.With(e, f, n); !Right(d) {
					t.Errorf("%+v is not right", d)
				}
			}
		}
	}
}

// P3.1: one number beyond its edges, all else being right; and all of them.
func TestRightWrongNumber(t *testing.T) {
	for _, e := range sample.Events() {
		for _, f := range sample.Fields() {
			for _, n := range sample.Beyond(f) {
				if d := sample.With(e, f, n); Right(d) {
					t.Errorf("%s %d: %+v is right", f.Name, n, d)
				}
			}
		}
	}
	for _, e := range []api.Event{
		{Ts: -1, Src: -1, Seq: -1, Kind: -1}, {Ts: 1<<40 + 1, Src: 4, Seq: 1<<20 + 1, Kind: 6}, {Ts: least, Src: least, Seq: least, Kind: least, At: edge + 1},
	} {
		if Right(e) {
			t.Errorf("%+v is right", e)
		}
	}
}

// P3.1: points that may not be, for the sake of either part.
func TestRightWrongPoint(t *testing.T) {
	for _, e := range sample.Events() {
		for _, p := range sample.WrongParts() {
			for _, q := range []float64{0, sample.Minus0(), 1, edge, -edge, p} {
				for _, at := range []complex128{complex(p, q), complex(q, p)} {
					e.At = at
					if Right(e) {
						t.Errorf("%+v is right", e)
					}
				}
			}
		}
	}
}

// P3.1: a key is Ts, Src, Seq in this order, of any event; nothing else is in it.
func TestKey(t *testing.T) {
	if k := Key(api.Event{Ts: 1, Src: 2, Seq: 3, Kind: 4, At: 5 + 6i}); k != [3]int{1, 2, 3} {
		t.Error(k)
	}
	for _, e := range sample.Strange() {
		if k := Key(e); k != [3]int{e.Ts, e.Src, e.Seq} {
			t.Errorf("Key(%+v): %v", e, k)
		}
		d := api.Event{Ts: e.Ts, Src: e.Src, Seq: e.Seq, Kind: e.Kind + 1, At: 9}
		if Key(d) != Key(e) {
			t.Errorf("%+v, %+v: %v, %v", d, e, Key(d), Key(e))
		}
	}
}

// P3.1: an event is the same as itself, and as none that differs in one number alone, either way about.
func TestSameNumbers(t *testing.T) {
	for _, e := range sample.Strange() {
		if !Same(e, e) {
			t.Errorf("%+v is not the same as itself", e)
		}
		for _, f := range sample.Fields() {
			n := *f.Of(&e)
			for _, m := range []int{n + 1, n - 1, n ^ 1<<32, n ^ least, ^n} {
				if d := sample.With(e, f, m); Same(d, e) || Same(e, d) {
					t.Errorf("%+v, %+v are the same", d, e)
				}
			}
		}
	}
}

// P3.1: points as plane.Same holds them, those that may not be too: -0 is 0, NaN is NaN.
func TestSamePoints(t *testing.T) {
	// Those of one row are the same, those of two are not.
	rows := [][]float64{
		{0, sample.Minus0()}, {1}, {-1}, {edge}, {edge + 1}, {0.5}, {math.SmallestNonzeroFloat64}, {math.Inf(1)}, {math.Inf(-1)},
		{math.NaN(), math.Float64frombits(0xfff8000000000123)},
	}
	for i, row := range rows {
		for j, other := range rows {
			for _, p := range row {
				for _, q := range other {
					a := api.Event{Ts: 5, Src: 1, Seq: 2, Kind: 3, At: complex(p, 4)}
					b := a
					b.At = complex(q, 4)
					if Same(a, b) != (i == j) {
						t.Errorf("%+v, %+v: %t", a, b, i != j)
					}
					a.At, b.At = complex(4, p), complex(4, q)
					if Same(a, b) != (i == j) {
						t.Errorf("%+v, %+v: %t", a, b, i != j)
					}
				}
			}
		}
	}
}

// P3.2: given events, and the same the other way about.
func TestCmp(t *testing.T) {
	for _, c := range []struct {
		a, b api.Event
		want int
	}{
		{api.Event{Ts: 5, Src: 0, Seq: 9}, api.Event{Ts: 5, Src: 1, Seq: 2}, -1},
		{api.Event{Ts: 4, Src: 3, Seq: 9}, api.Event{Ts: 5, Src: 0, Seq: 0}, -1},
		{api.Event{Ts: 5, Src: 1, Seq: 2}, api.Event{Ts: 5, Src: 1, Seq: 3}, -1},
		{api.Event{Ts: 5, Src: 1, Seq: 2}, api.Event{Ts: 5, Src: 1, Seq: 2}, 0},
		{api.Event{Ts: 5, Src: 1, Seq: 2, Kind: 5, At: 9}, api.Event{Ts: 5, Src: 1, Seq: 2, Kind: 0, At: 1i}, 0},
		{api.Event{Ts: 5, Kind: 5, At: 9}, api.Event{Ts: 6, Kind: 0, At: 1}, -1},
		{api.Event{Ts: 5, At: complex(math.NaN(), 0)}, api.Event{Ts: 5, At: complex(math.NaN(), 0)}, 0},
		{api.Event{Ts: least}, api.Event{Ts: most}, -1},
		{api.Event{Ts: least}, api.Event{Ts: 1}, -1},
		{api.Event{Ts: -2}, api.Event{Ts: most}, -1},
		{api.Event{Src: least, Seq: most}, api.Event{Src: most, Seq: least}, -1},
		{api.Event{Seq: least}, api.Event{Seq: most}, -1},
		{api.Event{Ts: -1}, api.Event{}, -1},
		{api.Event{Ts: 1 << 40}, api.Event{Ts: 1<<40 + 1<<32}, -1},
		{api.Event{}, api.Event{}, 0},
	} {
		if n := Cmp(c.a, c.b); n != c.want || Less(c.a, c.b) != (c.want < 0) {
			t.Errorf("%+v, %+v: %d, %t", c.a, c.b, n, Less(c.a, c.b))
		}
		if n := Cmp(c.b, c.a); n != -c.want || Less(c.b, c.a) {
			t.Errorf("%+v, %+v: %d, %t", c.b, c.a, n, Less(c.b, c.a))
		}
	}
}

// keyed are events of all keys of some numbers.
func keyed(numbers ...int) []api.Event {
	var l []api.Event
	for _, ts := range numbers {
		for _, src := range numbers {
			for _, seq := range numbers {
				l = append(l, api.Event{Ts: ts, Src: src, Seq: seq, Kind: len(l) % 7, At: complex(float64(len(l)%5), sample.Minus0())})
			}
		}
	}
	return l
}

// P3.2: all pairs of keys, against the chapter's words.
func TestCmpPairs(t *testing.T) {
	l := keyed(least, -1, 0, 1, 2, 1<<40, most)
	for _, a := range l {
		for _, b := range l {
			want := 0
			if sample.Ahead(a, b) {
				want = -1
			} else if sample.Ahead(b, a) {
				want = 1
			}
			if n := Cmp(a, b); n != want || Less(a, b) != (want == -1) {
				t.Fatalf("%+v, %+v: %d, %t", a, b, n, Less(a, b))
			}
		}
	}
}

// P3.4: of two events one stands ahead, or they have one key; and what stands ahead of one ahead stands ahead.
func TestOrder(t *testing.T) {
	l := append(keyed(least, 0, most), sample.Strange()...)
	for _, a := range l {
		for _, b := range l {
			told := 0
			for _, is := range []bool{Less(a, b), Less(b, a), Key(a) == Key(b)} {
				if is {
					told++
				}
			}
			if told != 1 || Cmp(a, b) != -Cmp(b, a) || (Cmp(a, b) == 0) != (Key(a) == Key(b)) {
				t.Fatalf("%+v, %+v: %d, %d", a, b, Cmp(a, b), Cmp(b, a))
			}
			for _, c := range l {
				if Less(a, b) && Less(b, c) && !Less(a, c) {
					t.Fatalf("%+v, %+v, %+v", a, b, c)
				}
			}
		}
	}
}

// sortedByWords is what Sorted has to tell, by the library's stable sorting.
func sortedByWords(l []api.Event) []api.Event {
	m := append([]api.Event{}, l...)
	sort.SliceStable(m, func(i, j int) bool { return sample.Ahead(m[i], m[j]) })
	return m
}

// P3.3: none, one, two.
func TestSortedFew(t *testing.T) {
	if l := Sorted(); len(l) != 0 {
		t.Error(l)
	}
	if l := Sorted([]api.Event{}...); len(l) != 0 {
		t.Error(l)
	}
	for _, e := range sample.Strange() {
		if l := Sorted(e); !sample.SameBits(l, []api.Event{e}) {
			t.Errorf("Sorted(%+v): %+v", e, l)
		}
	}
	a, b := api.Event{Ts: 5, Src: 0, Seq: 9, Kind: 1}, api.Event{Ts: 5, Src: 1, Seq: 2}
	for _, l := range [][]api.Event{{a, b}, {b, a}} {
		if m := Sorted(l...); !sample.SameBits(m, []api.Event{a, b}) {
			t.Errorf("Sorted(%+v): %+v", l, m)
		}
	}
}

// P3.3: one key twice stays as it stood, whatever the kinds and points.
func TestSortedOneKey(t *testing.T) {
	a := api.Event{Ts: 5, Src: 1, Seq: 2, Kind: 3, At: 1 + 2i}
	for _, b := range []api.Event{
		{Ts: 5, Src: 1, Seq: 2, Kind: 0, At: 1 + 2i}, {Ts: 5, Src: 1, Seq: 2, Kind: 3, At: -9}, {Ts: 5, Src: 1, Seq: 2, Kind: -1, At: 0.5},
		{Ts: 5, Src: 1, Seq: 2, Kind: 3, At: complex(math.NaN(), sample.Minus0())},
	} {
		for _, l := range [][]api.Event{{a, b}, {b, a}, {a, b, a}, {b, a, b}, {b, a, a, b}, {a, a, b, b, a}} {
			if m := Sorted(l...); !sample.SameBits(m, l) {
				t.Errorf("Sorted(%+v): %+v", l, m)
			}
		}
		early, late := api.Event{Ts: 4, Src: 9, Seq: 9}, api.Event{Ts: 5, Src: 1, Seq: 3}
		for _, l := range [][]api.Event{{late, a, early, b}, {b, late, a, early}, {a, b, late, early}, {late, early, b, a}} {
			if m := Sorted(l...); !sample.SameBits(m, sortedByWords(l)) {
				t.Errorf("Sorted(%+v): %+v", l, m)
			}
		}
	}
}

// P3.3, P3.4: all lists of up to 6 events of 4 keys; each event's kind tells where it stood.
func TestSortedAll(t *testing.T) {
	keys := []api.Event{{Ts: 1}, {Ts: 1, Seq: 1}, {Ts: 1, Src: 1}, {Ts: 2}}
	lists := [][]api.Event{nil}
	for count := range 7 {
		for _, l := range lists {
			if m := Sorted(l...); !sample.SameBits(m, sortedByWords(l)) {
				t.Fatalf("Sorted(%+v): %+v", l, m)
			}
		}
		var longer [][]api.Event
		for _, l := range lists {
			for _, e := range keys {
				e.Kind = count
				longer = append(longer, append(slices.Clone(l), e))
			}
		}
		lists = longer
	}
}

// P3.3: events that come sorted, the other way about, and mixed, of each length up to 70; keys of least and greatest numbers among them.
func TestSortedLengths(t *testing.T) {
	rising := sortedByWords(keyed(least, -1, 3, most, 0))
	for n := range 71 {
		l := rising[:n]
		if m := Sorted(l...); !sample.SameBits(m, l) {
			t.Fatalf("%d sorted ones: %+v", n, m)
		}
		back := slices.Clone(l)
		slices.Reverse(back)
		if m := Sorted(back...); !sample.SameBits(m, l) {
			t.Fatalf("%d, the other way about: %+v", n, m)
		}
		mixed := make([]api.Event, n)
		for i := range mixed {
			mixed[i] = rising[i*37%71%(n/2+1)]
			mixed[i].Kind = i
		}
		if m := Sorted(mixed...); !sample.SameBits(m, sortedByWords(mixed)) {
			t.Fatalf("%d mixed ones: %+v", n, m)
		}
	}
}

// R1, P3.3: a long list, the other way about, with each key thrice.
func TestSortedLong(t *testing.T) {
	const n = 300000
	l := make([]api.Event, n)
	for i := range l {
		l[i] = api.Event{Ts: (n - 1 - i) / 3, Kind: i}
	}
	if m := Sorted(l...); !sample.SameBits(m, sortedByWords(l)) {
		t.Error("a long list is not sorted")
	}
}

// P3.4: what is sorted has the same events, each as often, such as may not be too.
func TestSortedHasAll(t *testing.T) {
	l := append(sample.Strange(), sample.Strange()...)
	l = append(l, keyed(2, 1)...)
	count := map[[6]uint64]int{}
	for _, e := range l {
		count[sample.Bits(e)]++
	}
	m := Sorted(l...)
	for i, e := range m {
		count[sample.Bits(e)]--
		if i > 0 && Less(e, m[i-1]) {
			t.Errorf("%+v stands behind %+v", e, m[i-1])
		}
	}
	for k, n := range count {
		if n != 0 {
			t.Errorf("%v: %d too few", k, n)
		}
	}
	if len(m) != len(l) {
		t.Error(len(m), len(l))
	}
}

// P3.3, R4: the answer is in memory of its own, and what is handed in stays as it is, spare room included.
func TestSortedOwn(t *testing.T) {
	other := api.Event{Ts: -7, Src: -7, Seq: -7, Kind: -7, At: -7}
	for n := range 10 {
		for _, rising := range []bool{true, false} {
			room := make([]api.Event, n+4)
			for i := range room {
				room[i] = api.Event{Ts: n - i, Kind: i}
				if rising {
					room[i].Ts = i
				}
			}
			was := slices.Clone(room)
			want := sortedByWords(room[:n])
			a, b := Sorted(room[:n]...), Sorted(room[:n]...)
			for i := range a[:cap(a)] {
				a[:cap(a)][i] = other
			}
			if !sample.SameBits(room, was) {
				t.Errorf("%d: what was handed in was changed: %+v", n, room)
			}
			if !sample.SameBits(b, want) {
				t.Errorf("%d: two answers share memory: %+v", n, b)
			}
			for i := range room {
				room[i] = other
			}
			if !sample.SameBits(b, want) {
				t.Errorf("%d: the answer shares memory with what was handed in: %+v", n, b)
			}
		}
	}
}

// FuzzSorted holds Sorted against the library's stable sorting, at keys of any bytes.
func FuzzSorted(f *testing.F) {
	f.Add([]byte{})
	f.Add([]byte{5, 0, 9, 5, 1, 2, 5, 0, 9})
	f.Add([]byte{255, 0, 128, 0, 255, 127, 1, 1, 1, 1, 1, 0})
	f.Fuzz(func(t *testing.T, b []byte) {
		var l []api.Event
		for ; len(b) > 2; b = b[3:] {
			l = append(l, api.Event{Ts: int(int8(b[0])), Src: int(b[1]) << 55, Seq: int(b[2] % 3), Kind: len(l)})
		}
		if m := Sorted(l...); !sample.SameBits(m, sortedByWords(l)) {
			t.Errorf("Sorted(%+v): %+v", l, m)
		}
	})
}
