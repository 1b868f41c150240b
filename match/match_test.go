package match

import (
	"fmt"
	"math"
	"slices"
	"testing"

	"straggle/api"
	"straggle/check"
	"straggle/parse"
	"straggle/sample"
	"straggle/tree"
	"straggle/unroll"
)

const (
	most  = math.MaxInt
	least = math.MinInt
)

// read is a pattern out of its text.
func read(t testing.TB, text string) api.Pattern {
	t.Helper()
	p, at, e := parse.Parse(text)
	if e != 0 {
		t.Fatalf("%q: %d at %d", text, e, at)
	}
	return p
}

// key is an event of that key; its kind and its point tell where it came from in what a test prints.
func key(ts, src, seq int) api.Event {
	return api.Event{Ts: ts, Src: src, Seq: seq, Kind: 1, At: 2 - 3i}
}

// times are events of these times, one behind the other as they are given.
func times(all ...int) []api.Event {
	var l []api.Event
	for _, ts := range all {
		l = append(l, key(ts, 1, 4))
	}
	return l
}

// rising are n events: each stands ahead of the next one for another reason.
func rising(n int) []api.Event {
	return []api.Event{key(5, 1, 4), key(5, 1, 6), key(5, 3, 2), key(9, 0, 0), key(9, 0, 1)}[:n]
}

// of is a match of that row and these events.
func of(row []int, events ...api.Event) api.Match { return api.Match{Row: row, Events: events} }

// others are events of e's key, each with another kind or another point.
func others(e api.Event) []api.Event {
	kind, point, both, wrong := e, e, e, e
	kind.Kind++
	point.At = 6 - 7i
	both.Kind, both.At = e.Kind-1, 9i
	wrong.Kind, wrong.At = -1, complex(math.NaN(), 0.5)
	return []api.Event{kind, point, both, wrong}
}

// strangers are matches that differ from m in the kind or the point of one event alone.
func strangers(m api.Match) []api.Match {
	var l []api.Match
	for at, e := range m.Events {
		for _, x := range others(e) {
			l = append(l, api.Match{Row: m.Row, Events: changed(m.Events, at, x)})
		}
	}
	return l
}

// changed is a list with something else at a place, in memory of its own.
func changed[T any](l []T, at int, x T) []T { return with(less(l, at), at, x) }

// with is a list with these put in at a place, in memory of its own.
func with[T any](l []T, at int, x ...T) []T { return slices.Concat(l[:at], x, l[at:]) }

// less is a list without what stands at a place, in memory of its own.
func less[T any](l []T, at int) []T { return slices.Concat(l[:at], l[at+1:]) }

// shown is what a test prints of something: the beginning of it, if it is long.
func shown(x any) string {
	text := fmt.Sprintf("%+v", x)
	return text[:min(len(text), 900)]
}

// sameBits tells whether both matches have the same row and the same events, bit by bit.
func sameBits(a, b api.Match) bool {
	return slices.Equal(a.Row, b.Row) && sample.SameBits(a.Events, b.Events)
}

// allSame tells whether both lists have the same matches, bit by bit.
func allSame(l, m []api.Match) bool { return slices.EqualFunc(l, m, sameBits) }

// foreign stands in the room about events that are handed in, and is written into what was told.
func foreign() api.Event { return api.Event{Ts: -77, Src: -77, Seq: -77, Kind: -77, At: -77} }

// handIn is a match in memory of its own, and the room that it lies in: what is written into it or about it is seen there.
func handIn(m api.Match) (in, room api.Match) {
	room.Row = slices.Concat([]int{-7}, m.Row, []int{-8, -9, -10})
	room.Events = slices.Concat([]api.Event{foreign()}, m.Events, []api.Event{foreign(), foreign(), foreign()})
	in.Row = room.Row[1 : len(m.Row)+1]
	in.Events = room.Events[1 : len(m.Events)+1]
	return in, room
}

// stayed tells whether the room about a match is as handIn made it.
func stayed(m, room api.Match) bool {
	_, fresh := handIn(m)
	return sameBits(room, fresh)
}

// spoil writes into a match's lists, and into the room behind them.
func spoil(m api.Match) {
	for at := range m.Row[:cap(m.Row)] {
		m.Row[:cap(m.Row)][at] = -77
	}
	for at := range m.Events[:cap(m.Events)] {
		m.Events[:cap(m.Events)][at] = foreign()
	}
}

// rightByWords tells whether a match may be, by the chapter's words: any two of its events are asked.
func rightByWords(p api.Pattern, m api.Match) bool {
	may := false
	for _, row := range unroll.Rows(p) {
		may = may || slices.Equal(row, m.Row) && len(m.Events) == len(row)
	}
	if !may {
		return false
	}
	for at, e := range m.Events {
		for _, x := range m.Events[:at] {
			may = may && sample.Ahead(x, e)
		}
	}
	return may
}

// trailingByWords tells whether a pattern's last step is negative: each step says so of all up to it.
func trailingByWords(p api.Pattern) bool {
	is := false
	for _, s := range p.Steps {
		is = s.Not
	}
	return is
}

// closingByWords is a match's closing by the chapter's words, its sum made without signs.
func closingByWords(p api.Pattern, m api.Match) int {
	closing := 0
	for at, e := range m.Events {
		if trailingByWords(p) && at == 0 {
			closing = int(uint64(e.Ts) + uint64(p.Window))
		}
		if !trailingByWords(p) {
			closing = e.Ts
		}
	}
	return closing
}

// numbers are a match's closing, events and row as one row of numbers: ahead of each event and each number of the row stands 1, behind the last one 0, so that of two matches the one that is ahead has the lesser row.
func numbers(p api.Pattern, m api.Match) []int {
	l := []int{closingByWords(p, m)}
	for _, e := range m.Events {
		l = append(l, 1, e.Ts, e.Src, e.Seq)
	}
	l = append(l, 0)
	for _, n := range m.Row {
		l = append(l, 1, n)
	}
	return append(l, 0)
}

// cmpByWords tells which of two matches is ahead, by the chapter's words.
func cmpByWords(p api.Pattern, a, b api.Match) int {
	return slices.Compare(numbers(p, a), numbers(p, b))
}

// isByWords tells whether two are one match, by the chapter's words.
func isByWords(a, b api.Match) bool {
	one := len(a.Events) == len(b.Events) && slices.Equal(a.Row, b.Row)
	for at := 0; one && at < len(a.Events); at++ {
		x, y := a.Events[at], b.Events[at]
		one = x.Ts == y.Ts && x.Src == y.Src && x.Seq == y.Seq
	}
	return one
}

// sortedByWords are matches in order: the place of each is how many are ahead, those of which none is ahead and that stood first among them.
func sortedByWords(p api.Pattern, l []api.Match) []api.Match {
	sorted := make([]api.Match, len(l))
	for i, m := range l {
		place := 0
		for k, x := range l {
			if c := cmpByWords(p, x, m); c < 0 || c == 0 && k < i {
				place++
			}
		}
		sorted[place] = m
	}
	return sorted
}

// findByWords is the first place of a match in a list, gone by from the end.
func findByWords(l []api.Match, m api.Match) int {
	place := -1
	for at := len(l) - 1; at >= 0; at-- {
		if isByWords(m, l[at]) {
			place = at
		}
	}
	return place
}

// holdsRight, and those behind it, hold what one call tells, and tells once more, against what it has to tell.
func holdsRight(t *testing.T, p api.Pattern, m api.Match, want bool) {
	t.Helper()
	if Right(p, m) != want || Right(p, m) != want {
		t.Fatalf("Right(%s, %s): %t", shown(p), shown(m), !want)
	}
}

func holdsClosing(t *testing.T, p api.Pattern, m api.Match, want int) {
	t.Helper()
	if got := Closing(p, m); got != want || Closing(p, m) != want {
		t.Fatalf("Closing(%s, %s): %d, not %d", shown(p), shown(m), got, want)
	}
}

// holdsCmp holds which of two is ahead, and which is the other way about.
func holdsCmp(t *testing.T, p api.Pattern, a, b api.Match, want int) {
	t.Helper()
	if got, back := Cmp(p, a, b), Cmp(p, b, a); got != want || back != -want {
		t.Fatalf("Cmp(%s, %s, %s): %d, and %d the other way about, not %d", shown(p), shown(a), shown(b), got, back, want)
	}
}

func holdsIs(t *testing.T, a, b api.Match, want bool) {
	t.Helper()
	if Is(a, b) != want || Is(b, a) != want {
		t.Fatalf("Is(%s, %s): %t, and %t the other way about", shown(a), shown(b), Is(a, b), Is(b, a))
	}
}

func holdsSame(t *testing.T, a, b api.Match, want bool) {
	t.Helper()
	if Same(a, b) != want || Same(b, a) != want {
		t.Fatalf("Same(%s, %s): %t, and %t the other way about", shown(a), shown(b), Same(a, b), Same(b, a))
	}
}

// holdsFind holds Find against what it has to tell, and what is handed in against R4.
func holdsFind(t *testing.T, l []api.Match, m api.Match, want int) {
	t.Helper()
	list := inRoom(l)
	in, room := handIn(m)
	if got := Find(list.in, in); got != want || Find(list.in, in) != want {
		t.Fatalf("Find %s: %d, not %d", shown(m), got, want)
	}
	if !list.stayed(l) || !stayed(m, room) {
		t.Fatalf("Find %s: what was handed in has changed", shown(m))
	}
}

// holdsOwn holds Own against R3 and R4: what is written into one answer, or into what was handed in, is seen nowhere else.
func holdsOwn(t *testing.T, m api.Match) {
	t.Helper()
	in, room := handIn(m)
	one, two := Own(in), Own(in)
	if !sameBits(one, m) || !Same(one, m) {
		t.Fatalf("Own(%s): %s", shown(m), shown(one))
	}
	spoil(one)
	if !stayed(m, room) || !sameBits(two, m) || !sameBits(Own(in), m) {
		t.Fatalf("Own(%s): %s and %s, when another one was written into", shown(m), shown(in), shown(two))
	}
	spoil(room)
	if !sameBits(two, m) {
		t.Fatalf("Own(%s): %s, when what was handed in was written into", shown(m), shown(two))
	}
}

// listed is a list of matches that is handed in: it lies within a longer one, and each match within its room.
type listed struct {
	in, about, rooms []api.Match
}

// inRoom is a list handed in.
func inRoom(l []api.Match) listed {
	list := listed{about: make([]api.Match, len(l)+4)}
	for at := range list.about {
		list.about[at] = of([]int{-7}, foreign())
	}
	list.in = list.about[1 : len(l)+1]
	for at, m := range l {
		in, room := handIn(m)
		list.in[at] = in
		list.rooms = append(list.rooms, room)
	}
	return list
}

// stayed tells whether a list and what lies about it are as they were handed in.
func (list listed) stayed(l []api.Match) bool {
	around := append(slices.Clone(list.about[:1]), list.about[len(l)+1:]...)
	for _, m := range around {
		if !sameBits(m, of([]int{-7}, foreign())) {
			return false
		}
	}
	for at, room := range list.rooms {
		// Each match has the lists still that it was handed in with: not others that are alike.
		in := list.in[at]
		if !stayed(l[at], room) || &in.Row[:1][0] != &room.Row[1] || &in.Events[:1][0] != &room.Events[1] {
			return false
		}
	}
	return allSame(list.in, l)
}

// holdsSort holds Sort against what it has to tell, and against R3 and R4.
func holdsSort(t *testing.T, p api.Pattern, l, want []api.Match) {
	t.Helper()
	list, was := inRoom(l), tree.Own(p)
	one, two := Sort(p, list.in...), Sort(p, list.in...)
	if !allSame(one, want) {
		t.Fatalf("Sort(%s, %s): %s, not %s", shown(p), shown(l), shown(one), shown(want))
	}
	if !list.stayed(l) || !tree.Same(p, was) {
		t.Fatalf("Sort(%s, %s): what was handed in has changed", shown(p), shown(l))
	}
	for at := range one {
		spoil(one[at])
		// Of a long list not each time: what is shared is shared with the next one, or all along.
		if (at < 3 || at%50 == 0) && !allSame(one[at+1:], want[at+1:]) {
			t.Fatalf("Sort(%s, %s): matches share memory", shown(p), shown(l))
		}
	}
	clear(one[:cap(one)])
	if !list.stayed(l) || !allSame(two, want) || !allSame(Sort(p, list.in...), want) {
		t.Fatalf("Sort(%s, %s): %s, when another one was written into", shown(p), shown(l), shown(two))
	}
	for at := range list.rooms {
		spoil(list.rooms[at])
	}
	clear(list.about)
	if !allSame(two, want) {
		t.Fatalf("Sort(%s, %s): %s, when what was handed in was written into", shown(p), shown(l), shown(two))
	}
}

// promised holds all that is told of a pattern and two matches against the chapter's words, R3 and R4.
func promised(t *testing.T, p api.Pattern, a, b api.Match) {
	t.Helper()
	was := tree.Own(p)
	x, xRoom := handIn(a)
	y, yRoom := handIn(b)
	holdsRight(t, p, x, rightByWords(p, a))
	holdsClosing(t, p, x, closingByWords(p, a))
	holdsCmp(t, p, x, y, cmpByWords(p, a, b))
	holdsIs(t, x, y, isByWords(a, b))
	if Trailing(p) != trailingByWords(p) {
		t.Fatalf("Trailing(%s): %t", shown(p), Trailing(p))
	}
	if !Same(x, a) || Same(x, y) && !Is(x, y) {
		t.Fatalf("Same: %s, %s", shown(x), shown(y))
	}
	// P16.4: where none is ahead it is one match.
	if Cmp(p, x, y) == 0 && Right(p, x) && Right(p, y) && !Is(x, y) {
		t.Fatalf("%s: none is ahead of %s, %s", shown(p), shown(x), shown(y))
	}
	if !stayed(a, xRoom) || !stayed(b, yRoom) || !tree.Same(p, was) {
		t.Fatalf("%s, %s, %s have changed", shown(p), shown(a), shown(b))
	}
}

// The chapter's example: events at 3 and 8, no negative step behind.
func TestExample(t *testing.T) {
	m := of([]int{0, 1}, times(3, 8)...)
	for _, text := range []string{"0a;1b within 5", "0a,1b within 5", "0a;1b within 50", "0a;!1b;2c within 5"} {
		holdsClosing(t, read(t, text), m, 8)
	}
	holdsRight(t, read(t, "0a;1b within 5"), m, true)
	// With one behind it is the first one's time, and the window.
	holdsClosing(t, read(t, "0a;1b;!2c within 50"), m, 53)
}

// P16.1: a match of each row of each pattern as to how often steps come may be, whatever its events are, as they rise.
func TestRight(t *testing.T) {
	for _, p := range sample.Shapes() {
		rows := unroll.Rows(p)
		for _, row := range rows {
			n := len(row)
			for _, events := range [][]api.Event{rising(n), rising(5)[5-n:], times(0, 1, 2, 3)[:n], times(3, 1<<20, 1<<40-1, 1<<40)[:n]} {
				holdsRight(t, p, of(row, events...), true)
			}
			for _, m := range beside(row, n) {
				holdsRight(t, p, m, rightByWords(p, m))
			}
		}
	}
}

// beside are matches whose row, or how many events they have, is off by a little from a row with its n events.
func beside(row []int, n int) []api.Match {
	var l []api.Match
	for events := max(n-2, 0); events <= min(n+2, 5); events++ {
		l = append(l, of(row, rising(events)...))
	}
	for at := range row {
		for _, step := range []int{-1, 0, 1, 2, 3, 4, 5, 6, 26, 1 << 32, most, least} {
			l = append(l, of(changed(row, at, step), rising(n)...), of(with(row, at, step), rising(n)...), of(with(row, at, step), rising(n+1)...))
		}
		l = append(l, of(less(row, at), rising(n)...), of(less(row, at), rising(n-1)...))
	}
	return append(l, of(nil, rising(n)...), of([]int{}), of(nil))
}

// P16.1: rows of a text's pattern that are its, and such as are none of its, with as many events as places.
func TestRightRows(t *testing.T) {
	for _, c := range []struct {
		text       string
		are, arent [][]int
	}{
		{"0a within 5", [][]int{{0}}, [][]int{nil, {}, {1}, {-1}, {0, 0}, {0, 1}, {1 << 32}}},
		{"0a;1b{1,2} within 5", [][]int{{0, 1}, {0, 1, 1}}, [][]int{{0}, {1}, {0, 1, 1, 1}, {0, 0, 1}, {1, 0}, {0, 2}, {0, 1, 2}, {1, 1}}},
		{"0a{1,2};1b{1,2} within 5", [][]int{{0, 1}, {0, 1, 1}, {0, 0, 1}, {0, 0, 1, 1}}, [][]int{{0, 0}, {0, 1, 0}, {0, 0, 0, 1}, {0, 1, 1, 1}}},
		{"0a;!1b;2c within 5", [][]int{{0, 2}}, [][]int{{0, 1}, {0, 1, 2}, {0}, {2}, {2, 0}, {0, 2, 2}, {1, 2}}},
		{"0a;!1b within 5", [][]int{{0}}, [][]int{{1}, {0, 1}, {1, 0}, nil}},
		{"0a{2,3};!1b;!2c within 5", [][]int{{0, 0}, {0, 0, 0}}, [][]int{{0}, {0, 0, 1}, {0, 0, 2}, {0, 0, 0, 0}, {0, 1}}},
	} {
		p := read(t, c.text)
		for _, row := range c.are {
			holdsRight(t, p, of(row, rising(len(row))...), true)
		}
		for _, row := range c.arent {
			holdsRight(t, p, of(row, rising(len(row))...), false)
		}
	}
}

// P16.1: one event more and one fewer than places, at each place; none at all.
func TestRightHowMany(t *testing.T) {
	p := read(t, "0a{1,2};1b{1,2} within 5")
	for _, row := range [][]int{{0, 1}, {0, 1, 1}, {0, 0, 1}, {0, 0, 1, 1}} {
		n := len(row)
		holdsRight(t, p, of(row, rising(n)...), true)
		holdsRight(t, p, of(row, rising(n+1)...), false)
		holdsRight(t, p, of(row), false)
		for at := range n {
			holdsRight(t, p, of(row, less(rising(n), at)...), false)
			holdsRight(t, p, of(row, less(rising(n+1), at)...), true)
			holdsRight(t, p, of(row[:at], rising(n)...), false)
		}
	}
}

// P16.1: events that do not rise, at one place only, from the first to the last: two turned about, two of one key, one that falls by each of its numbers.
func TestRightNotRising(t *testing.T) {
	p := read(t, "0a{1,2};1b{1,2} within 5")
	for _, row := range [][]int{{0, 1}, {0, 1, 1}, {0, 0, 1, 1}} {
		n := len(row)
		events := rising(n)
		for at, e := range events {
			for _, x := range append(others(e), e) {
				holdsRight(t, p, of(row, changed(events, at, x)...), true)
				if at > 0 {
					holdsRight(t, p, of(row, changed(events, at-1, x)...), false)
				}
				if at < n-1 {
					holdsRight(t, p, of(row, changed(events, at+1, x)...), false)
				}
			}
			if at > 0 {
				turned := changed(changed(events, at, events[at-1]), at-1, e)
				holdsRight(t, p, of(row, turned...), false)
				holdsRight(t, p, of(row, changed(events, at, events[0])...), false)
				holdsRight(t, p, of(row, changed(events, at-1, events[n-1])...), false)
			}
		}
		for at := range n - 1 {
			e := key(20+at, 1, 4)
			up := []api.Event{key(20, 1, 4), key(21, 1, 4), key(22, 1, 4), key(23, 1, 4)}[:n]
			for _, x := range []api.Event{key(e.Ts-1, 3, 9), key(e.Ts, 0, 9), key(e.Ts, 1, 3), e} {
				holdsRight(t, p, of(row, changed(up, at+1, x)...), false)
			}
			for _, x := range []api.Event{key(e.Ts, 2, 0), key(e.Ts, 1, 5)} {
				holdsRight(t, p, of(row, changed(up, at+1, x)...), true)
			}
		}
	}
}

// P16.1: only that the events rise is asked, by the words: not whether each of them may be, nor whether they meet the steps, nor the window.
func TestRightAnyEvents(t *testing.T) {
	one, two := read(t, "0a within 5"), read(t, "0a[1=2];1b[1=2] within 5")
	l := sample.Strange()
	for _, e := range l {
		holdsRight(t, one, of([]int{0}, e), true)
		for _, x := range l {
			holdsRight(t, two, of([]int{0, 1}, x, e), sample.Ahead(x, e))
		}
	}
	holdsRight(t, two, of([]int{0, 1}, key(least, least, least), key(most, most, most)), true)
	holdsRight(t, two, of([]int{0, 1}, key(most, most, most), key(least, least, least)), false)
}

// P16.1, P16.4: of a pattern that may not be no match may be.
func TestRightWrongPattern(t *testing.T) {
	rows := [][]int{nil, {}, {0}, {0, 1}, {0, 0}, {1}, {0, 2}, {0, 1, 2}, {0, 1, 1}, {0, 0, 1}, {0, 1, 2, 3}, {0, 1, 2, 3, 4}, {0, 0, 0, 0}}
	for _, p := range sample.Wrong() {
		if check.Right(p) {
			t.Fatalf("%s may be", shown(p))
		}
		for _, row := range rows {
			for n := range 6 {
				holdsRight(t, p, of(row, rising(n)...), false)
			}
		}
	}
}

// P16.1: of no steps, of each last step, whatever is ahead of it, of patterns that may not be.
func TestTrailing(t *testing.T) {
	for text, want := range map[string]bool{
		"0a within 5": false, "0a;1b within 5": false, "0a;!1b;2c within 5": false, "0a;!1b;!2c;3d{1,3} within 5": false,
		"0a;!1b within 5": true, "0a;!1b;2c;!3d within 5": true, "0a{1,2};!1b;!2c within 5": true,
		"!0a within 5": true, "!0a;!1b within 5": true, "!0a;1b within 5": false, "9a;!9b within 5": true, "0a{0,9};1b within 5": false,
	} {
		if p := read(t, text); Trailing(p) != want || Trailing(p) != want {
			t.Errorf("Trailing(%s): %t", text, !want)
		}
	}
	negative := api.Step{Not: true, Kind: -4, Min: 7, Max: least}
	for _, c := range []struct {
		steps []api.Step
		want  bool
	}{
		{nil, false}, {[]api.Step{}, false}, {make([]api.Step, 0, 9), false}, {make([]api.Step, 1), false},
		{[]api.Step{negative}, true}, {[]api.Step{{}, negative}, true}, {[]api.Step{negative, {}}, false}, {[]api.Step{negative, negative}, true},
		{[]api.Step{negative, {}}[:1], true}, {append(make([]api.Step, 100000), negative), true}, {make([]api.Step, 100000), false},
	} {
		for _, window := range []int{0, 5, -1, least, most} {
			if Trailing(api.Pattern{Steps: c.steps, Window: window}) != c.want {
				t.Errorf("Trailing of %d steps: %t", len(c.steps), !c.want)
			}
		}
	}
	for _, p := range append(sample.Shapes(), sample.Wrong()...) {
		if Trailing(p) != trailingByWords(p) {
			t.Errorf("Trailing(%s): %t", shown(p), Trailing(p))
		}
	}
}

// patterns are some, with a negative step at the end and without one, that may be and that may not.
func patterns(t testing.TB) []api.Pattern {
	var l []api.Pattern
	for _, text := range []string{
		"0a;1b within 50", "0a{1,2};1b{1,2} within 5", "0a;!1b;2c within 50", "0a;!1b within 50", "0a{1,3};!1b;!2c within 7",
		"0a;!1b within 1073741824", "!0a within 9", "0a{1,9};7b within 3", "0a;1b;2c;3d;4e;!5f within 0",
	} {
		l = append(l, read(t, text))
	}
	return append(l, api.Pattern{}, api.Pattern{Window: 5}, trailing(1), trailing(-1), trailing(most), trailing(least))
}

// trailing is a pattern of one positive step and a negative one behind it, with that window, were it such as may not be.
func trailing(window int) api.Pattern {
	return api.Pattern{Steps: []api.Step{sample.Times(1, 1), sample.Not()}, Window: window}
}

// P16.1: of no events, of one, of many; the last event's time, whatever ones are ahead; with a negative step at the end the first one's, and the window.
func TestClosing(t *testing.T) {
	plain, late := read(t, "0a{1,2};1b within 50"), read(t, "0a{1,2};1b;!2c within 50")
	wrong, wrongLate := read(t, "!0a;1b within 50"), read(t, "!0a within 50")
	for _, c := range []struct {
		events       []api.Event
		plain, after int
	}{
		{nil, 0, 0}, {[]api.Event{}, 0, 0}, {make([]api.Event, 0, 5), 0, 0},
		{times(0), 0, 50}, {times(7), 7, 57}, {times(-7), -7, 43}, {times(1 << 40), 1 << 40, 1<<40 + 50},
		{times(3, 8), 8, 53}, {times(3, 8, 8, 20), 20, 53}, {times(0, 1, 2, 3, 4, 5, 6), 6, 50}, {rising(4), 9, 55},
		// Such as do not rise: neither the latest nor the earliest, but the last and the first.
		{times(8, 3), 3, 58}, {times(8, 30, 5, 6, 2, 7), 7, 58}, {times(-1, -5), -5, 49},
	} {
		for _, row := range [][]int{nil, {0}, {0, 1}, {0, 0, 1}, {2, 9}} {
			m := of(row, c.events...)
			for _, p := range []api.Pattern{plain, wrong, {}, {Window: 50}} {
				holdsClosing(t, p, m, c.plain)
			}
			for _, p := range []api.Pattern{late, wrongLate} {
				holdsClosing(t, p, m, c.after)
			}
		}
	}
}

// P16.1: sums that have no room go round by 2^64, at both edges; without a negative step at the end nothing is summed.
func TestClosingGoesRound(t *testing.T) {
	for _, c := range []struct{ ts, window, want int }{
		{most, 0, most}, {most, 1, least}, {most, 2, least + 1}, {most, 1 << 30, least + 1<<30 - 1}, {most, most, -2},
		{most - 4, 5, least}, {most - 5, 5, most}, {1, most, least}, {0, most, most}, {least, most, -1}, {most, least, -1},
		{least, -1, most}, {least, least, 0}, {-1, least, most}, {least + 5, -6, most}, {least, 0, least}, {0, least, least}, {least, 1 << 30, least + 1<<30},
		{1 << 62, 1 << 62, least}, {1 << 40, 1 << 30, 1<<40 + 1<<30},
	} {
		p := trailing(c.window)
		for _, events := range [][]api.Event{times(c.ts), times(c.ts, 3), times(c.ts, most, least)} {
			holdsClosing(t, p, of([]int{0}, events...), c.want)
		}
		holdsClosing(t, sample.Of(sample.Times(1, 1)), of([]int{0}, times(3, c.ts)...), c.ts)
		holdsClosing(t, p, of([]int{0}), 0)
	}
}

// P16.2: the closing goes ahead of all else: of events, of how many there are, of rows.
func TestCmpClosing(t *testing.T) {
	plain, late := read(t, "0a;1b within 50"), read(t, "0a;1b;!2c within 50")
	long := []int{9, 9, 9}
	for _, c := range []struct {
		p    api.Pattern
		a, b api.Match
	}{
		{plain, of(nil, times(7)...), of(nil, times(8)...)},
		{plain, of(nil, times(5, 7)...), of(nil, times(3, 8)...)},
		{plain, of(long, times(5, 6, 7)...), of(nil, times(8)...)},
		{plain, of(long, times(7)...), of(nil, times(8)...)},
		{plain, of(nil, times(9, 7)...), of(nil, times(2, 8)...)},
		{plain, of(nil, key(7, 3, 9)), of(nil, key(8, 0, 0))},
		{plain, of(nil, times(-1)...), of(nil)},
		{plain, of(long), of(nil, times(1)...)},
		{plain, of(nil, times(least)...), of(nil, times(most)...)},
		{plain, of(nil, times(-1<<62-1)...), of(nil, times(1<<62)...)},
		{late, of(long, times(3, 99)...), of(nil, times(4)...)},
		{late, of(nil, key(3, 3, 9)), of(nil, key(4, 0, 0))},
		// Closings that go round: the later event closes earlier.
		{trailing(1), of(nil, times(most)...), of(nil, times(0)...)},
		{trailing(-1), of(nil, times(0)...), of(nil, times(least)...)},
		{late, of(nil, times(most-49)...), of(nil, times(most-50)...)},
		// None of it has a closing of 0, so that it may be ahead of one with an event, or behind it.
		{late, of(nil), of(nil, times(-49)...)},
		{late, of(nil, times(-51)...), of(nil)},
	} {
		holdsCmp(t, c.p, c.a, c.b, -1)
	}
}

// P16.2: of one closing the events tell, one by one, each by its time, its source, its number; the row is not asked.
func TestCmpEvents(t *testing.T) {
	plain, late := sample.Of(sample.Times(1, 3)), sample.Of(sample.Times(1, 3), sample.Not())
	low, high := []int{0, 0}, []int{9, 9, 9}
	for at := range 3 {
		events := times(20, 30, 40)
		e := events[at]
		for _, next := range []api.Event{key(e.Ts+1, 0, 0), key(e.Ts, e.Src+1, 0), key(e.Ts, e.Src, e.Seq+1), key(e.Ts, most, least), key(e.Ts, e.Src, most)} {
			a, b := of(high, events...), of(low, changed(events, at, next)...)
			// The time alone of the last one, or of the first one, is another closing.
			holdsCmp(t, plain, a, b, -1)
			holdsCmp(t, late, a, b, -1)
			// What is behind does not make it good.
			behind := slices.Clone(b.Events)
			for i := at + 1; i < 3; i++ {
				behind[i].Src, behind[i].Seq = 0, 0
			}
			holdsCmp(t, plain, a, of(low, behind...), -1)
			holdsCmp(t, late, a, of(low, behind...), -1)
		}
	}
	for _, c := range []struct {
		p    api.Pattern
		a, b []api.Event
	}{
		{plain, times(3, 8), times(5, 8)},
		{plain, times(3, 7, 8), times(5, 6, 8)},
		{late, times(3, 9), times(3, 10)},
		{late, times(3, 8, 99), times(3, 9, 10)},
		{plain, []api.Event{key(5, 0, 9), key(8, 0, 0)}, []api.Event{key(5, 1, 2), key(8, 0, 0)}},
		{plain, []api.Event{key(5, 1, 2), key(8, 3, 0)}, []api.Event{key(5, 1, 3), key(8, 0, 0)}},
		{plain, []api.Event{key(least, 1, 2), key(8, 0, 0)}, []api.Event{key(most, 1, 2), key(8, 0, 0)}},
		{plain, []api.Event{key(8, least, 2)}, []api.Event{key(8, most, 2)}},
		{plain, []api.Event{key(8, 1, least)}, []api.Event{key(8, 1, most)}},
	} {
		holdsCmp(t, c.p, of(high, c.a...), of(low, c.b...), -1)
	}
}

// P16.2: one that has no event any more is ahead, whatever its row is.
func TestCmpMoreEvents(t *testing.T) {
	plain, late := sample.Of(sample.Times(1, 3)), sample.Of(sample.Times(1, 3), sample.Not())
	for _, c := range []struct {
		p    api.Pattern
		a, b []api.Event
	}{
		{plain, times(8), times(8, 8)},
		{plain, []api.Event{key(8, 0, 0)}, []api.Event{key(8, 0, 0), key(8, 0, 1)}},
		{plain, times(3, 8), times(3, 8, 8)},
		{plain, times(8, 8), times(8, 8, 8)},
		{plain, nil, times(0)},
		{plain, nil, times(5, 0)},
		{late, times(3), times(3, 8)},
		{late, times(3, 8), times(3, 8, 9)},
		{late, times(3), times(3, -9)},
		{late, times(3), times(3, 3, 3, 3)},
		{trailing(5), nil, times(-5)},
	} {
		for _, rows := range [][2][]int{{nil, nil}, {{9, 9}, {0}}, {{0}, {9, 9}}, {{1}, nil}} {
			holdsCmp(t, c.p, of(rows[0], c.a...), of(rows[1], c.b...), -1)
		}
	}
	// How many there are is asked last: an event that stands ahead is ahead, though there are more.
	holdsCmp(t, plain, of(nil, times(3, 4, 8)...), of(nil, times(5, 8)...), -1)
	holdsCmp(t, late, of(nil, times(3, 4, 5, 6)...), of(nil, times(3, 8)...), -1)
}

// P16.2: of the same events the rows tell, number by number; one that has none any more is ahead.
func TestCmpRows(t *testing.T) {
	rows := [][]int{
		nil, {least}, {-1, 9}, {0}, {0, least}, {0, 0}, {0, 0, 0}, {0, 0, 1}, {0, 0, 1, 1}, {0, 1}, {0, 1, 0}, {0, 1, 1}, {0, 2}, {1}, {1, 0, 0}, {1, 1}, {5}, {most, least}, {most, most},
	}
	for _, events := range [][]api.Event{nil, times(8), times(3, 8), rising(4), {key(most, least, most)}} {
		for _, p := range patterns(t) {
			for i, a := range rows {
				for k, b := range rows {
					want := 0
					if i < k {
						want = -1
					}
					if i > k {
						want = 1
					}
					holdsCmp(t, p, of(a, events...), of(b, events...), want)
				}
			}
		}
	}
	// At each place of a long row.
	for at := range 4 {
		row := []int{0, 0, 1, 1}
		holdsCmp(t, patterns(t)[1], of(row, rising(4)...), of(changed(row, at, row[at]+1), rising(4)...), -1)
		holdsCmp(t, patterns(t)[1], of(row[:at], rising(4)...), of(row, rising(4)...), -1)
	}
}

// P16.2: two that are alike but in the kinds and the points of events: none is ahead, and they are one match, though not the same.
func TestAlike(t *testing.T) {
	for _, m := range []api.Match{of([]int{0}, times(8)...), of([]int{0, 1}, times(3, 8)...), of([]int{0, 0, 1, 1}, rising(4)...), of([]int{4, -2}, times(9, 2)...)} {
		for _, p := range patterns(t) {
			holdsCmp(t, p, m, m, 0)
			for _, x := range strangers(m) {
				holdsCmp(t, p, m, x, 0)
				promised(t, p, m, x)
			}
		}
		holdsIs(t, m, m, true)
		holdsSame(t, m, m, true)
		for _, x := range strangers(m) {
			holdsIs(t, m, x, true)
			holdsSame(t, m, x, false)
			holdsOwn(t, x)
		}
	}
}

// P16.2: matches that are another one: by a number of the row or of a key, one more, one fewer, two turned about.
func TestOther(t *testing.T) {
	for _, m := range []api.Match{of([]int{0}, times(8)...), of([]int{0, 1}, times(3, 8)...), of([]int{0, 0, 1, 1}, rising(4)...)} {
		l := []api.Match{of(m.Row), of(nil, m.Events...), of(with(m.Row, 0, 0), m.Events...), of(m.Row, with(m.Events, 0, m.Events[0])...)}
		for at, n := range m.Row {
			for _, other := range []int{n + 1, n - 1, n ^ 1<<32, n ^ least} {
				l = append(l, of(changed(m.Row, at, other), m.Events...))
			}
			l = append(l, of(less(m.Row, at), m.Events...), of(with(m.Row, at+1, 0), m.Events...), of(m.Row[:at], m.Events...))
		}
		for at, e := range m.Events {
			for _, f := range sample.Fields()[:3] {
				n := *f.Of(&e)
				for _, other := range []int{n + 1, n - 1, n ^ 1<<32, n ^ least} {
					l = append(l, of(m.Row, changed(m.Events, at, sample.With(e, f, other))...))
				}
			}
			l = append(l, of(m.Row, less(m.Events, at)...), of(m.Row, with(m.Events, at+1, api.Event{})...), of(m.Row, m.Events[:at]...))
			if at > 0 {
				l = append(l, of(m.Row, changed(changed(m.Events, at, m.Events[at-1]), at-1, e)...))
			}
		}
		for _, x := range l {
			holdsIs(t, m, x, false)
			holdsSame(t, m, x, false)
			for _, p := range patterns(t) {
				promised(t, p, m, x)
				promised(t, p, x, m)
				if Cmp(p, m, x) == 0 {
					t.Errorf("none is ahead of %s, %s", shown(m), shown(x))
				}
			}
		}
	}
}

// P16.2: nothing and empty lists mean the same; an empty match is none with something in it.
func TestNothing(t *testing.T) {
	none := []api.Match{{}, {Row: []int{}}, {Events: []api.Event{}}, of([]int{}, []api.Event{}...), {Row: make([]int, 0, 4), Events: make([]api.Event, 0, 4)}}
	some := []api.Match{of([]int{0}), of(nil, api.Event{}), of([]int{0}, api.Event{})}
	for _, p := range patterns(t) {
		for _, a := range none {
			for _, b := range none {
				holdsIs(t, a, b, true)
				holdsSame(t, a, b, true)
				holdsCmp(t, p, a, b, 0)
			}
			for _, b := range some {
				holdsIs(t, a, b, false)
				holdsSame(t, a, b, false)
				promised(t, p, a, b)
			}
			holdsClosing(t, p, a, 0)
			holdsRight(t, p, a, false)
			holdsOwn(t, a)
			holdsSort(t, p, none, none)
		}
	}
	for at, m := range some {
		holdsFind(t, some, m, at)
		holdsFind(t, none, m, -1)
		holdsFind(t, append(slices.Clone(some), none...), none[at], len(some))
	}
}

// P16.2: points as event.Same holds them: -0 is 0, NaN is NaN; to be one match they are not asked.
func TestSamePoints(t *testing.T) {
	points := func(l ...complex128) api.Match {
		m := of([]int{0, 1}, times(3, 8)...)
		for at, c := range l {
			m.Events[at].At = c
		}
		return m
	}
	odd := math.Float64frombits(0xfff8000000000123)
	for _, c := range []struct {
		a, b api.Match
		same bool
	}{
		{points(0, complex(sample.Minus0(), 7)), points(complex(0, sample.Minus0()), 7i), true},
		{points(complex(math.NaN(), 1), 3), points(complex(odd, 1), 3), true},
		{points(3, complex(1, math.NaN())), points(3, complex(1, math.NaN())), true},
		{points(3, complex(1, math.NaN())), points(3, complex(math.NaN(), 1)), false},
		{points(complex(math.Inf(1), 0)), points(complex(math.Inf(-1), 0)), false},
		{points(complex(math.NaN(), 0)), points(0), false},
		{points(0.5), points(0), false},
		{points(1+2i, 3), points(2+1i, 3), false},
		{points(1, 3+1i), points(1, 3-1i), false},
	} {
		holdsSame(t, c.a, c.b, c.same)
		holdsIs(t, c.a, c.b, true)
		holdsOwn(t, c.a)
		holdsOwn(t, c.b)
		for _, p := range patterns(t) {
			holdsCmp(t, p, c.a, c.b, 0)
			holdsSort(t, p, []api.Match{c.a, c.b}, []api.Match{c.a, c.b})
			holdsSort(t, p, []api.Match{c.b, c.a}, []api.Match{c.b, c.a})
		}
		holdsFind(t, []api.Match{of(nil), c.a, c.b}, c.b, 1)
	}
}

// P16.2: Own and Same of each event's numbers, points and place.
func TestOwnSame(t *testing.T) {
	m := of([]int{0, 1, 1}, rising(3)...)
	holdsOwn(t, m)
	for at, e := range m.Events {
		for _, f := range sample.Fields() {
			for _, n := range append(sample.Beyond(f), f.Most) {
				x := of(m.Row, changed(m.Events, at, sample.With(e, f, n))...)
				holdsOwn(t, x)
				holdsSame(t, m, x, n == *f.Of(&e))
				holdsSame(t, x, Own(x), true)
			}
		}
		for _, part := range append(sample.WrongParts(), sample.Minus0()) {
			for _, point := range []complex128{complex(part, 7), complex(7, part), complex(part, part)} {
				e.At = point
				x := of(m.Row, changed(m.Events, at, e)...)
				holdsOwn(t, x)
				holdsSame(t, m, x, false)
				holdsSame(t, x, Own(x), true)
				holdsIs(t, m, x, true)
			}
		}
	}
	strange := of([]int{least, most, -1, 0, 1 << 40}, sample.Strange()...)
	holdsOwn(t, strange)
	for at, e := range strange.Events {
		holdsOwn(t, of(strange.Row[:at%6], e))
		holdsSame(t, strange, of(strange.Row, changed(strange.Events, at, foreign())...), false)
	}
}

// P16.3: none, one, and five in each order, of a pattern with a negative step at the end, and of one without.
func TestSort(t *testing.T) {
	plain, late := read(t, "0a{1,2};1b{1,2} within 50"), read(t, "0a{1,2};1b{1,2};!2c within 50")
	one := of([]int{0, 1}, times(3, 8)...)
	for _, p := range patterns(t) {
		holdsSort(t, p, nil, nil)
		holdsSort(t, p, []api.Match{}, nil)
		holdsSort(t, p, make([]api.Match, 0, 5), nil)
		holdsSort(t, p, []api.Match{one}, []api.Match{one})
		if l := Sort(p); len(l) != 0 {
			t.Errorf("none sorted: %v", l)
		}
		if l := Sort(p, one); !allSame(l, []api.Match{one}) {
			t.Errorf("one sorted: %v", l)
		}
	}
	byLast := []api.Match{
		of([]int{0, 1}, times(6, 7)...), of([]int{0, 1}, times(3, 8)...), of([]int{0, 1}, times(3, 8, 8)...), of([]int{0, 1}, times(5, 8)...), of([]int{0, 2}, times(5, 8)...),
	}
	byFirst := []api.Match{
		of([]int{0, 1}, times(3, 9)...), of([]int{0, 1}, times(3, 9, 10)...), of([]int{0, 1}, times(3, 11)...), of([]int{0, 2}, times(3, 11)...), of([]int{0, 1}, times(4, 5)...),
	}
	for _, order := range orders(5) {
		holdsSort(t, plain, inOrder(byLast, order), byLast)
		holdsSort(t, late, inOrder(byFirst, order), byFirst)
	}
	if l := Sort(plain, byLast[3], byLast[0], byLast[2]); !allSame(l, []api.Match{byLast[0], byLast[2], byLast[3]}) {
		t.Errorf("three sorted: %v", l)
	}
}

// orders are all orders of the numbers below n.
func orders(n int) [][]int {
	if n == 0 {
		return [][]int{nil}
	}
	var all [][]int
	for _, order := range orders(n - 1) {
		for at := range n {
			all = append(all, with(order, at, n-1))
		}
	}
	return all
}

// inOrder are matches in that order.
func inOrder(l []api.Match, order []int) []api.Match {
	var turned []api.Match
	for _, at := range order {
		turned = append(turned, l[at])
	}
	return turned
}

// P16.3: of two of which none is ahead the one that stood first stays so, in short lists and long ones, the others going about them.
func TestSortStays(t *testing.T) {
	p := read(t, "0a;1b within 50")
	m := of([]int{0, 1}, times(3, 8)...)
	alike := append(strangers(m)[:4], m)
	for _, order := range orders(5) {
		l := inOrder(alike, order)
		holdsSort(t, p, l, l)
		early, late := of([]int{0, 1}, times(3, 7)...), of([]int{0, 1}, times(3, 9)...)
		holdsSort(t, p, slices.Concat([]api.Match{late}, l[:2], []api.Match{early}, l[2:]), slices.Concat([]api.Match{early}, l, []api.Match{late}))
	}
	for _, n := range []int{2, 11, 12, 13, 20, 21, 40, 41, 64, 100, 333} {
		var l []api.Match
		for i := range n {
			// Seven that are ahead of one another come again and again, each time with another kind.
			e := key(i*5%7, 1, 4)
			e.Kind = i
			l = append(l, of([]int{0, 1}, key(0, 0, 0), e))
		}
		holdsSort(t, p, l, sortedByWords(p, l))
	}
}

// P16.3: the first of two that are one match, be they the same or not; none; the last; of an empty list.
func TestFind(t *testing.T) {
	var l []api.Match
	for _, row := range [][]int{nil, {0}, {0, 1}, {0, 1, 1}, {1}} {
		for n := range 4 {
			l = append(l, of(row, rising(n)...), of(row, times(8, 9, 10)[:n]...))
		}
	}
	// Of the first row with no events two are there.
	l = slices.CompactFunc(l, isByWords)
	for at, m := range l {
		for _, x := range append(strangers(m), m) {
			holdsFind(t, l, x, at)
			holdsFind(t, append(slices.Clone(l), l...), x, at)
			holdsFind(t, slices.Concat(l[:at+1], []api.Match{x, x}, l[at+1:]), m, at)
			holdsFind(t, with(l, at, x), m, at)
			holdsFind(t, less(l, at), x, -1)
			holdsFind(t, l[:at], x, -1)
			holdsFind(t, l[:at+1], x, at)
			holdsFind(t, l[at:], x, 0)
			holdsFind(t, l[at+1:], x, -1)
			holdsFind(t, nil, x, -1)
			holdsFind(t, []api.Match{}, x, -1)
			holdsFind(t, []api.Match{x}, m, 0)
			holdsFind(t, []api.Match{x, m, x}, m, 0)
		}
	}
	holdsFind(t, l, of([]int{0, 1}, times(8, 11)...), -1)
	holdsFind(t, l, of([]int{0, 2}, times(8, 9)...), -1)
	holdsFind(t, l, of([]int{0, 1}, times(9, 8)...), -1)
}

// small are all matches of up to two events of four keys, and of rows of up to two numbers from 0 to 2.
func small() []api.Match {
	keys := []api.Event{key(1, 0, 0), key(1, 0, 1), key(1, 1, 0), key(2, 0, 0)}
	rows := [][]int{nil, {0}, {1}, {2}, {0, 0}, {0, 1}, {0, 2}, {1, 0}, {1, 1}, {2, 0}}
	var l []api.Match
	for _, row := range rows {
		l = append(l, of(row))
		for _, a := range keys {
			l = append(l, of(row, a))
			for _, b := range keys {
				l = append(l, of(row, a, b))
			}
		}
	}
	return l
}

// P16.1 to P16.3: small matches against one another, of some patterns; all of them sorted, and each found.
func TestAll(t *testing.T) {
	l := small()
	for _, p := range []api.Pattern{read(t, "0a{1,2};1b within 5"), read(t, "0a{1,2};!1b within 5"), trailing(least)} {
		for at, a := range l {
			// Each third one, in turn: any two of them would take long.
			for k := at % 3; k < len(l); k += 3 {
				promised(t, p, a, l[k])
			}
			holdsOwn(t, a)
		}
		holdsSort(t, p, l, sortedByWords(p, l))
		backwards := slices.Clone(l)
		slices.Reverse(backwards)
		holdsSort(t, p, backwards, sortedByWords(p, l))
	}
	for at, m := range l {
		holdsFind(t, l[:at+1], m, at)
		holdsFind(t, l[:at], m, -1)
	}
}

// P16.4: it is an order: of three the first one is ahead of the last, if it is of the middle one and that of the last; matches that may be and such as may not.
func TestOrder(t *testing.T) {
	l := small()
	var some []api.Match
	for at := 0; at < len(l); at += 5 {
		some = append(some, l[at])
	}
	some = append(some, strangers(of([]int{0, 1}, key(1, 0, 1), key(1, 1, 0)))...)
	some = append(some, of([]int{0}, key(most, least, most)), of([]int{0}, key(least, most, least)), of([]int{most, least}, times(most, least)...))
	for _, p := range []api.Pattern{read(t, "0a{1,2};1b within 5"), read(t, "0a{1,2};!1b within 5"), trailing(most), {}} {
		for _, a := range some {
			holdsCmp(t, p, a, a, 0)
			for _, b := range some {
				for _, c := range some {
					if first, second, both := Cmp(p, a, b), Cmp(p, b, c), Cmp(p, a, c); first == second && both != first {
						t.Fatalf("%s: of %s, %s, %s: %d, %d, %d", shown(p), shown(a), shown(b), shown(c), first, second, both)
					}
				}
			}
		}
	}
}

// P16.4: of matches that may be two of which none is ahead are one match, and the other way about.
func TestOneMatch(t *testing.T) {
	for _, text := range []string{"0a{1,2};1b{1,2} within 5", "0a{1,2};!1b;2c{1,2};!3d within 5", "0a{1,3};!1b within 50"} {
		p := read(t, text)
		var l []api.Match
		for _, row := range unroll.Rows(p) {
			for at := range 5 {
				if events := less(rising(5), at); len(row) <= 4 {
					m := of(row, events[:len(row)]...)
					l = append(l, m)
					l = append(l, strangers(m)[:4]...)
				}
			}
		}
		for _, a := range l {
			holdsRight(t, p, a, true)
			for _, b := range l {
				if c := Cmp(p, a, b); (c == 0) != Is(a, b) || c != cmpByWords(p, a, b) {
					t.Fatalf("%s: %s, %s: %d, one match %t", text, shown(a), shown(b), c, Is(a, b))
				}
			}
		}
	}
}

// R1: matches at the edges of int, of all patterns that may not be, and of none.
func TestEdges(t *testing.T) {
	var l []api.Match
	for _, ts := range []int{least, least + 1, -1, 0, most} {
		for _, src := range []int{least, most} {
			e := api.Event{Ts: ts, Src: src, Seq: ts, Kind: ts, At: complex(sample.WrongParts()[len(l)%14], math.NaN())}
			l = append(l, of([]int{ts, src}, e), of([]int{src}, e, key(src, ts, ts)), of(nil, key(most, src, ts), e, e))
		}
	}
	l = append(l, of(nil), of([]int{least}, sample.Strange()...))
	for _, p := range slices.Concat(patterns(t), sample.Wrong(), sample.Shapes()[:20]) {
		for at, m := range l {
			promised(t, p, m, l[(at*7+3)%len(l)])
		}
		if len(p.Steps) < 100 {
			holdsSort(t, p, l, sortedByWords(p, l))
		}
	}
	for _, m := range l {
		holdsOwn(t, m)
		holdsFind(t, l, m, findByWords(l, m))
	}
}

// R1: long rows, many events, many matches.
func TestLong(t *testing.T) {
	const n = 200000
	row, events := make([]int, n), make([]api.Event, n)
	for at := range events {
		row[at] = at
		events[at] = key(at/2, at%2, at)
	}
	m := of(row, events...)
	other := of(changed(row, n-1, n), events...)
	later := of(row, changed(events, n-1, others(events[n-1])[0])...)
	p := read(t, "0a{1,3};!1b within 50")
	holdsRight(t, p, m, false)
	holdsRight(t, p, of(make([]int, n), events...), false)
	holdsClosing(t, p, m, 50)
	holdsCmp(t, p, m, other, -1)
	holdsCmp(t, p, m, later, 0)
	holdsIs(t, m, other, false)
	holdsIs(t, m, later, true)
	holdsSame(t, m, later, false)
	holdsOwn(t, m)
	var many []api.Match
	for at := range n {
		many = append(many, of([]int{0}, key(at*7919%n, 0, 0)))
	}
	for at, x := range Sort(p, many...) {
		if !sameBits(x, of([]int{0}, key(at, 0, 0))) {
			t.Fatalf("%d sorted: at %d %s", n, at, shown(x))
		}
	}
	if at := Find(many, of([]int{0}, key((n-1)*7919%n, 0, 0))); at != n-1 {
		t.Errorf("the last of %d found at %d", n, at)
	}
}

// made are a pattern and up to eight matches, made of bytes.
func made(b []byte, shapes []api.Pattern) (api.Pattern, []api.Match) {
	next := func() int {
		if len(b) == 0 {
			return 0
		}
		n := int(int8(b[0]))
		b = b[1:]
		return n
	}
	number := func() int {
		switch n := next(); n {
		case 126:
			return most
		case 127:
			return least
		default:
			return n
		}
	}
	p := tree.Own(shapes[(next()&255<<8|next()&255)%len(shapes)])
	p.Window = number()
	rows := append(unroll.Rows(p), nil)
	var l []api.Match
	for len(b) > 0 && len(l) < 8 {
		var m api.Match
		switch kind := next() & 15; {
		case kind < 12:
			m.Row = slices.Clone(rows[kind%len(rows)])
		default:
			m.Row = []int{next() & 3, number()}
		}
		n := max(len(m.Row)+next()&63/30-1, 0)
		for range n {
			sources := next()
			m.Events = append(m.Events, api.Event{Ts: number(), Src: sources & 3, Seq: sources >> 2 & 3, Kind: sources >> 4, At: complex(float64(sources), sample.Minus0())})
		}
		l = append(l, m)
	}
	return p, l
}

// promisedAll holds all that is told of a pattern and a list of matches, and of any two of them.
func promisedAll(t *testing.T, p api.Pattern, l []api.Match) {
	t.Helper()
	for at, a := range l {
		for _, b := range l {
			promised(t, p, a, b)
		}
		for _, x := range strangers(a) {
			holdsIs(t, a, x, true)
			holdsCmp(t, p, a, x, 0)
		}
		holdsOwn(t, a)
		holdsFind(t, l[:at], a, findByWords(l[:at], a))
		holdsFind(t, l, a, findByWords(l, a))
	}
	holdsSort(t, p, l, sortedByWords(p, l))
}

// P16.1 to P16.4: patterns and matches made of numbers.
func TestMade(t *testing.T) {
	shapes := slices.Concat(sample.Shapes(), sample.Wrong()[:30])
	seed := uint64(16)
	next := func(n int) int {
		seed = seed*6364136223846793005 + 1442695040888963407
		return int(seed>>33) % n
	}
	right := 0
	for range 1500 {
		b := make([]byte, 3+next(60))
		for i := range b {
			b[i] = byte(next(256))
		}
		p, l := made(b, shapes)
		promisedAll(t, p, l)
		for _, m := range l {
			if Right(p, m) {
				right++
			}
		}
	}
	if right < 100 {
		t.Errorf("%d matches may be", right)
	}
}

// FuzzMatch holds what is told of patterns and matches of any bytes against the chapter's words.
func FuzzMatch(f *testing.F) {
	shapes := slices.Concat(sample.Shapes(), sample.Wrong()[:30])
	f.Add([]byte{})
	f.Add([]byte{0, 40, 50, 0, 30, 1, 3, 0, 8, 2, 30, 1, 5, 1, 8, 5, 7})
	f.Add([]byte{1, 7, 126, 1, 40, 0, 126, 0, 127, 13, 2, 127, 60, 9, 126, 8, 127, 7, 6})
	f.Fuzz(func(t *testing.T, b []byte) {
		p, l := made(b[:min(len(b), 100)], shapes)
		promisedAll(t, p, l)
	})
}
