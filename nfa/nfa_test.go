package nfa

import (
	"math"
	"reflect"
	"slices"
	"strconv"
	"testing"

	"straggle/api"
	"straggle/check"
	"straggle/parse"
	"straggle/sample"
	"straggle/tree"
	"straggle/unroll"
)

// far are numbers that are no step's, no place's and no state's of any automaton here.
var far = []int{-2, -3, -6, 100, 255, 256, 1 << 20, 1 << 32, 1<<32 + 1, -1 << 32, 1 << 62, -1 << 62, math.MinInt, math.MinInt + 1, math.MaxInt, math.MaxInt - 1}

// read is a pattern out of its text.
func read(t *testing.T, text string) api.Pattern {
	t.Helper()
	p, at, e := parse.Parse(text)
	if e != 0 {
		t.Fatalf("%q: %d at %d", text, e, at)
	}
	return p
}

// state is one: an s among the flags tells that it is strict, an l that it is last.
func state(step, place, ahead int, flags string, guards ...int) api.State {
	s := api.State{Step: step, Place: place, Ahead: ahead, Guards: guards}
	for _, flag := range flags {
		s.Strict = s.Strict || flag == 's'
		s.Last = s.Last || flag == 'l'
	}
	return s
}

// auto is an automaton of these states, with something at its end, so that this is seen too.
func auto(states ...api.State) api.Auto {
	return api.Auto{States: states, After: []int{4, 5}, Window: 9}
}

// equal tells whether both automata are the same in all, not by Same: lists that are nothing and such as are empty mean the same.
func equal(a, b api.Auto) bool { return reflect.DeepEqual(plain(a), plain(b)) }

// plain is an automaton in memory of its own, without a list that is nothing.
func plain(a api.Auto) api.Auto {
	own := api.Auto{States: []api.State{}, After: append([]int{}, a.After...), Window: a.Window}
	for _, s := range a.States {
		s.Guards = append([]int{}, s.Guards...)
		own.States = append(own.States, s)
	}
	return own
}

// sameRows tells whether both lists have the same rows in the same order.
func sameRows(a, b [][]int) bool { return slices.EqualFunc(a, b, slices.Equal) }

// named is a row as a text.
func named(row []int) string {
	text := ""
	for _, step := range row {
		text += strconv.Itoa(step) + " "
	}
	return text
}

// byWords is a pattern's automaton by the chapter's words: the beginnings of its rows, by their texts.
func byWords(p api.Pattern) api.Auto {
	a := api.Auto{Window: p.Window}
	numbers, whole := map[string]int{}, map[string]bool{}
	for _, row := range unroll.Rows(p) {
		whole[named(row)] = true
	}
	for _, row := range unroll.Rows(p) {
		for length := 1; length <= len(row); length++ {
			name := named(row[:length])
			if _, there := numbers[name]; there {
				continue
			}
			s := api.State{Step: row[length-1], Place: length - 1, Ahead: -1, Strict: p.Steps[row[length-1]].Strict, Last: whole[name]}
			if length > 1 {
				s.Ahead = numbers[named(row[:length-1])]
				for step := range p.Steps {
					if p.Steps[step].Not && step > row[length-2] && step < row[length-1] {
						s.Guards = append(s.Guards, step)
					}
				}
			}
			numbers[name] = len(a.States)
			a.States = append(a.States, s)
		}
	}
	for step, s := range p.Steps {
		if a.After = append(a.After, step); !s.Not {
			a.After = nil
		}
	}
	return a
}

// rightByWords tells whether an automaton may be, by the chapter's words.
func rightByWords(a api.Auto) bool {
	wrong := 0
	for at, s := range a.States {
		switch {
		case s.Step != 0 && s.Step != 1 && s.Step != 2 && s.Step != 3 && s.Step != 4 && s.Step != 5:
			wrong++
		case s.Ahead == -1:
			wrong += min(1, abs(s.Place))
		case s.Ahead < 0 || s.Ahead >= at || s.Place == 0 || a.States[s.Ahead].Place != s.Place-1:
			wrong++
		}
	}
	return wrong == 0
}

// abs is how far a number is from 0: 1 of the least one.
func abs(n int) int {
	if n == math.MinInt {
		return 1
	}
	return max(n, -n)
}

// rowByWords is the way to a state: the one ahead's, and its step.
func rowByWords(a api.Auto, at int) []int {
	if at < 0 || at >= len(a.States) || !rightByWords(a) {
		return nil
	}
	return append(rowByWords(a, a.States[at].Ahead), a.States[at].Step)
}

// promisedAuto holds what is told of an automaton against what is promised of any: P14.1, P14.2, R3, R4.
func promisedAuto(t *testing.T, a api.Auto) {
	t.Helper()
	was := plain(a)
	may := rightByWords(a)
	if Right(a) != may || Right(a) != may {
		t.Fatalf("Right(%.300v): %v", a, Right(a))
	}
	var rows [][]int
	for at, s := range a.States {
		promisedState(t, a, at)
		if s.Last {
			rows = append(rows, rowByWords(a, at))
		}
	}
	for at := -3; at < 0; at++ {
		promisedState(t, a, at)
		promisedState(t, a, len(a.States)-1-at)
	}
	promisedState(t, a, len(a.States))
	for _, at := range far {
		promisedState(t, a, at)
	}
	promisedRows(t, a, rows)
	promisedOwn(t, a, was)
	if !reflect.DeepEqual(plain(a), was) {
		t.Fatalf("%.300v was %.300v", a, was)
	}
}

// promisedState holds what is told of a number of a state against the chapter's words, and tells it twice, something else being written into it between.
func promisedState(t *testing.T, a api.Auto, at int) {
	t.Helper()
	want := rowByWords(a, at)
	var behind []int
	for number := range a.States {
		if rightByWords(a) && a.States[number].Ahead == at {
			behind = append(behind, number)
		}
	}
	for range 2 {
		row, next := Row(a, at), Next(a, at)
		if !slices.Equal(row, want) {
			t.Fatalf("Row(%.300v, %d): %v, not %v", a, at, row, want)
		}
		if !slices.Equal(next, behind) {
			t.Fatalf("Next(%.300v, %d): %v, not %v", a, at, next, behind)
		}
		spoil(row)
		spoil(next)
	}
}

// promisedRows holds all rows against the ones wanted: whatever is written into one of them, the others and what is told later stay.
func promisedRows(t *testing.T, a api.Auto, want [][]int) {
	t.Helper()
	got := Rows(a)
	if !sameRows(got, want) {
		t.Fatalf("Rows(%.300v): %v, not %v", a, got, want)
	}
	for i := range got {
		spoil(got[i])
		if !sameRows(got[i+1:], want[i+1:]) {
			t.Fatalf("Rows(%.300v): %v, when one was written into", a, got)
		}
	}
	clear(got[:cap(got)])
	if other := Rows(a); !sameRows(other, want) {
		t.Fatalf("Rows(%.300v): then %v", a, other)
	}
}

// promisedOwn holds an automaton in memory of its own against the one that it is of: whatever is written into the one, the other stays.
func promisedOwn(t *testing.T, a, was api.Auto) {
	t.Helper()
	own, other := Own(a), Own(a)
	if !equal(own, was) || !equal(other, was) || !Same(a, own) || !Same(own, a) || !Same(own, other) || !Same(a, a) {
		t.Fatalf("Own(%.300v): %.300v", a, own)
	}
	spoilAuto(own)
	if !equal(other, was) || !equal(a, was) || !equal(Own(a), was) {
		t.Fatalf("Own(%.300v): then %.300v", was, other)
	}
	for i := range other.States {
		if n := len(other.States[i].Guards); cap(other.States[i].Guards) > n {
			spoil(other.States[i].Guards[n:])
		}
	}
	if !equal(other, was) {
		t.Fatalf("Own(%.300v): %.300v, written into the room behind its guards", was, other)
	}
}

// spoil writes into a list, and into the room behind it.
func spoil(l []int) {
	for i := range l[:cap(l)] {
		l[:cap(l)][i] = -77
	}
}

// spoilAuto writes into all lists of an automaton, and into the room behind them.
func spoilAuto(a api.Auto) {
	for i := range a.States {
		spoil(a.States[i].Guards)
	}
	for i := range a.States[:cap(a.States)] {
		a.States[:cap(a.States)][i] = state(-77, -77, -77, "sl", -77)
	}
	spoil(a.After)
}

// beside are automata that differ from one in one thing: a number, a flag, a guard, a state more or fewer, After, Window.
func beside(a api.Auto) []api.Auto {
	var l []api.Auto
	change := func(how func(a *api.Auto)) {
		other := plain(a)
		how(&other)
		l = append(l, other)
	}
	for at := range a.States {
		for _, n := range append([]int{-1, 1, 2, 3, 6}, far...) {
			change(func(a *api.Auto) { a.States[at].Step += n })
			change(func(a *api.Auto) { a.States[at].Place += n })
			change(func(a *api.Auto) { a.States[at].Ahead += n })
			change(func(a *api.Auto) { a.States[at].Guards = append(a.States[at].Guards, n) })
		}
		change(func(a *api.Auto) { a.States[at].Strict = !a.States[at].Strict })
		change(func(a *api.Auto) { a.States[at].Last = !a.States[at].Last })
		for i := range a.States[at].Guards {
			change(func(a *api.Auto) { a.States[at].Guards[i]++ })
			change(func(a *api.Auto) { a.States[at].Guards = slices.Delete(a.States[at].Guards, i, i+1) })
		}
		change(func(a *api.Auto) { a.States = slices.Delete(a.States, at, at+1) })
		change(func(a *api.Auto) { a.States = slices.Insert(a.States, at, state(0, 0, -1, "sl", 7)) })
	}
	change(func(a *api.Auto) { a.States = append(a.States, api.State{}) })
	change(func(a *api.Auto) { a.States = append(a.States, state(5, 0, -1, "")) })
	for _, n := range far {
		change(func(a *api.Auto) { a.Window += n })
		change(func(a *api.Auto) { a.After = append(a.After, n) })
	}
	for i := range a.After {
		change(func(a *api.Auto) { a.After[i]-- })
		change(func(a *api.Auto) { a.After = slices.Delete(a.After, i, i+1) })
	}
	return l
}

// promised holds a pattern's automaton against what is promised of it: P14.1 by the chapter's words, P14.2, P14.3, R3, R4.
func promised(t *testing.T, p api.Pattern) api.Auto {
	t.Helper()
	was := tree.Own(p)
	if !check.Right(p) {
		a, e := New(p)
		if e != 110 || !reflect.DeepEqual(a, api.Auto{}) {
			t.Fatalf("New(%.300v): %.300v, %d", p, a, e)
		}
		return a
	}
	want := byWords(p)
	a, e := New(p)
	if e != 0 || !equal(a, want) {
		t.Fatalf("New(%.300v): %.300v, %d, by the words %.300v", p, a, e, want)
	}
	promisedAuto(t, a)
	if !Right(a) {
		t.Fatalf("New(%.300v): %.300v, which may not be", p, a)
	}
	follows(t, p, a)
	other, _ := New(p)
	spoilAuto(a)
	again, _ := New(p)
	if !equal(other, want) || !equal(again, want) {
		t.Fatalf("New(%.300v): then %.300v and %.300v", p, other, again)
	}
	if !reflect.DeepEqual(tree.Own(p), was) {
		t.Fatalf("%.300v was %.300v", p, was)
	}
	return other
}

// follows holds a pattern's automaton against what follows: P14.3.
func follows(t *testing.T, p api.Pattern, a api.Auto) {
	t.Helper()
	if !sameRows(Rows(a), unroll.Rows(p)) {
		t.Fatalf("%.300v has the rows %v, its automaton %v", p, unroll.Rows(p), Rows(a))
	}
	states := map[string]int{}
	for at := range a.States {
		states[named(Row(a, at))]++
	}
	if len(states) != len(a.States) {
		t.Fatalf("%.300v: of %d states the rows are %v", p, len(a.States), states)
	}
	for _, row := range unroll.Rows(p) {
		for place := range row {
			if states[named(row[:place+1])] != 1 {
				t.Fatalf("%.300v: no state of %v", p, row[:place+1])
			}
		}
		followsRow(t, p, a, row)
	}
}

// followsRow holds the states of a whole row, found by Next, against what guards its places.
func followsRow(t *testing.T, p api.Pattern, a api.Auto, row []int) {
	t.Helper()
	at := -1
	for place, step := range row {
		var found []int
		for _, next := range Next(a, at) {
			if a.States[next].Step == step {
				found = append(found, next)
			}
		}
		if len(found) != 1 {
			t.Fatalf("%.300v: of %v at %d the states %v", p, row, place, found)
		}
		at = found[0]
		s := a.States[at]
		if s.Place != place || !slices.Equal(s.Guards, unroll.Guards(p, row, place)) {
			t.Fatalf("%.300v: of %v at %d stands %v", p, row, place, s)
		}
		for _, guard := range s.Guards {
			if !p.Steps[guard].Not || guard >= step || guard <= row[place-1] {
				t.Fatalf("%.300v: of %v at %d step %d guards", p, row, place, guard)
			}
		}
	}
	if !a.States[at].Last || !slices.Equal(Row(a, at), row) {
		t.Fatalf("%.300v: %v ends with %v", p, row, a.States[at])
	}
}

// P14.1: patterns, their automata written out state by state, and what stands at their end.
func TestGiven(t *testing.T) {
	for _, c := range []struct {
		text   string
		window int
		after  []int
		states []api.State
	}{
		{"0a;1b{1,2} within 5", 5, nil, []api.State{state(0, 0, -1, ""), state(1, 1, 0, "l"), state(1, 2, 1, "l")}},
		{"0a within 0", 0, nil, []api.State{state(0, 0, -1, "l")}},
		{"5a within 1073741824", 1073741824, nil, []api.State{state(0, 0, -1, "l")}},
		{"0a{1,3} within 7", 7, nil, []api.State{state(0, 0, -1, "l"), state(0, 1, 0, "l"), state(0, 2, 1, "l")}},
		{"0a{2,3} within 7", 7, nil, []api.State{state(0, 0, -1, ""), state(0, 1, 0, "l"), state(0, 2, 1, "l")}},
		{"0a{3,3} within 7", 7, nil, []api.State{state(0, 0, -1, ""), state(0, 1, 0, ""), state(0, 2, 1, "l")}},
		{"0a;1b;2c;3d within 5", 5, nil, []api.State{state(0, 0, -1, ""), state(1, 1, 0, ""), state(2, 2, 1, ""), state(3, 3, 2, "l")}},
		{"0a,1b;2c,3d within 5", 5, nil, []api.State{state(0, 0, -1, ""), state(1, 1, 0, "s"), state(2, 2, 1, ""), state(3, 3, 2, "sl")}},
		// The first row is 0 1, and what it shares with the others comes once.
		{"0a{1,2};1b{1,2} within 5", 5, nil, []api.State{
			state(0, 0, -1, ""), state(1, 1, 0, "l"), state(1, 2, 1, "l"), state(0, 1, 0, ""), state(1, 2, 3, "l"), state(1, 3, 4, "l")}},
		{"0a{1,3};1b within 5", 5, nil, []api.State{
			state(0, 0, -1, ""), state(1, 1, 0, "l"), state(0, 1, 0, ""), state(1, 2, 2, "l"), state(0, 2, 2, ""), state(1, 3, 4, "l")}},
		{"0a;1b{1,2};2c within 5", 5, nil, []api.State{
			state(0, 0, -1, ""), state(1, 1, 0, ""), state(2, 2, 1, "l"), state(1, 2, 1, ""), state(2, 3, 3, "l")}},
		// Each time of a strict step is strict.
		{"0a,1b{1,3} within 5", 5, nil, []api.State{state(0, 0, -1, ""), state(1, 1, 0, "sl"), state(1, 2, 1, "sl"), state(1, 3, 2, "sl")}},
		{"0a{1,2},1b;2c within 5", 5, nil, []api.State{
			state(0, 0, -1, ""), state(1, 1, 0, "s"), state(2, 2, 1, "l"), state(0, 1, 0, ""), state(1, 2, 3, "s"), state(2, 3, 4, "l")}},
		{"0a;1b{1,2},2c within 5", 5, nil, []api.State{
			state(0, 0, -1, ""), state(1, 1, 0, ""), state(2, 2, 1, "sl"), state(1, 2, 1, ""), state(2, 3, 3, "sl")}},
		{"0a;!1b;2c within 5", 5, nil, []api.State{state(0, 0, -1, ""), state(2, 1, 0, "l", 1)}},
		{"0a;!1b within 5", 5, []int{1}, []api.State{state(0, 0, -1, "l")}},
		{"0a;!1b;!2c;!3d;!4e;!5f within 5", 5, []int{1, 2, 3, 4, 5}, []api.State{state(0, 0, -1, "l")}},
		{"0a;!1b;!2c;!3d;!4e;5f{2,3} within 5", 5, nil, []api.State{
			state(0, 0, -1, ""), state(5, 1, 0, "", 1, 2, 3, 4), state(5, 2, 1, "l"), state(5, 3, 2, "l")}},
		{"0a{1,2};!1b;2c{1,2};!3d within 5", 5, []int{3}, []api.State{
			state(0, 0, -1, ""), state(2, 1, 0, "l", 1), state(2, 2, 1, "l"), state(0, 1, 0, ""), state(2, 2, 3, "l", 1), state(2, 3, 4, "l")}},
		{"0a{1,2};!1b;2c;!3d;!4e within 5", 5, []int{3, 4}, []api.State{
			state(0, 0, -1, ""), state(2, 1, 0, "l", 1), state(0, 1, 0, ""), state(2, 2, 2, "l", 1)}},
		{"0a;!1b;2c;!3d;4e,5f within 5", 5, nil, []api.State{
			state(0, 0, -1, ""), state(2, 1, 0, "", 1), state(4, 2, 1, "", 3), state(5, 3, 2, "sl")}},
		{"0a,0b;!0c;!0d;0e{1,2};!0f within 5", 5, []int{5}, []api.State{
			state(0, 0, -1, ""), state(1, 1, 0, "s"), state(4, 2, 1, "l", 2, 3), state(4, 3, 2, "l")}},
		{"0a;!1b[t(b)>t(a)];2c{1,2}[x(c)>x(a)+3&d(a,c)!=0] within 5", 5, nil, []api.State{
			state(0, 0, -1, ""), state(2, 1, 0, "l", 1), state(2, 2, 1, "l")}},
	} {
		p := read(t, c.text)
		promised(t, p)
		a, e := New(p)
		want := api.Auto{States: c.states, After: c.after, Window: c.window}
		if e != 0 || !equal(a, want) || !Same(a, want) || !Same(want, a) {
			t.Errorf("New(%s): %v, %d, not %v", c.text, a, e, want)
		}
	}
}

// P14.2: of an automaton written out, each state's row and what stands behind it, all rows, and the first ones.
func TestWays(t *testing.T) {
	p := read(t, "0a{1,2};!1b;2c{1,2} within 5")
	a, e := New(p)
	if e != 0 || len(a.States) != 6 {
		t.Fatalf("%v, %d", a, e)
	}
	for at, c := range []struct{ row, next []int }{
		{[]int{0}, []int{1, 3}}, {[]int{0, 2}, []int{2}}, {[]int{0, 2, 2}, nil}, {[]int{0, 0}, []int{4}}, {[]int{0, 0, 2}, []int{5}}, {[]int{0, 0, 2, 2}, nil},
	} {
		if got := Row(a, at); !slices.Equal(got, c.row) {
			t.Errorf("Row(%d): %v, not %v", at, got, c.row)
		}
		if got := Next(a, at); !slices.Equal(got, c.next) {
			t.Errorf("Next(%d): %v, not %v", at, got, c.next)
		}
	}
	if got := Rows(a); !sameRows(got, [][]int{{0, 2}, {0, 2, 2}, {0, 0, 2}, {0, 0, 2, 2}}) {
		t.Errorf("Rows: %v", got)
	}
	if got := Next(a, -1); !slices.Equal(got, []int{0}) {
		t.Errorf("Next(-1): %v", got)
	}
	for _, at := range append([]int{6, 7, -1}, far...) {
		if got := Row(a, at); len(got) != 0 {
			t.Errorf("Row(%d): %v", at, got)
		}
		if got := Next(a, at); at != -1 && len(got) != 0 {
			t.Errorf("Next(%d): %v", at, got)
		}
	}
}

// P14.1: a pattern that may not be has no automaton.
func TestWrong(t *testing.T) {
	for _, p := range sample.Wrong() {
		if check.Right(p) {
			t.Fatalf("%.300v may be", p)
		}
		promised(t, p)
	}
}

// P14.1 to P14.3: all patterns that may be, as to how often steps come, each with all ways of steps that are strict.
func TestAll(t *testing.T) {
	count := 0
	for i, p := range sample.Shapes() {
		for strict := range 1 << (len(p.Steps) - 1) {
			one := tree.Own(p)
			one.Window = i << 20
			for at := range one.Steps {
				one.Steps[at].Kind = (i + at) % 6
				one.Steps[at].Strict = strict<<1>>at&1 == 1
			}
			if check.Right(one) {
				promised(t, one)
				count++
			}
		}
	}
	if count < 600 {
		t.Errorf("%d patterns", count)
	}
}

// P14.1: kinds of steps and what they ask make no difference.
func TestElse(t *testing.T) {
	for i, p := range sample.Shapes() {
		a, e := New(p)
		for at := range p.Steps {
			s := &p.Steps[at]
			s.Kind = (i + at) % 6
			for range (i + at) % 5 {
				s.Cmps = append(s.Cmps, api.Cmp{Op: 1, L: api.Term{Kind: 1, S: at}, R: api.Term{N: i}})
			}
		}
		if other, f := New(p); e != 0 || f != 0 || !equal(a, other) {
			t.Errorf("%v: %v, %d, not %v, %d", p, other, f, a, e)
		}
	}
}

// P14.1: which automata may be, made by hand.
func TestRight(t *testing.T) {
	for _, c := range []struct {
		may bool
		a   api.Auto
	}{
		{true, api.Auto{}},
		{true, api.Auto{States: []api.State{}, After: []int{}}},
		{true, api.Auto{States: make([]api.State, 0, 5), After: []int{-9, 7, 7}, Window: math.MinInt}},
		{true, auto(state(0, 0, -1, "l"))},
		{true, auto(state(5, 0, -1, ""))},
		{true, auto(state(5, 0, -1, "s", 9, -9, math.MaxInt))},
		{true, auto(state(3, 0, -1, ""), state(2, 0, -1, ""), state(2, 0, -1, ""))},
		{true, auto(state(3, 0, -1, ""), state(2, 1, 0, ""), state(2, 1, 0, ""))},
		{true, auto(state(3, 0, -1, ""), state(0, 1, 0, ""), state(5, 2, 1, ""), state(5, 3, 2, ""), state(1, 4, 3, ""), state(0, 5, 4, ""), state(1, 6, 5, ""))},
		{true, auto(state(3, 0, -1, ""), state(0, 1, 0, ""), state(5, 0, -1, ""), state(4, 1, 2, ""), state(4, 2, 1, ""), state(4, 1, 0, ""))},
		{false, auto(state(-1, 0, -1, ""))},
		{false, auto(state(6, 0, -1, ""))},
		{false, auto(state(1<<32, 0, -1, ""))},
		{false, auto(state(1<<62, 0, -1, ""))},
		{false, auto(state(math.MinInt, 0, -1, ""))},
		{false, auto(state(math.MaxInt, 0, -1, ""))},
		{false, auto(state(0, 1, -1, ""))},
		{false, auto(state(0, -1, -1, ""))},
		{false, auto(state(0, math.MinInt, -1, ""))},
		{false, auto(state(0, math.MaxInt, -1, ""))},
		{false, auto(state(0, 0, 0, ""))},
		{false, auto(state(0, 1, 0, ""))},
		{false, auto(state(0, 0, 1, ""))},
		{false, auto(state(0, 0, -2, ""))},
		{false, auto(state(0, -1, -2, ""))},
		{false, auto(state(0, 1, -2, ""))},
		{false, auto(state(0, 0, math.MinInt, ""))},
		{false, auto(state(0, 0, math.MaxInt, ""))},
		{false, auto(state(0, math.MinInt, math.MaxInt, ""))},
		{false, auto(state(0, 0, -1, ""), state(0, 0, 0, ""))},
		{false, auto(state(0, 0, -1, ""), state(0, 2, 0, ""))},
		{false, auto(state(0, 0, -1, ""), state(0, -1, 0, ""))},
		{false, auto(state(0, 0, -1, ""), state(0, 1, 1, ""))},
		{false, auto(state(0, 0, -1, ""), state(0, 2, 1, ""))},
		{false, auto(state(0, 0, -1, ""), state(0, 1, 2, ""))},
		{false, auto(state(0, 0, -1, ""), state(6, 1, 0, ""))},
		{false, auto(state(0, 0, -1, ""), state(-1, 1, 0, ""))},
		{false, auto(state(0, 0, -1, ""), state(0, 1, -1, ""))},
		{false, auto(state(0, 0, -1, ""), state(0, 1, -2, ""))},
		// The one ahead stands behind.
		{false, auto(state(0, 1, 1, ""), state(0, 0, -1, ""))},
		{false, auto(state(0, 0, 1, ""), state(0, 1, 0, ""))},
		{false, auto(state(0, 1, 1, ""), state(0, 0, 0, ""))},
		{false, auto(state(0, 0, -1, ""), state(0, 2, 2, ""), state(0, 1, 0, ""))},
		{false, auto(state(0, 0, -1, ""), state(0, 1, 0, ""), state(0, 2, 0, ""))},
		{false, auto(state(0, 0, -1, ""), state(0, 1, 0, ""), state(0, 1, 1, ""))},
		// What is wrong stands ahead of what is right.
		{false, auto(state(6, 0, -1, "l"), state(0, 0, -1, "l"))},
		{false, auto(state(0, math.MaxInt, -1, "l"), state(0, math.MinInt, 0, "l"))},
		{false, auto(state(0, -1, -1, "l"), state(0, 0, 0, "l"), state(0, 1, 1, "l"))},
	} {
		if Right(c.a) != c.may {
			t.Errorf("Right(%v): %v", c.a, Right(c.a))
		}
		promisedAuto(t, c.a)
		for _, other := range beside(c.a) {
			promisedAuto(t, other)
		}
		// Of one that may not be nothing is told.
		for at := -2; at < 5 && !c.may; at++ {
			if len(Row(c.a, at)) != 0 || len(Next(c.a, at)) != 0 {
				t.Errorf("of %v at %d: %v and %v", c.a, at, Row(c.a, at), Next(c.a, at))
			}
		}
	}
}

// P14.2: rows of automata made by hand: those of the states that are last, in order, which need be no pattern's.
func TestRows(t *testing.T) {
	for _, c := range []struct {
		a    api.Auto
		rows [][]int
	}{
		{api.Auto{}, nil},
		{auto(state(0, 0, -1, "")), nil},
		{auto(state(4, 0, -1, "l")), [][]int{{4}}},
		{auto(state(4, 0, -1, "l"), state(4, 0, -1, "l")), [][]int{{4}, {4}}},
		{auto(state(5, 0, -1, "l"), state(3, 1, 0, ""), state(1, 2, 1, "l"), state(0, 0, -1, "l")), [][]int{{5}, {5, 3, 1}, {0}}},
		{auto(state(5, 0, -1, ""), state(0, 0, -1, ""), state(3, 1, 1, "l"), state(3, 1, 0, "l"), state(4, 2, 2, "l")), [][]int{{0, 3}, {5, 3}, {0, 3, 4}}},
		{auto(state(1, 0, -1, "l"), state(1, 1, 0, "l"), state(1, 2, 1, "l"), state(1, 3, 2, "l"), state(1, 4, 3, "l"), state(1, 5, 4, "l")),
			[][]int{{1}, {1, 1}, {1, 1, 1}, {1, 1, 1, 1}, {1, 1, 1, 1, 1}, {1, 1, 1, 1, 1, 1}}},
		// One that may not be: the row of each state that is last is nothing.
		{auto(state(6, 0, -1, "l"), state(0, 0, -1, ""), state(0, 0, -1, "l")), [][]int{nil, nil}},
		{auto(state(0, 0, 1, "l"), state(0, 1, 0, "l")), [][]int{nil, nil}},
		{auto(state(0, math.MaxInt, -1, "l")), [][]int{nil}},
		{auto(state(0, 7, 7, "")), nil},
	} {
		if got := Rows(c.a); !sameRows(got, c.rows) {
			t.Errorf("Rows(%v): %v, not %v", c.a, got, c.rows)
		}
		promisedAuto(t, c.a)
	}
}

// P14.1: automata that differ in one thing are not the same, whichever comes first.
func TestSame(t *testing.T) {
	all := []api.Auto{{}, auto(), auto(state(0, 0, -1, "")), auto(state(2, 0, -1, "s", 1, 2), state(3, 1, 0, "l", 4), state(3, 1, 0, "l"))}
	for _, text := range []string{"0a within 5", "0a;1b{1,2} within 5", "0a{1,2};!1b;2c{1,2};!3d within 5", "0a,1b;!2c;!3d;4e within 5"} {
		a, _ := New(read(t, text))
		all = append(all, a)
	}
	for i, a := range all {
		for _, other := range beside(a) {
			if Same(a, other) || Same(other, a) {
				t.Errorf("%v and %v are the same", a, other)
			}
			if !Same(other, plain(other)) || !Same(plain(a), a) {
				t.Errorf("%v or %v is not the same as itself", a, other)
			}
		}
		for j, other := range all {
			if Same(a, other) != (i == j) {
				t.Errorf("Same(%v, %v): %v", a, other, i != j)
			}
		}
	}
	// Lists that are nothing, and such as are empty.
	none := api.Auto{States: []api.State{{}}, Window: 5}
	empty := api.Auto{States: []api.State{{Guards: make([]int, 0, 4)}}, After: []int{}, Window: 5}
	if !Same(none, empty) || !Same(empty, none) || !Same(api.Auto{}, api.Auto{States: []api.State{}, After: make([]int, 0, 3)}) {
		t.Errorf("%v and %v are not the same", none, empty)
	}
	// Guards and what stands at the end go one by one, in order.
	if Same(auto(state(0, 0, -1, "", 1, 2)), auto(state(0, 0, -1, "", 2, 1))) || Same(auto(state(0, 0, -1, "", 1)), auto(state(0, 0, -1, "", 1, 1))) {
		t.Error("guards in another order, or twice, are the same")
	}
	if Same(auto(state(0, 0, -1, "", 1), state(0, 0, -1, "", 2)), auto(state(0, 0, -1, "", 2), state(0, 0, -1, "", 1))) {
		t.Error("states in another order are the same")
	}
}

// P14.1, R4: an automaton in memory of its own, of one with room behind each of its lists, which stays as it is.
func TestOwn(t *testing.T) {
	guards := []int{1, 2, 3, 44, 45}
	after := []int{4, 5, 6, 77}
	states := []api.State{state(0, 0, -1, "s"), state(1, 1, 0, "l", 9), state(9, 9, 9, "sl", 9)}
	states[0].Guards = guards[:3]
	a := api.Auto{States: states[:2], After: after[:2], Window: 8}
	want := api.Auto{States: []api.State{state(0, 0, -1, "s", 1, 2, 3), state(1, 1, 0, "l", 9)}, After: []int{4, 5}, Window: 8}
	own := Own(a)
	if !equal(own, want) {
		t.Fatalf("%v", own)
	}
	spoilAuto(own)
	if !slices.Equal(guards, []int{1, 2, 3, 44, 45}) || !slices.Equal(after, []int{4, 5, 6, 77}) || !equal(api.Auto{States: states[2:]}, api.Auto{States: []api.State{state(9, 9, 9, "sl", 9)}}) {
		t.Errorf("%v, %v, %v", guards, after, states)
	}
	own = Own(a)
	guards[0], after[0], states[1] = 7, 7, state(7, 7, 7, "", 7)
	if !equal(own, want) {
		t.Errorf("%v", own)
	}
	// Of lists without anything, too, no room is shared.
	states, guards, after = make([]api.State, 1, 3), make([]int, 0, 3), make([]int, 0, 3)
	states[0].Guards = guards
	for _, a := range []api.Auto{{States: states, After: after}, {States: states[:0], After: after}} {
		own = Own(a)
		own.After = append(own.After, 9)
		for _, s := range append(own.States, state(9, 9, 9, "sl", 9)) {
			_ = append(s.Guards, 9)
		}
		if guards[:1][0] != 0 || after[:1][0] != 0 || states[:2][1].Step != 0 {
			t.Errorf("%v, %v, %v", guards[:1], after[:1], states[:2])
		}
	}
}

// R1, P14.1, P14.2: great automata end: a long way, many first ones, and each of them broken.
func TestGreat(t *testing.T) {
	const n = 100000
	long, wide := api.Auto{}, api.Auto{}
	for at := range n {
		long.States = append(long.States, state(at%6, at, at-1, ""))
		wide.States = append(wide.States, state(at%6, 0, -1, "l"))
	}
	long.States[n-1].Last = true
	if !Right(long) || !Right(wide) {
		t.Fatal("one may not be")
	}
	row := Row(long, n-1)
	if len(row) != n || row[0] != 0 || row[7] != 1 || row[n-1] != (n-1)%6 || !sameRows(Rows(long), [][]int{row}) {
		t.Errorf("%d steps, and %d rows", len(row), len(Rows(long)))
	}
	if rows := Rows(wide); len(rows) != n || !slices.Equal(rows[n-1], []int{(n - 1) % 6}) {
		t.Errorf("%d rows", len(rows))
	}
	if next := Next(wide, -1); len(next) != n || next[n-1] != n-1 {
		t.Errorf("%d first ones", len(next))
	}
	if next := Next(long, n-2); !slices.Equal(next, []int{n - 1}) || len(Next(long, n-1)) != 0 {
		t.Errorf("%v", next)
	}
	for _, a := range []api.Auto{long, wide} {
		a.States[n-1].Ahead = n - 1
		if Right(a) || len(Row(a, 0)) != 0 || len(Row(a, n-1)) != 0 || len(Next(a, -1)) != 0 {
			t.Error("a broken one may be")
		}
		if rows := Rows(a); len(rows) == 0 || len(rows[0]) != 0 || len(rows[len(rows)-1]) != 0 {
			t.Errorf("%d rows", len(rows))
		}
		if !Same(a, Own(a)) {
			t.Error("not the same")
		}
	}
}

// P14.1, P14.2: all automata of up to two states that have numbers about the edges.
func TestSmall(t *testing.T) {
	var all []api.State
	for _, step := range []int{-1, 0, 5, 6} {
		for _, place := range []int{-1, 0, 1, 2} {
			for ahead := -2; ahead < 3; ahead++ {
				all = append(all, state(step, place, ahead, ""), state(step, place, ahead, "l"))
			}
		}
	}
	may := 0
	for _, one := range all {
		promisedAuto(t, auto(one))
		for _, other := range all {
			a := auto(one, other)
			right := rightByWords(a)
			var rows [][]int
			for at := range a.States {
				row := rowByWords(a, at)
				if !slices.Equal(Row(a, at), row) {
					t.Fatalf("Row(%v, %d): %v", a, at, Row(a, at))
				}
				if a.States[at].Last {
					rows = append(rows, row)
				}
			}
			if Right(a) != right || !sameRows(Rows(a), rows) {
				t.Fatalf("%v: %v, %v", a, Right(a), Rows(a))
			}
			may += len(Next(a, -1))
			if right {
				promisedAuto(t, a)
			}
		}
	}
	// Of the first state there are four that may be, of the second eight, half of them behind it.
	if may != 4*4*2+4*4*1 {
		t.Errorf("%d first ones", may)
	}
}

// P14.1 to P14.3: patterns and automata made of numbers.
func TestMade(t *testing.T) {
	seed := uint64(14)
	next := func(n int) int {
		seed = seed*6364136223846793005 + 1442695040888963407
		return int(seed>>33) % n
	}
	patterns, automata := 0, 0
	for range 5000 {
		data := make([]byte, 1+next(20))
		for i := range data {
			data[i] = byte(next(256))
		}
		p := madePattern(data)
		patterns += min(1, len(promised(t, p).States))
		a := madeAuto(data)
		promisedAuto(t, a)
		if Right(a) {
			automata++
		}
		b := madeAuto(data[:len(data)-1])
		if Same(a, b) != equal(a, b) {
			t.Fatalf("Same(%v, %v): %v", a, b, Same(a, b))
		}
	}
	if patterns < 500 || patterns > 4500 || automata < 1000 || automata > 4500 {
		t.Errorf("%d patterns may be, %d automata", patterns, automata)
	}
}

// madePattern is a pattern of up to seven steps, made of bytes.
func madePattern(data []byte) api.Pattern {
	if len(data) == 0 {
		return api.Pattern{}
	}
	p := api.Pattern{Window: int(data[0])}
	for i, b := range data[1:min(len(data), 8)] {
		// Most are such as may be: rarely another step comes.
		s := sample.Times(1, 1)
		switch b >> 3 % 16 {
		case 0, 1, 2, 3, 4, 5, 6:
			s = sample.Not()
		case 7, 8:
			s = sample.Times(1, 2)
		case 9:
			s = sample.Times(1+int(b)%3, 3)
		case 10, 11:
			s.Strict = true
		}
		s.Kind = int(b % 7)
		if b%64 != 6 {
			s.Kind %= 6
		}
		s.Not = s.Not && i > 0
		p.Steps = append(p.Steps, s)
	}
	return p
}

// madeAuto is an automaton of up to twenty states, made of bytes: most of them may be.
func madeAuto(data []byte) api.Auto {
	var a api.Auto
	for at, b := range data {
		s := api.State{Step: int(b % 6), Ahead: int(b)%(at+1) - 1, Strict: b&8 > 0, Last: b&16 > 0}
		if s.Ahead >= 0 {
			s.Place = a.States[s.Ahead].Place + 1
		}
		switch b {
		case 250:
			s.Step = 6
		case 251:
			s.Place++
		case 252:
			s.Ahead = at
		case 253:
			s.Ahead--
		case 254:
			s.Place--
		case 255:
			s.Ahead, s.Place = at+1, at+2
		}
		for i := range int(b>>5) % 3 {
			s.Guards = append(s.Guards, i)
		}
		a.States = append(a.States, s)
		a.Window = int(b)
		a.After = append(a.After[:len(a.After)/2], int(b))
	}
	return a
}

func FuzzPattern(f *testing.F) {
	f.Add([]byte{5, 100, 0, 100})
	f.Add([]byte{5, 57, 0, 57, 0})
	f.Fuzz(func(t *testing.T, data []byte) { promised(t, madePattern(data)) })
}

func FuzzAuto(f *testing.F) {
	f.Add([]byte{16, 17, 18, 19}, []byte{16, 17, 18, 19})
	f.Add([]byte{0, 252, 255, 1}, []byte{250, 251, 253, 254})
	f.Fuzz(func(t *testing.T, one, other []byte) {
		a, b := madeAuto(one[:min(len(one), 20)]), madeAuto(other[:min(len(other), 20)])
		promisedAuto(t, a)
		if Same(a, b) != equal(a, b) {
			t.Fatalf("Same(%v, %v): %v", a, b, Same(a, b))
		}
	})
}

func FuzzText(f *testing.F) {
	for _, text := range []string{"0a;1b{1,2} within 5", "0a;!1b;2c within 5", "0a{1,2};!1b;2c{1,2};!3d within 5", "!0a within 5", "0a,1b{1,3} within 7"} {
		f.Add(text)
	}
	f.Fuzz(func(t *testing.T, text string) {
		if p, _, e := parse.Parse(text); e == 0 {
			promised(t, p)
		}
	})
}
