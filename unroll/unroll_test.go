package unroll

import (
	"math"
	"reflect"
	"slices"
	"testing"

	"straggle/api"
	"straggle/check"
	"straggle/parse"
	"straggle/sample"
	"straggle/tree"
)

// far are numbers that are no step's and no place's of any pattern that may be.
var far = []int{-1, -2, -6, 6, 7, 26, 255, 256, 1 << 20, 1 << 32, 1<<32 + 1, 1 << 62, -1 << 62, math.MinInt, math.MinInt + 1, math.MaxInt, math.MaxInt - 1}

// read is a pattern out of its text.
func read(t *testing.T, text string) api.Pattern {
	t.Helper()
	p, at, e := parse.Parse(text)
	if e != 0 {
		t.Fatalf("%q: %d at %d", text, e, at)
	}
	return p
}

// byWords are the rows of a pattern by the chapter's words: how often each step comes is counted up like one number's digits, the first step's ahead.
func byWords(p api.Pattern) [][]int {
	var rows [][]int
	if !check.Right(p) {
		return nil
	}
	all := 1
	for range p.Steps {
		all *= 4
	}
	for number := range all {
		var row []int
		is := true
		for step, s := range p.Steps {
			digit := number
			for range len(p.Steps) - 1 - step {
				digit /= 4
			}
			digit %= 4
			if s.Not {
				is = is && digit == 0
			} else {
				is = is && digit >= s.Min && digit <= s.Max
			}
			for range digit {
				row = append(row, step)
			}
		}
		if is {
			rows = append(rows, row)
		}
	}
	return rows
}

// among tells whether a row is one of these.
func among(rows [][]int, row []int) bool {
	for _, one := range rows {
		if slices.Equal(one, row) {
			return true
		}
	}
	return false
}

// guardsByWords are the negative steps between a place of a row and the place ahead, by the chapter's words.
func guardsByWords(p api.Pattern, rows [][]int, row []int, place int) []int {
	var l []int
	if !among(rows, row) || place < 1 || place >= len(row) {
		return nil
	}
	for step, s := range p.Steps {
		if s.Not && step > row[place-1] && step < row[place] {
			l = append(l, step)
		}
	}
	return l
}

// afterByWords are the negative steps behind the last positive one, by the chapter's words.
func afterByWords(p api.Pattern) []int {
	var l []int
	if !check.Right(p) {
		return nil
	}
	for step, s := range p.Steps {
		if l = append(l, step); !s.Not {
			l = nil
		}
	}
	return l
}

// promised holds what is told of a pattern against what is promised of all of them: P13.1 and P13.2 by the chapter's words, P13.3, R3, R4.
func promised(t *testing.T, p api.Pattern) [][]int {
	t.Helper()
	was := tree.Own(p)
	rows := byWords(p)
	if got := Rows(p); !same(got, rows) {
		t.Fatalf("Rows(%.300v): %v, by the words %v", p, got, rows)
	}
	if Many(p) != len(rows) {
		t.Fatalf("Many(%.300v): %d, not %d", p, Many(p), len(rows))
	}
	if got := After(p); !slices.Equal(got, afterByWords(p)) {
		t.Fatalf("After(%.300v): %v, by the words %v", p, got, afterByWords(p))
	}
	if check.Right(p) != (len(rows) > 0) {
		t.Fatalf("%.300v has the rows %v", p, rows)
	}
	promisedRow(t, p, rows, nil)
	promisedRow(t, p, rows, []int{0})
	for _, row := range rows {
		promisedRow(t, p, rows, row)
		follows(t, p, row)
		for _, near := range beside(row) {
			promisedRow(t, p, rows, near)
		}
	}
	owned(t, p, rows)
	if !reflect.DeepEqual(tree.Own(p), was) {
		t.Fatalf("%.300v was %.300v", p, was)
	}
	return rows
}

// same tells whether both lists have the same rows in the same order.
func same(a, b [][]int) bool { return slices.EqualFunc(a, b, slices.Equal) }

// promisedRow holds what is told of a pattern and a row, and of each place of it, against the chapter's words.
func promisedRow(t *testing.T, p api.Pattern, rows [][]int, row []int) {
	t.Helper()
	// With room behind it, which stays as it is too.
	room := append(append([]int{-7}, row...), -8, -9)
	row = room[1 : len(room)-2]
	was := slices.Clone(room)
	if Is(p, row) != among(rows, row) || Is(p, row) != among(rows, row) {
		t.Fatalf("Is(%.300v, %v): %v", p, row, Is(p, row))
	}
	for place := -3; place < len(row)+3; place++ {
		promisedGuards(t, p, rows, row, place)
	}
	for _, place := range []int{-1 << 32, 1 << 32, 1<<32 + 1, math.MinInt, math.MinInt + 1, math.MaxInt} {
		promisedGuards(t, p, rows, row, place)
	}
	if !slices.Equal(room, was) {
		t.Fatalf("%.300v: a row was %v, then %v", p, was, room)
	}
}

// promisedGuards holds what guards a place against the chapter's words, and tells it twice, something else being written into it between.
func promisedGuards(t *testing.T, p api.Pattern, rows [][]int, row []int, place int) {
	t.Helper()
	want := guardsByWords(p, rows, row, place)
	for range 2 {
		got := Guards(p, row, place)
		if !slices.Equal(got, want) {
			t.Fatalf("Guards(%.300v, %v, %d): %v, not %v", p, row, place, got, want)
		}
		spoil(got)
	}
}

// follows holds a row against what follows: P13.3.
func follows(t *testing.T, p api.Pattern, row []int) {
	t.Helper()
	if len(row) < 1 || len(row) > 4 || !slices.IsSorted(row) {
		t.Fatalf("%.300v has the row %v", p, row)
	}
	stands := map[int]int{}
	for place := range row {
		for _, step := range Guards(p, row, place) {
			stands[step]++
		}
	}
	for _, step := range After(p) {
		stands[step]++
	}
	for step, s := range p.Steps {
		if s.Not && stands[step] != 1 || !s.Not && stands[step] != 0 {
			t.Fatalf("%.300v: in the row %v step %d stands %d times", p, row, step, stands[step])
		}
	}
}

// owned holds what is told against R4: whatever is written into one list, the others and what is told later stay.
func owned(t *testing.T, p api.Pattern, rows [][]int) {
	t.Helper()
	got, after := Rows(p), After(p)
	for i := range got {
		spoil(got[i])
		if other := Rows(p); !same(other, rows) || !same(got[i+1:], rows[i+1:]) {
			t.Fatalf("Rows(%.300v): %v and %v, when one was written into", p, other, got)
		}
	}
	clear(got[:cap(got)])
	spoil(after)
	if !same(Rows(p), rows) || !slices.Equal(After(p), afterByWords(p)) {
		t.Fatalf("%.300v: then %v and %v", p, Rows(p), After(p))
	}
}

// spoil writes into a list, and into the room behind it.
func spoil(l []int) {
	for i := range l[:cap(l)] {
		l[:cap(l)][i] = -77
	}
}

// beside are rows that differ from one by a little: a number changed, one more, one fewer, two numbers turned about, all of it twice and backwards.
func beside(row []int) [][]int {
	var l [][]int
	for at := range len(row) + 1 {
		for n := -2; n < 8; n++ {
			l = append(l, slices.Insert(slices.Clone(row), at, n))
			if at < len(row) {
				changed := slices.Clone(row)
				changed[at] = n
				l = append(l, changed)
			}
		}
		if at < len(row) {
			l = append(l, slices.Delete(slices.Clone(row), at, at+1), row[:at], row[at:])
			for _, n := range far {
				changed := slices.Clone(row)
				changed[at] = n
				l = append(l, changed)
			}
		}
		for other := range min(at, len(row)-1) {
			turned := slices.Clone(row)
			turned[other], turned[other+1] = turned[other+1], turned[other]
			l = append(l, turned)
		}
	}
	backwards := slices.Clone(row)
	slices.Reverse(backwards)
	return append(l, backwards, slices.Concat(row, row))
}

// P13.1, P13.2: patterns written out, their rows, what guards each place of their last row, and what stands at their end.
func TestGiven(t *testing.T) {
	for _, c := range []struct {
		text   string
		rows   [][]int
		guards [][]int
		after  []int
	}{
		{"0a;1b{1,2} within 5", [][]int{{0, 1}, {0, 1, 1}}, [][]int{{}, {}, {}}, nil},
		{"0a;!1b;2c within 5", [][]int{{0, 2}}, [][]int{{}, {1}}, nil},
		{"0a within 5", [][]int{{0}}, [][]int{{}}, nil},
		{"5a within 1073741824", [][]int{{0}}, [][]int{{}}, nil},
		{"0a{1,3} within 0", [][]int{{0}, {0, 0}, {0, 0, 0}}, [][]int{{}, {}, {}}, nil},
		{"0a{2,3} within 5", [][]int{{0, 0}, {0, 0, 0}}, [][]int{{}, {}, {}}, nil},
		{"0a{2,2} within 5", [][]int{{0, 0}}, [][]int{{}, {}}, nil},
		{"0a{3,3} within 5", [][]int{{0, 0, 0}}, [][]int{{}, {}, {}}, nil},
		{"0a,1b,2c,3d within 5", [][]int{{0, 1, 2, 3}}, [][]int{{}, {}, {}, {}}, nil},
		{"0a{1,2};1b{1,2} within 5", [][]int{{0, 1}, {0, 1, 1}, {0, 0, 1}, {0, 0, 1, 1}}, [][]int{{}, {}, {}, {}}, nil},
		{"0a{1,2},0b{1,2} within 5", [][]int{{0, 1}, {0, 1, 1}, {0, 0, 1}, {0, 0, 1, 1}}, [][]int{{}, {}, {}, {}}, nil},
		{"0a{1,2};1b;2c within 5", [][]int{{0, 1, 2}, {0, 0, 1, 2}}, [][]int{{}, {}, {}, {}}, nil},
		{"0a;1b;2c{1,2} within 5", [][]int{{0, 1, 2}, {0, 1, 2, 2}}, [][]int{{}, {}, {}, {}}, nil},
		{"0a;1b{1,3} within 5", [][]int{{0, 1}, {0, 1, 1}, {0, 1, 1, 1}}, [][]int{{}, {}, {}, {}}, nil},
		{"0a{1,3};1b within 5", [][]int{{0, 1}, {0, 0, 1}, {0, 0, 0, 1}}, [][]int{{}, {}, {}, {}}, nil},
		{"0a;!1b within 5", [][]int{{0}}, [][]int{{}}, []int{1}},
		{"0a;!1b;!2c;!3d;!4e;!5f within 5", [][]int{{0}}, [][]int{{}}, []int{1, 2, 3, 4, 5}},
		{"0a{1,2};!1b;2c{1,2};!3d within 5", [][]int{{0, 2}, {0, 2, 2}, {0, 0, 2}, {0, 0, 2, 2}}, [][]int{{}, {}, {1}, {}}, []int{3}},
		{"0a;!1b;!2c;3d{1,3};!4e;!5f within 5", [][]int{{0, 3}, {0, 3, 3}, {0, 3, 3, 3}}, [][]int{{}, {1, 2}, {}, {}}, []int{4, 5}},
		{"0a;!1b;!2c;!3d;!4e;5f{2,3} within 5", [][]int{{0, 5, 5}, {0, 5, 5, 5}}, [][]int{{}, {1, 2, 3, 4}, {}, {}}, nil},
		{"0a;!1b;0c;!1d;0e;0f within 5", [][]int{{0, 2, 4, 5}}, [][]int{{}, {1}, {3}, {}}, nil},
		{"0a{1,2};0b;!1c;!2d;0e;!3f within 5", [][]int{{0, 1, 4}, {0, 0, 1, 4}}, [][]int{{}, {}, {}, {2, 3}}, []int{5}},
		{"0a;!1b[t(b)>t(a)];2c{1,2}[x(c)>x(a)+3&d(a,c)!=0] within 5", [][]int{{0, 2}, {0, 2, 2}}, [][]int{{}, {1}, {}}, nil},
	} {
		p := read(t, c.text)
		if got := promised(t, p); !same(got, c.rows) {
			t.Errorf("%s: rows %v", c.text, got)
		}
		if got := Rows(p); !same(got, c.rows) {
			t.Errorf("Rows(%s): %v, not %v", c.text, got, c.rows)
		}
		if got := Many(p); got != len(c.rows) {
			t.Errorf("Many(%s): %d", c.text, got)
		}
		last := c.rows[len(c.rows)-1]
		for place, want := range c.guards {
			if got := Guards(p, last, place); !slices.Equal(got, want) {
				t.Errorf("Guards(%s, %v, %d): %v, not %v", c.text, last, place, got, want)
			}
		}
		if got := After(p); !slices.Equal(got, c.after) {
			t.Errorf("After(%s): %v, not %v", c.text, got, c.after)
		}
		for _, row := range c.rows {
			if !Is(p, row) {
				t.Errorf("Is(%s, %v): false", c.text, row)
			}
		}
	}
}

// P13.1: rows of a pattern's text that are none.
func TestNone(t *testing.T) {
	for text, rows := range map[string][][]int{
		"0a within 5":                      {nil, {}, {1}, {-1}, {0, 0}, {0, 1}, {26}, {1 << 32}},
		"0a;1b{1,2} within 5":              {nil, {0}, {1}, {1, 1}, {0, 0}, {1, 0}, {0, 0, 1}, {0, 1, 0}, {1, 0, 1}, {0, 1, 1, 1}, {0, 1, 2}, {0, 1, 1, 0}, {-1, 0, 1}},
		"0a;!1b;2c within 5":               {nil, {0}, {2}, {0, 1}, {1, 2}, {0, 1, 2}, {2, 0}, {0, 0, 2}, {0, 2, 2}, {0, 2, 1}, {0, 3}, {0, 2, 3}},
		"0a;!1b within 5":                  {nil, {1}, {0, 1}, {1, 0}, {0, 0}},
		"0a{2,3} within 5":                 {nil, {0}, {0, 0, 0, 0}, {0, 0, 0, 0, 0}, {0, 1}, {0, 0, 1}},
		"0a{1,2};1b{1,2} within 5":         {nil, {0}, {0, 0}, {1}, {0, 0, 0, 1}, {0, 1, 1, 1}, {0, 0, 0, 1, 1}, {0, 1, 0, 1}, {1, 1, 0, 0}},
		"0a;!1b;!2c;3d{1,3};!4e within 50": {{0}, {3}, {0, 1, 2, 3}, {0, 2, 3}, {0, 3, 4}, {0, 3, 3, 3, 3}, {3, 3, 3}, {0, 0, 3}},
	} {
		p := read(t, text)
		all := promised(t, p)
		for _, row := range rows {
			if Is(p, row) || among(all, row) {
				t.Errorf("Is(%s, %v): true", text, row)
			}
			for place := -1; place < 6; place++ {
				if got := Guards(p, row, place); len(got) != 0 {
					t.Errorf("Guards(%s, %v, %d): %v", text, row, place, got)
				}
			}
			promisedRow(t, p, all, row)
		}
	}
}

// P13.1, P13.2: a pattern that may not be has no row, and nothing guards or stands at the end, whatever row comes beside it.
func TestWrong(t *testing.T) {
	for _, p := range sample.Wrong() {
		if check.Right(p) {
			t.Fatalf("%.300v may be", p)
		}
		if len(Rows(p)) != 0 || Many(p) != 0 || len(After(p)) != 0 {
			t.Errorf("%.300v: %v, %d, %v", p, Rows(p), Many(p), After(p))
		}
		for _, row := range [][]int{nil, {}, {0}, {1}, {-1}, {0, 0}, {0, 1}, {0, 2}, {1, 2}, {0, 1, 2}, {0, 1, 2, 3}, {0, 1, 2, 3, 4}, {0, 0, 0, 1}, {0, 0, 0, 0}, {0, 0, 1, 1}, {0, 1, 1}, {0, 0, 1}, far} {
			if Is(p, row) {
				t.Errorf("Is(%.300v, %v): true", p, row)
			}
			for place := -2; place < 7; place++ {
				if got := Guards(p, row, place); len(got) != 0 {
					t.Errorf("Guards(%.300v, %v, %d): %v", p, row, place, got)
				}
			}
		}
		if len(p.Steps) <= 6 {
			promised(t, p)
		}
	}
}

// P13.1 to P13.3: all patterns that may be, as to how often steps come, and all rows of up to five numbers from -1 to one beyond their steps.
func TestAll(t *testing.T) {
	for _, p := range sample.Shapes() {
		rows := promised(t, p)
		found := 0
		n := len(p.Steps) + 2
		for length := range 6 {
			size := 1
			for range length {
				size *= n
			}
			// Of the longest ones each seventh, because none of them is one.
			skip := 1
			if length == 5 {
				skip = 7
			}
			for number := 0; number < size; number += skip {
				row := make([]int, length)
				left := number
				for at := range row {
					row[at] = left%n - 1
					left /= n
				}
				got := Is(p, row)
				if got {
					found++
				}
				if got != among(rows, row) {
					t.Fatalf("Is(%v, %v): %v", p, row, got)
				}
			}
		}
		if found != len(rows) {
			t.Fatalf("%v: %d rows, not %d", p, found, len(rows))
		}
	}
}

// P13.1, P13.2: how often steps come tells all; their kinds, whether they are strict, what they ask and the window make no difference.
func TestElse(t *testing.T) {
	for i, p := range sample.Shapes() {
		rows, after := Rows(p), After(p)
		p.Window = i << 20
		for at := range p.Steps {
			s := &p.Steps[at]
			s.Kind = (i + at) % 6
			s.Strict = at > 0 && !s.Not && !p.Steps[at-1].Not
			for range (i + at) % 5 {
				s.Cmps = append(s.Cmps, api.Cmp{Op: 1, L: api.Term{Kind: 1, S: at}, R: api.Term{N: i}})
			}
		}
		if !check.Right(p) {
			t.Fatalf("%v may not be", p)
		}
		if !same(promised(t, p), rows) || !slices.Equal(After(p), after) {
			t.Errorf("%v: %v, not %v", p, Rows(p), rows)
		}
	}
}

// P13.1, R1: long rows.
func TestLong(t *testing.T) {
	p := read(t, "0a{1,3};!1b within 5")
	for _, n := range []int{4, 5, 100, 1000000} {
		row := make([]int, n)
		if Is(p, row) || len(Guards(p, row, 1)) != 0 || len(Guards(p, row, n-1)) != 0 {
			t.Errorf("%d times step 0 is a row", n)
		}
		row[n-1] = 1
		if Is(p, row) || len(Guards(p, row, n-1)) != 0 {
			t.Errorf("%d times step 0 and a negative one is a row", n)
		}
	}
}

// P13.1 to P13.3: patterns and rows made of numbers.
func TestMade(t *testing.T) {
	seed := uint64(13)
	next := func(n int) int {
		seed = seed*6364136223846793005 + 1442695040888963407
		return int(seed>>33) % n
	}
	right := 0
	for range 6000 {
		data := make([]byte, 2+next(14))
		for i := range data {
			data[i] = byte(next(256))
		}
		p, row := made(data)
		rows := promised(t, p)
		promisedRow(t, p, rows, row)
		right += min(len(rows), 1)
	}
	if right < 1000 || right > 5000 {
		t.Errorf("%d patterns may be", right)
	}
}

// made is a pattern of up to seven steps, and a row, made of bytes.
func made(data []byte) (api.Pattern, []int) {
	if len(data) < 2 {
		return api.Pattern{}, nil
	}
	p := api.Pattern{Window: int(data[0])}
	n := int(data[1]) % 8
	data = data[2:]
	for i := range min(n, len(data)) {
		b := data[i]
		// Most are such as may be: rarely another step comes.
		s := sample.Times(1, 1)
		switch b >> 3 % 16 {
		case 0, 1, 2, 3, 4:
			s = sample.Not()
		case 5, 6:
			s = sample.Times(1, 2)
		case 7:
			s = sample.Times(int(b)%5, 3)
		case 8:
			s = sample.Times(2, 2)
		case 9:
			s.Strict = true
		case 10:
			s.Cmps = []api.Cmp{{Op: 1 + b%7, L: api.Term{Kind: 1, S: int(b) % 3}}}
		}
		s.Kind = int(b % 7)
		if b%64 != 6 {
			s.Kind %= 6
		}
		s.Not = s.Not && i > 0 || b%128 == 9
		p.Steps = append(p.Steps, s)
	}
	var row []int
	for _, b := range data[min(n, len(data)):] {
		row = append(row, int(int8(b))/16)
	}
	return p, row
}

func FuzzRows(f *testing.F) {
	f.Add([]byte{5, 2, 100, 40, 0, 16})
	f.Add([]byte{5, 3, 100, 0, 100, 0, 32})
	f.Add([]byte{5, 6, 100, 0, 100, 0, 100, 0, 0, 32, 64})
	f.Fuzz(func(t *testing.T, data []byte) {
		p, row := made(data)
		promisedRow(t, p, promised(t, p), row)
	})
}

func FuzzText(f *testing.F) {
	for _, text := range []string{"0a;1b{1,2} within 5", "0a;!1b;2c within 5", "0a{1,2};!1b;2c{1,2};!3d within 5", "!0a within 5", "0a{0,9};6b within 7"} {
		f.Add(text)
	}
	f.Fuzz(func(t *testing.T, text string) {
		p, _, e := parse.Parse(text)
		if e != 0 || len(p.Steps) > 6 {
			return
		}
		promised(t, p)
	})
}
