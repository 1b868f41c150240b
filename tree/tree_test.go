package tree

import (
	"math"
	"slices"
	"strconv"
	"testing"

	"straggle/api"
)

const (
	most  = math.MaxInt
	least = math.MinInt
	top   = 1 << 40
)

// slot is one number of a pattern: where it stands, and from which to which it may be.
type slot struct {
	name       string
	of         func(p *api.Pattern) *int
	from, upTo int
}

// small is one number of a pattern that has but a byte: where it stands, and from which to which it may be.
type small struct {
	name       string
	of         func(p *api.Pattern) *uint8
	from, upTo uint8
}

// flag is one of a pattern that is or is not.
type flag struct {
	name string
	of   func(p *api.Pattern) *bool
}

// tops are, by kinds of terms, the greatest that S and R may be.
var tops = [7][2]int{{0, 0}, {25, 0}, {25, 0}, {25, 0}, {25, 0}, {25, 25}, {25, 25}}

// sample is a pattern that may be written, with these terms at the left and the right of each comparison but the ones between.
func sample(l, r api.Term) api.Pattern {
	between := api.Cmp{Op: 2, L: api.Term{Kind: 1, N: 4, S: 2}, R: api.Term{Kind: 5, S: 1, R: 3}}
	return api.Pattern{Window: 60, Steps: []api.Step{
		{Kind: 3, Min: 1, Max: 2, Cmps: []api.Cmp{{Op: 1, L: l, R: r}, between, {Op: 6, L: r, R: l}}},
		{Not: true, Kind: 1, Min: 1, Max: 1},
		{Kind: 2, Min: 1, Max: 1, Strict: true, Cmps: []api.Cmp{between}},
		{Kind: 1, Min: 2, Max: 3, Cmps: []api.Cmp{{Op: 3, L: l, R: r}, {Op: 4, L: r, R: l}}},
	}}
}

// samples are patterns with terms of each two kinds.
func samples() []api.Pattern {
	var l []api.Pattern
	for a := range tops {
		for b := range tops {
			l = append(l, sample(rightTermOf(uint8(a), 7), rightTermOf(uint8(b), -9)))
		}
	}
	return l
}

// rightTermOf is a term of that kind that may be written.
func rightTermOf(kind uint8, n int) api.Term {
	return api.Term{Kind: kind, N: n, S: min(3, tops[kind][0]), R: min(2, tops[kind][1])}
}

// deep is a pattern in memory of its own, by other ways than Own's.
func deep(p api.Pattern) api.Pattern {
	q := api.Pattern{Window: p.Window}
	for _, s := range p.Steps {
		t := s
		t.Cmps = nil
		for _, c := range s.Cmps {
			t.Cmps = append(t.Cmps, c)
		}
		q.Steps = append(q.Steps, t)
	}
	return q
}

// written tells all of a pattern as a text.
func written(p api.Pattern) string {
	b := strconv.AppendInt(nil, int64(p.Window), 10)
	put := func(l ...int) {
		for _, n := range l {
			b = strconv.AppendInt(append(b, ' '), int64(n), 10)
		}
	}
	for _, s := range p.Steps {
		b = append(b, ';')
		b = strconv.AppendBool(strconv.AppendBool(b, s.Not), s.Strict)
		put(s.Kind, s.Min, s.Max)
		for _, c := range s.Cmps {
			b = append(b, '&')
			put(int(c.Op), int(c.L.Kind), c.L.N, c.L.S, c.L.R, int(c.R.Kind), c.R.N, c.R.S, c.R.R)
		}
	}
	return string(b)
}

// slots are all numbers of a pattern, those of a byte left out.
func slots(p api.Pattern) []slot {
	l := []slot{{"Window", func(p *api.Pattern) *int { return &p.Window }, 0, top}}
	for i, s := range p.Steps {
		name := "step " + strconv.Itoa(i) + " "
		l = append(l,
			slot{name + "Kind", func(p *api.Pattern) *int { return &p.Steps[i].Kind }, 0, top},
			slot{name + "Min", func(p *api.Pattern) *int { return &p.Steps[i].Min }, 0, top},
			slot{name + "Max", func(p *api.Pattern) *int { return &p.Steps[i].Max }, 0, top})
		for j := range s.Cmps {
			for side, of := range sidesOf(i, j) {
				name := name + "comparison " + strconv.Itoa(j) + " " + side + " "
				tops := tops[min(of(&p).Kind, 6)]
				l = append(l,
					slot{name + "N", func(p *api.Pattern) *int { return &of(p).N }, -top, top},
					slot{name + "S", func(p *api.Pattern) *int { return &of(p).S }, 0, tops[0]},
					slot{name + "R", func(p *api.Pattern) *int { return &of(p).R }, 0, tops[1]})
			}
		}
	}
	return l
}

// sidesOf are both terms of a comparison.
func sidesOf(i, j int) map[string]func(p *api.Pattern) *api.Term {
	return map[string]func(p *api.Pattern) *api.Term{
		"L": func(p *api.Pattern) *api.Term { return &p.Steps[i].Cmps[j].L },
		"R": func(p *api.Pattern) *api.Term { return &p.Steps[i].Cmps[j].R },
	}
}

// smalls are all numbers of a pattern that have but a byte.
func smalls(p api.Pattern) []small {
	var l []small
	for i, s := range p.Steps {
		for j := range s.Cmps {
			name := "step " + strconv.Itoa(i) + " comparison " + strconv.Itoa(j) + " "
			l = append(l, small{name + "Op", func(p *api.Pattern) *uint8 { return &p.Steps[i].Cmps[j].Op }, 1, 6})
			for side, of := range sidesOf(i, j) {
				l = append(l, small{name + side + " Kind", func(p *api.Pattern) *uint8 { return &of(p).Kind }, 0, 6})
			}
		}
	}
	return l
}

// flags are all of a pattern that is or is not.
func flags(p api.Pattern) []flag {
	var l []flag
	for i := range p.Steps {
		name := "step " + strconv.Itoa(i) + " "
		l = append(l,
			flag{name + "Not", func(p *api.Pattern) *bool { return &p.Steps[i].Not }},
			flag{name + "Strict", func(p *api.Pattern) *bool { return &p.Steps[i].Strict }})
	}
	return l
}

// right holds Right against what is wanted.
func right(t *testing.T, what string, p api.Pattern, want bool) {
	t.Helper()
	if Right(p) != want || byWords(p) != want {
		t.Errorf("Right, %s: %v; by the words %v; not %v: %s", what, Right(p), byWords(p), want, written(p))
	}
}

// byWords is what the chapter's words say of whether a pattern may be written.
func byWords(p api.Pattern) bool {
	if n := len(p.Steps); n < 1 || n > 26 {
		return false
	}
	for _, s := range slots(p) {
		if n := *s.of(&p); n < s.from || n > s.upTo {
			return false
		}
	}
	for _, s := range smalls(p) {
		if n := *s.of(&p); n < s.from || n > s.upTo {
			return false
		}
	}
	return true
}

// P8.1: how many steps there are.
func TestRightSteps(t *testing.T) {
	one := api.Step{Kind: 1, Min: 1, Max: 1}
	right(t, "nothing", api.Pattern{}, false)
	right(t, "a window alone", api.Pattern{Window: 5}, false)
	right(t, "no step", api.Pattern{Window: 5, Steps: []api.Step{}}, false)
	right(t, "no step, with spare room", api.Pattern{Window: 5, Steps: make([]api.Step, 0, 9)}, false)
	for n := 1; n <= 120; n++ {
		right(t, strconv.Itoa(n)+" steps", api.Pattern{Window: 5, Steps: slices.Repeat([]api.Step{one}, n)}, n <= 26)
		right(t, strconv.Itoa(n)+" steps of zeros", api.Pattern{Steps: make([]api.Step, n)}, n <= 26)
	}
	for n := range 27 {
		l := slices.Repeat([]api.Step{one}, 26)
		if n < 26 {
			l[n].Kind = -1
		}
		right(t, "26 steps, a wrong one at "+strconv.Itoa(n), api.Pattern{Steps: l}, n == 26)
	}
}

// P8.1: each number at its bounds, between, next beyond and far beyond.
func TestRightNumbers(t *testing.T) {
	for _, p := range samples() {
		right(t, "a sample", p, true)
		for _, s := range slots(p) {
			for _, n := range []int{s.from, s.upTo, (s.from + s.upTo) / 2, min(s.from+1, s.upTo), max(s.upTo-1, s.from)} {
				q := deep(p)
				*s.of(&q) = n
				right(t, s.name, q, true)
			}
			for _, n := range []int{
				s.from - 1, s.upTo + 1, s.from - 2, s.upTo + 26, -top - 1, -top - 7, top + 1, -1 << 41, 1 << 41, 1<<41 + 1, -1 << 62, 1 << 62, least, least + 1, most - 1, most,
			} {
				q := deep(p)
				*s.of(&q) = n
				right(t, s.name, q, false)
			}
		}
	}
}

// P8.1: each way of comparing, each term's kind, all 256 that a byte has, in each place; terms without a name may be of each kind.
func TestRightKinds(t *testing.T) {
	plain := api.Step{Cmps: []api.Cmp{{Op: 1}, {Op: 2}, {Op: 6}}}
	p := api.Pattern{Steps: []api.Step{plain, {}, plain, plain}}
	for _, s := range smalls(p) {
		for n := range 256 {
			q := deep(p)
			*s.of(&q) = uint8(n)
			right(t, s.name+" "+strconv.Itoa(n), q, n >= int(s.from) && n <= 6)
		}
	}
}

// P8.1: S and R of each kind of term, at the left and at the right.
func TestRightNames(t *testing.T) {
	for kind := range 9 {
		for _, s := range []int{least, -1, 0, 1, 24, 25, 26, 1 << 32, most} {
			for _, r := range []int{least, -1, 0, 1, 24, 25, 26, 1 << 32, most} {
				want := kind < 7 && s >= 0 && r >= 0
				want = want && s <= tops[min(kind, 6)][0] && r <= tops[min(kind, 6)][1]
				one := api.Term{Kind: uint8(kind), N: 3, S: s, R: r}
				right(t, "both", sample(one, one), want)
				right(t, "left", sample(one, api.Term{}), want)
				right(t, "right", sample(api.Term{}, one), want)
			}
		}
	}
	for _, c := range []struct {
		term api.Term
		want bool
	}{
		{api.Term{}, true}, {api.Term{N: -5}, true}, {api.Term{S: 1}, false}, {api.Term{R: 1}, false}, {api.Term{N: 5, S: -1}, false},
		{api.Term{Kind: api.TmTime, S: 25}, true}, {api.Term{Kind: api.TmTime, S: 26}, false}, {api.Term{Kind: api.TmX, R: 1}, false},
		{api.Term{Kind: api.TmY, S: 2, R: 2}, false}, {api.Term{Kind: api.TmNorm, S: -1}, false}, {api.Term{Kind: api.TmNorm, S: 1}, true},
		{api.Term{Kind: api.TmDot, S: 2, R: 0}, true}, {api.Term{Kind: api.TmDot, S: 25, R: 25}, true}, {api.Term{Kind: api.TmDot, S: 1, R: 26}, false},
		{api.Term{Kind: api.TmCross, S: 26, R: 1}, false}, {api.Term{Kind: api.TmCross, S: 0, R: -1}, false}, {api.Term{Kind: api.TmCross}, true},
		{api.Term{Kind: api.Terms}, false}, {api.Term{Kind: 255}, false},
	} {
		right(t, "given", sample(c.term, c.term), c.want)
	}
}

// P8.1: what else a step is makes no difference: which ones are negative or strict, which of Min and Max is more, which steps are asked, how many comparisons there are.
func TestRightElse(t *testing.T) {
	p := sample(rightTermOf(1, 0), rightTermOf(6, 0))
	for set := range 1 << 8 {
		q := deep(p)
		for i, f := range flags(q) {
			*f.of(&q) = set>>i&1 == 1
		}
		right(t, "flags "+strconv.Itoa(set), q, true)
	}
	right(t, "Min above Max", api.Pattern{Steps: []api.Step{{Min: 9, Max: 1}}}, true)
	right(t, "a step that is not there", api.Pattern{Steps: []api.Step{{Cmps: []api.Cmp{{Op: 1, L: api.Term{Kind: 1, S: 25}}}}}}, true)
	for _, n := range []int{0, 1, 4, 5, 27, 300} {
		l := slices.Repeat([]api.Cmp{{Op: 3, R: api.Term{Kind: 2, S: 1}}}, n)
		right(t, strconv.Itoa(n)+" comparisons", api.Pattern{Steps: []api.Step{{Cmps: l}, {Cmps: l}}}, true)
		if n > 0 {
			l[n-1].Op = 0
			right(t, "the last one wrong", api.Pattern{Steps: []api.Step{{Cmps: l}}}, false)
			right(t, "the last one wrong, in the last step", api.Pattern{Steps: []api.Step{{}, {Cmps: l}}}, false)
		}
	}
	right(t, "comparisons of length 0", api.Pattern{Steps: []api.Step{{Cmps: []api.Cmp{}}}}, true)
}

// strange are patterns that may not be written, and some that may.
func strange() []api.Pattern {
	l := []api.Pattern{
		{}, {Window: -1}, {Window: most}, {Steps: []api.Step{}}, {Steps: make([]api.Step, 1)}, {Steps: make([]api.Step, 27), Window: 3}, {Steps: make([]api.Step, 100)},
		{Steps: []api.Step{{Kind: least, Min: most, Max: least, Not: true, Strict: true, Cmps: []api.Cmp{{}, {Op: 255, L: api.Term{Kind: 255, N: least, S: most, R: least}}}}}},
		{Steps: []api.Step{{Cmps: make([]api.Cmp, 40)}, {}, {Cmps: make([]api.Cmp, 1)}}},
	}
	return append(l, samples()...)
}

// P8.1: what is owned is the same as what it was told of.
func TestOwnSame(t *testing.T) {
	for _, p := range strange() {
		was, q := written(p), Own(p)
		if written(q) != was || written(p) != was || !Same(p, q) || !Same(q, p) {
			t.Errorf("Own of %s: %s", was, written(q))
		}
	}
}

// roomy is a pattern whose lists all have spare room, with something in it.
func roomy(p api.Pattern) api.Pattern {
	q := api.Pattern{Window: p.Window}
	q.Steps = slices.Concat(p.Steps, []api.Step{{Kind: 77, Cmps: []api.Cmp{{Op: 3}}}, {Kind: 78}})[:len(p.Steps)]
	for i, s := range q.Steps {
		q.Steps[i].Cmps = slices.Concat(s.Cmps, []api.Cmp{{Op: 77}, {Op: 78}})[:len(s.Cmps)]
	}
	return q
}

// whole is a pattern with all that stands in its spare room.
func whole(p api.Pattern) api.Pattern {
	q := api.Pattern{Window: p.Window}
	for _, s := range p.Steps[:cap(p.Steps)] {
		s.Cmps = s.Cmps[:cap(s.Cmps)]
		q.Steps = append(q.Steps, s)
	}
	return q
}

// spoil changes all of a pattern that it may share, spare room too.
func spoil(p api.Pattern) {
	steps := p.Steps[:cap(p.Steps)]
	for i := range steps {
		cmps := steps[i].Cmps[:cap(steps[i].Cmps)]
		for j := range cmps {
			cmps[j] = api.Cmp{Op: 99, L: api.Term{Kind: 98, N: 97, S: 96, R: 95}, R: api.Term{Kind: 94}}
		}
		steps[i] = api.Step{Not: true, Kind: 93, Cmps: []api.Cmp{{Op: 92}}}
	}
}

// P8.1, R4: what is owned stays as it is when the other one is changed, either way; no two lists of it share anything.
func TestOwnMemory(t *testing.T) {
	for _, p := range strange() {
		was := written(p)
		from := roomy(p)
		own := Own(from)
		spoil(from)
		if written(own) != was {
			t.Errorf("Own of %s: %s, once that is changed", was, written(own))
		}
		from = roomy(p)
		all := written(whole(from))
		spoil(Own(from))
		if written(from) != was || written(whole(from)) != all {
			t.Errorf("%s, once its own is changed: %s", was, written(from))
		}
		a, b := Own(from), Own(from)
		spoil(a)
		if written(b) != was {
			t.Errorf("Own of %s: %s, once another one is changed", was, written(b))
		}
	}
}

// P8.1, R4: what is put behind one list of what is owned is in none of the others.
func TestOwnApart(t *testing.T) {
	p := sample(rightTermOf(5, 1), rightTermOf(1, 2))
	for i := range p.Steps {
		own, want := Own(roomy(p)), deep(p)
		_ = append(own.Steps[i].Cmps, api.Cmp{Op: 99}, api.Cmp{Op: 98}, api.Cmp{Op: 97})
		_ = append(own.Steps[:i:i], api.Step{Kind: 96})
		if written(own) != written(want) {
			t.Errorf("Own: %s, not %s", written(own), written(want))
		}
	}
}

// same holds Same against what is wanted, both ways.
func same(t *testing.T, what string, a, b api.Pattern, want bool) {
	t.Helper()
	if Same(a, b) != want || Same(b, a) != want {
		t.Errorf("Same, %s: %v, %v, not %v: %s and %s", what, Same(a, b), Same(b, a), want, written(a), written(b))
	}
}

// P8.1: patterns that differ in one field alone, each one.
func TestSameFields(t *testing.T) {
	for _, p := range samples() {
		same(t, "itself", p, p, true)
		same(t, "another one alike", p, deep(p), true)
		for _, s := range slots(p) {
			for _, n := range []int{1, -1, 1 << 8, 1 << 32, 1 << 62, least} {
				q := deep(p)
				*s.of(&q) += n
				same(t, s.name, p, q, false)
			}
		}
		for _, s := range smalls(p) {
			for n := uint8(1); n != 0; n <<= 1 {
				q := deep(p)
				*s.of(&q) ^= n
				same(t, s.name, p, q, false)
			}
		}
		for _, f := range flags(p) {
			q := deep(p)
			*f.of(&q) = !*f.of(&q)
			same(t, f.name, p, q, false)
		}
	}
}

// P8.1: patterns that differ in how many steps or comparisons they have, or in their order; patterns that may not be written.
func TestSameCounts(t *testing.T) {
	l := strange()
	for i, p := range l {
		for j, q := range l {
			same(t, "two of all", p, q, i == j || written(p) == written(q))
		}
		if len(p.Steps) == 0 {
			continue
		}
		q := deep(p)
		q.Steps = q.Steps[:len(q.Steps)-1]
		same(t, "one step fewer", p, q, false)
		q.Steps = append(deep(p).Steps, api.Step{})
		same(t, "one step more", p, q, false)
		for i, s := range p.Steps {
			q = deep(p)
			q.Steps[i].Cmps = append(q.Steps[i].Cmps, api.Cmp{})
			same(t, "one comparison more", p, q, false)
			if len(s.Cmps) > 0 {
				q.Steps[i].Cmps = s.Cmps[:len(s.Cmps)-1]
				same(t, "one comparison fewer", p, q, false)
			}
		}
	}
	p := sample(rightTermOf(1, 0), rightTermOf(2, 0))
	q := deep(p)
	slices.Reverse(q.Steps)
	same(t, "steps the other way about", p, q, false)
	q = deep(p)
	slices.Reverse(q.Steps[0].Cmps)
	same(t, "comparisons the other way about", p, q, false)
	q = deep(p)
	q.Steps[3].Cmps[0].L, q.Steps[3].Cmps[0].R = q.Steps[3].Cmps[0].R, q.Steps[3].Cmps[0].L
	same(t, "terms the other way about", p, q, false)
	same(t, "nil steps and none", api.Pattern{Window: 4}, api.Pattern{Window: 4, Steps: []api.Step{}}, true)
	same(t, "nil comparisons and none", api.Pattern{Steps: []api.Step{{Kind: 1}}}, api.Pattern{Steps: []api.Step{{Kind: 1, Cmps: []api.Cmp{}}}}, true)
	same(t, "spare room", p, roomy(p), true)
}

// some are numbers that a name may be, or may not.
func some() []int { return []int{0, 1, 2, 25, 26, 1000, -1, -26, 1 << 32, -1 << 40, most, least} }

// namesBy are the names of a term by the chapter's words.
func namesBy(t api.Term) []int {
	if t.Kind == 0 {
		return nil
	}
	if t.Kind == 5 || t.Kind == 6 {
		return []int{t.S, t.R}
	}
	return []int{t.S}
}

// P8.2: the names of each kind of term, also of such as may not be written, and of kinds that there are not.
func TestNames(t *testing.T) {
	for kind := range 256 {
		for _, s := range some() {
			for _, r := range some() {
				for _, n := range []int{0, 7, least} {
					one := api.Term{Kind: uint8(kind), N: n, S: s, R: r}
					if got, want := Names(one), namesBy(one); !slices.Equal(got, want) {
						t.Fatalf("Names(%v): %v, not %v", one, got, want)
					}
				}
			}
		}
	}
	for _, c := range []struct {
		term api.Term
		want []int
	}{
		{api.Term{Kind: api.TmNum, N: 4, S: 2, R: 1}, nil},
		{api.Term{Kind: api.TmTime, N: 4, S: 2, R: 1}, []int{2}},
		{api.Term{Kind: api.TmX, S: 25}, []int{25}},
		{api.Term{Kind: api.TmY}, []int{0}},
		{api.Term{Kind: api.TmNorm, S: 3, R: 3}, []int{3}},
		{api.Term{Kind: api.TmDot, S: 2, R: 0}, []int{2, 0}},
		{api.Term{Kind: api.TmCross, S: 0, R: 2}, []int{0, 2}},
		{api.Term{Kind: api.TmDot, S: 4, R: 4}, []int{4, 4}},
		{api.Term{Kind: api.TmCross, S: -1, R: -1}, []int{-1, -1}},
		{api.Term{Kind: api.Terms, S: 6, R: 5}, []int{6}},
		{api.Term{Kind: 255, S: -6}, []int{-6}},
	} {
		if got := Names(c.term); !slices.Equal(got, c.want) {
			t.Errorf("Names(%v): %v, not %v", c.term, got, c.want)
		}
	}
}

// askedBy are the names that a step asks, by the chapter's words.
func askedBy(s api.Step) []int {
	has := map[int]int{}
	for _, c := range s.Cmps {
		for _, n := range append(namesBy(c.L), namesBy(c.R)...) {
			has[n]++
		}
	}
	var l []int
	for n := range has {
		l = append(l, n)
	}
	slices.Sort(l)
	return l
}

// cmps are comparisons of that many, with terms of all kinds and names.
func cmps(n int) []api.Cmp {
	var l []api.Cmp
	s := some()
	for i := range n {
		l = append(l, api.Cmp{
			Op: uint8(i % 9),
			L:  api.Term{Kind: uint8(i % 8), N: i, S: s[i%len(s)], R: s[(i*7+3)%len(s)]},
			R:  api.Term{Kind: uint8(i / 3 % 9), N: -i, S: s[(i*5+1)%len(s)], R: s[(i/2)%len(s)]},
		})
	}
	return l
}

// P8.2: all names of a step's comparisons, each once, rising.
func TestAsked(t *testing.T) {
	time := func(n int) api.Term { return api.Term{Kind: api.TmTime, S: n} }
	dot := func(s, r int) api.Term { return api.Term{Kind: api.TmDot, S: s, R: r} }
	for i, c := range []struct {
		cmps []api.Cmp
		want []int
	}{
		{nil, nil},
		{[]api.Cmp{}, nil},
		{[]api.Cmp{{Op: 1, L: api.Term{N: 5, S: 3, R: 2}, R: api.Term{N: 5, S: 4}}}, nil},
		{[]api.Cmp{{Op: 1, L: time(2)}}, []int{2}},
		{[]api.Cmp{{Op: 1, R: time(2)}}, []int{2}},
		{[]api.Cmp{{Op: 1, L: time(2), R: time(2)}}, []int{2}},
		{[]api.Cmp{{Op: 1, L: time(2), R: time(0)}}, []int{0, 2}},
		{[]api.Cmp{{Op: 1, L: dot(3, 3)}}, []int{3}},
		{[]api.Cmp{{Op: 1, L: dot(3, 1), R: dot(2, 0)}}, []int{0, 1, 2, 3}},
		{[]api.Cmp{{L: time(9)}, {L: time(3), R: time(4)}, {R: dot(9, 1)}, {L: time(3)}}, []int{1, 3, 4, 9}},
		{[]api.Cmp{{L: time(-1), R: dot(least, most)}, {L: time(1 << 40), R: time(-1)}, {R: time(0)}}, []int{least, -1, 0, 1 << 40, most}},
		{[]api.Cmp{{L: api.Term{Kind: 7, S: 5, R: 6}, R: api.Term{Kind: 200, S: 4, R: 9}}}, []int{4, 5}},
	} {
		if got := Asked(api.Step{Kind: 3, Cmps: c.cmps}); !slices.Equal(got, c.want) {
			t.Errorf("Asked, %d: %v, not %v", i, got, c.want)
		}
		if got := Asked(api.Step{Not: true, Strict: true, Kind: -1, Min: most, Max: least, Cmps: c.cmps}); !slices.Equal(got, c.want) {
			t.Errorf("Asked of a strange step, %d: %v, not %v", i, got, c.want)
		}
	}
	all := cmps(300)
	for from := range all {
		for _, n := range []int{1, 2, 3, 7, 50, 300} {
			s := api.Step{Cmps: all[from:min(from+n, 300)]}
			if got, want := Asked(s), askedBy(s); !slices.Equal(got, want) {
				t.Fatalf("Asked of %d from %d: %v, not %v", n, from, got, want)
			}
		}
	}
}

// P8.4: what is asked is asked by one of the comparisons, and what one asks is asked.
func TestAskedByOne(t *testing.T) {
	all := cmps(300)
	for n := range all {
		asked := Asked(api.Step{Cmps: all[:n]})
		for i := 1; i < len(asked); i++ {
			if asked[i-1] >= asked[i] {
				t.Fatalf("Asked of %d: %v", n, asked)
			}
		}
		by := map[int]int{}
		for _, c := range all[:n] {
			for _, name := range Asked(api.Step{Cmps: []api.Cmp{c}}) {
				by[name]++
				if !slices.Contains(asked, name) {
					t.Fatalf("Asked of %d: %v, without %d", n, asked, name)
				}
			}
			for _, name := range append(Names(c.L), Names(c.R)...) {
				if !slices.Contains(asked, name) {
					t.Fatalf("Asked of %d: %v, without %d", n, asked, name)
				}
			}
		}
		for _, name := range asked {
			if by[name] == 0 {
				t.Fatalf("Asked of %d: %v, though no comparison asks %d", n, asked, name)
			}
		}
	}
}

// signed are steps of which those are negative whose sign is '!'.
func signed(signs string) api.Pattern {
	p := api.Pattern{Window: 5}
	for _, r := range signs {
		p.Steps = append(p.Steps, api.Step{Not: r == '!', Kind: 1, Min: 1, Max: 1})
	}
	return p
}

// P8.3: the numbers of the positive steps, rising.
func TestPositive(t *testing.T) {
	for signs, want := range map[string][]int{
		"": nil, "!": nil, "!!!": nil, "+": {0}, "++": {0, 1}, "!+": {1}, "+!": {0}, "+!+!!+": {0, 2, 5}, "!+!+!": {1, 3}, "+++++": {0, 1, 2, 3, 4},
	} {
		if got := Positive(signed(signs)); !slices.Equal(got, want) {
			t.Errorf("Positive of %q: %v, not %v", signs, got, want)
		}
	}
	if got := Positive(api.Pattern{Steps: []api.Step{}}); len(got) != 0 {
		t.Errorf("Positive of no steps: %v", got)
	}
	if got := Positive(api.Pattern{Steps: make([]api.Step, 1000)}); len(got) != 1000 || got[999] != 999 {
		t.Errorf("Positive of 1000 steps: %v", got)
	}
	// All else of a step makes no difference.
	p := api.Pattern{Steps: []api.Step{
		{Kind: -1}, {Not: true, Kind: -1, Min: 5, Max: 7}, {Strict: true}, {Not: true, Strict: true}, {Cmps: make([]api.Cmp, 3)}, {Min: least, Max: most}, {Not: true, Min: 0, Max: 0},
	}}
	if got := Positive(p); !slices.Equal(got, []int{0, 2, 4, 5}) {
		t.Errorf("Positive: %v", got)
	}
}

// times is a step that comes from so many to so many times.
func times(least, most int) api.Step { return api.Step{Kind: 1, Min: least, Max: most} }

// long holds Long against what is wanted.
func long(t *testing.T, wantLeast, wantMost int, steps ...api.Step) {
	t.Helper()
	if a, b := Long(api.Pattern{Steps: steps, Window: -7}); a != wantLeast || b != wantMost {
		t.Errorf("Long(%v): %d, %d, not %d, %d", steps, a, b, wantLeast, wantMost)
	}
}

// P8.3: the sums of Min and of Max of the positive steps, at the bounds of what counts and beyond.
func TestLong(t *testing.T) {
	not := api.Step{Not: true, Min: 1, Max: 1}
	long(t, 0, 0)
	long(t, 0, 0, not, not)
	long(t, 1, 1, times(1, 1))
	long(t, 1, 3, times(1, 3))
	long(t, 3, 1, times(3, 1))
	long(t, 3, 6, times(1, 2), times(2, 4))
	long(t, 3, 6, times(1, 2), not, times(2, 4), not)
	long(t, 2, 4, api.Step{Not: true, Min: 5, Max: 9}, times(2, 4), api.Step{Not: true, Min: -5, Max: top})
	long(t, 7, 11, times(0, 0), times(7, 11), times(0, 0))
	long(t, 0, 5, times(-1, 5))
	long(t, 5, 0, times(5, -1))
	long(t, 4, 4, times(-2, 4), times(4, -2))
	long(t, 6, 8, times(least, 8), times(6, least), times(-top, -top))
	long(t, top, top-1, times(top, top-1))
	long(t, top, top, times(top, top))
	long(t, top, top, times(top+1, top+1))
	long(t, top, top, times(most, most-1))
	long(t, top, top, times(1<<41, 1<<62))
	long(t, 2*top+3, top+1, times(top, 1), times(3, -4), times(top+9, most))
	long(t, top-1, 3*top, times(top-1, most), times(-1, most), times(least, top+1))
	long(t, 1, 2, api.Step{Kind: -3, Strict: true, Min: 1, Max: 2, Cmps: make([]api.Cmp, 3)})
	long(t, 1000*top, 0, slices.Repeat([]api.Step{times(most, least)}, 1000)...)
	for _, n := range []int{least, -1, 0, 1, 5, top - 1, top, top + 1, most} {
		want := max(0, n)
		if n > top {
			want = top
		}
		long(t, want, 2, times(n, 2))
		long(t, 2, want, times(2, n))
		long(t, want+1, want+2, times(1, 2), times(n, n))
		long(t, 1, 2, times(1, 2), api.Step{Not: true, Min: n, Max: n})
	}
}

// P8.3: a sum that an int has no room for stays at the greatest one. (So many steps as it takes are too many for a test.)
func TestLonger(t *testing.T) {
	for _, c := range [][3]int{
		{0, 0, 0}, {0, 5, 5}, {3, -5, 3}, {3, most, 3 + top}, {most - top, top, most}, {most - top, top + 5, most}, {most - top + 1, top, most}, {most, most, most},
		{most - 1, 1, most}, {most, 0, most}, {most, least, most}, {most, 1, most}, {most - 5, 3, most - 2},
	} {
		if got := longer(c[0], c[1]); got != c[2] {
			t.Errorf("longer(%d, %d): %d, not %d", c[0], c[1], got, c[2])
		}
	}
}

// P8.3: how many steps, comparisons and terms there are.
func TestSize(t *testing.T) {
	for i, c := range []struct {
		p    api.Pattern
		want int
	}{
		{api.Pattern{}, 0},
		{api.Pattern{Window: 5, Steps: []api.Step{}}, 0},
		{api.Pattern{Steps: make([]api.Step, 1)}, 1},
		{api.Pattern{Steps: make([]api.Step, 30)}, 30},
		{api.Pattern{Steps: []api.Step{{Cmps: []api.Cmp{}}}}, 1},
		{api.Pattern{Steps: []api.Step{{Cmps: make([]api.Cmp, 1)}}}, 4},
		{api.Pattern{Steps: []api.Step{{Cmps: make([]api.Cmp, 2)}}}, 7},
		{api.Pattern{Steps: []api.Step{{Not: true}, {Strict: true, Cmps: make([]api.Cmp, 3)}, {}}}, 12},
		{api.Pattern{Steps: []api.Step{{Not: true, Cmps: make([]api.Cmp, 2)}, {Cmps: make([]api.Cmp, 3)}}}, 17},
		{api.Pattern{Steps: []api.Step{{Cmps: make([]api.Cmp, 1000)}, {Min: most, Max: least}}}, 3002},
		{sample(api.Term{}, api.Term{}), 22},
		{sample(rightTermOf(5, 0), rightTermOf(6, 0)), 22},
	} {
		if got := Size(c.p); got != c.want {
			t.Errorf("Size, %d: %d, not %d", i, got, c.want)
		}
	}
}

// without is a list without the one at i.
func without[T any](l []T, i int) []T { return slices.Concat(l[:i], l[i+1:]) }

// P8.4: what may be written may be so with fewer steps, at least one, and with fewer comparisons.
func TestFewer(t *testing.T) {
	for _, p := range samples() {
		for set := range 1 << len(p.Steps) {
			q := api.Pattern{Window: p.Window}
			for i, s := range p.Steps {
				if set>>i&1 == 1 {
					q.Steps = append(q.Steps, s)
				}
			}
			right(t, "fewer steps", q, set != 0)
		}
		for i, s := range p.Steps {
			for j := range s.Cmps {
				q := deep(p)
				q.Steps[i].Cmps = without(s.Cmps, j)
				right(t, "fewer comparisons", q, true)
			}
			q := deep(p)
			q.Steps[i].Cmps = nil
			right(t, "no comparisons", q, true)
		}
	}
	full := slices.Repeat(sample(rightTermOf(5, 0), rightTermOf(1, 0)).Steps, 7)[:26]
	for n := 26; n > 0; n-- {
		right(t, strconv.Itoa(n)+" steps", api.Pattern{Steps: full[:n]}, true)
		right(t, strconv.Itoa(n)+" last steps", api.Pattern{Steps: full[26-n:]}, true)
	}
}

// P8.4: one wrong thing is wrong in all that has it, and what is left without it is right.
func TestFewerWrong(t *testing.T) {
	p := sample(rightTermOf(6, 0), rightTermOf(3, 0))
	for i, s := range p.Steps {
		for j := range s.Cmps {
			q := deep(p)
			q.Steps[i].Cmps[j].R.N = top + 1
			right(t, "a wrong comparison", q, false)
			q.Steps[i].Cmps = without(q.Steps[i].Cmps, j)
			right(t, "that one left out", q, true)
		}
		q := deep(p)
		q.Steps[i].Max = -1
		right(t, "a wrong step", q, false)
		q.Steps = without(q.Steps, i)
		right(t, "that one left out", q, true)
	}
}

// calls makes every call of a pattern and of its parts.
func calls(p, q api.Pattern) {
	Right(p)
	Own(p)
	Same(p, q)
	Positive(p)
	Long(p)
	Size(p)
	for _, s := range p.Steps {
		Asked(s)
		for _, c := range s.Cmps {
			Names(c.L)
			Names(c.R)
		}
	}
}

// R4: nothing that is handed in is changed, spare room behind it included.
func TestUnchanged(t *testing.T) {
	for _, p := range strange() {
		a, b := roomy(p), roomy(p)
		was, all := written(a), written(whole(a))
		calls(a, b)
		for _, x := range []api.Pattern{a, b} {
			if written(x) != was || written(whole(x)) != all {
				t.Errorf("%s: %s", was, written(whole(x)))
			}
		}
	}
}

// R3, R4: what is told is told again, in memory of its own.
func TestOwnAnswers(t *testing.T) {
	p := sample(api.Term{Kind: api.TmDot, S: 3, R: 2}, api.Term{Kind: api.TmCross, S: 1, R: 0})
	for what, call := range map[string]func() []int{
		"Names":    func() []int { return Names(p.Steps[0].Cmps[0].L) },
		"Asked":    func() []int { return Asked(p.Steps[0]) },
		"Positive": func() []int { return Positive(p) },
	} {
		a, b := call(), call()
		want := slices.Clone(a)
		clear(a[:cap(a)])
		if len(want) < 2 || !slices.Equal(b, want) || !slices.Equal(call(), want) {
			t.Errorf("%s: %v, then %v, %v", what, want, b, call())
		}
	}
}

// made is a pattern out of bytes, most of its numbers next to a bound.
func made(b []byte) api.Pattern {
	next := func() int {
		if len(b) == 0 {
			return 0
		}
		n := int(b[0])
		b = b[1:]
		return n
	}
	number := func() int {
		l := []int{0, 1, 2, 3, 24, 25, 26, 27, -1, -2, top, top - 1, top + 1, -top, -top - 1, -top + 1, most, least, 1 << 32}
		return l[next()%len(l)]
	}
	term := func() api.Term {
		return api.Term{Kind: uint8(next() % 9), N: number(), S: number(), R: number()}
	}
	p := api.Pattern{Window: number()}
	for n := next() % 32; n > 0 && len(b) > 0; n-- {
		s := api.Step{Kind: number(), Min: number(), Max: number()}
		bits := next()
		s.Not, s.Strict = bits&1 == 1, bits&2 == 2
		for range (bits >> 2) % 4 {
			s.Cmps = append(s.Cmps, api.Cmp{Op: uint8(next() % 9), L: term(), R: term()})
		}
		p.Steps = append(p.Steps, s)
	}
	return p
}

// P8.1 to P8.4: any pattern, against the chapter's words.
func FuzzTree(f *testing.F) {
	f.Add([]byte{}, []byte{})
	f.Add([]byte{1, 1, 0, 0, 0, 4, 1, 1, 2, 3, 0, 5, 2, 2, 2}, []byte{1, 1, 0, 0, 0, 4, 1, 1, 2, 3, 0, 5, 2, 2, 3})
	f.Add([]byte{10, 31, 0, 1, 2, 255, 6, 5, 10, 4, 5, 0, 10, 0, 0, 0}, []byte{10, 3, 9, 9, 9, 9, 9, 9})
	f.Fuzz(func(t *testing.T, first, second []byte) {
		p, q := made(first), made(second)
		was := written(p)
		if Right(p) != byWords(p) {
			t.Fatalf("Right of %s: %v", was, Right(p))
		}
		if Same(p, q) != (was == written(q)) || !Same(p, made(first)) {
			t.Fatalf("Same of %s and %s: %v", was, written(q), Same(p, q))
		}
		own := Own(p)
		spoil(own)
		if written(Own(p)) != was || written(p) != was {
			t.Fatalf("Own of %s: %s", was, written(Own(p)))
		}
		size, i, least, most := 0, 0, 0, 0
		positive := Positive(p)
		for at, s := range p.Steps {
			size += 1 + 3*len(s.Cmps)
			if !slices.Equal(Asked(s), askedBy(s)) {
				t.Fatalf("Asked of %v: %v", s, Asked(s))
			}
			if s.Not {
				continue
			}
			if i >= len(positive) || positive[i] != at {
				t.Fatalf("Positive of %s: %v", was, positive)
			}
			i++
			least += max(0, min(s.Min, top))
			most += max(0, min(s.Max, top))
		}
		if a, b := Long(p); a != least || b != most || Size(p) != size || i != len(positive) {
			t.Fatalf("%s: %d, %d, %d, %v", was, a, b, Size(p), positive)
		}
	})
}
