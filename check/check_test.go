package check

import (
	"math"
	"reflect"
	"slices"
	"strconv"
	"testing"

	"straggle/api"
	"straggle/parse"
	"straggle/tree"
)

const (
	top    = 1 << 40
	window = 1 << 30
)

// answer is what Check tells.
type answer struct {
	rule, at int
	e        api.Errno
}

var (
	may   = answer{}
	wrong = answer{e: 2}
)

// rule is the answer of a pattern that breaks one by a step.
func rule(n, at int) answer { return answer{n, at, 110} }

// told is what Check tells of a pattern.
func told(p api.Pattern) answer {
	n, at, e := Check(p)
	return answer{n, at, e}
}

// read is a pattern out of its text.
func read(t *testing.T, text string) api.Pattern {
	t.Helper()
	p, at, e := parse.Parse(text)
	if e != 0 {
		t.Fatalf("%q: %d at %d", text, e, at)
	}
	return p
}

// holds holds Check against an answer, and against what is promised of all patterns.
func holds(t *testing.T, p api.Pattern, want answer) {
	t.Helper()
	if got := promised(t, p); got != want {
		t.Errorf("Check(%.300v): %v, not %v", p, got, want)
	}
}

// alone holds Check against a rule that these steps break, and no other rule is broken.
func alone(t *testing.T, p api.Pattern, n int, at ...int) {
	t.Helper()
	for i, steps := range brokenBy(p) {
		if i != n && len(steps) != 0 || i == n && !slices.Equal(steps, at) {
			t.Errorf("%.300v: rule %d is broken by %v", p, i, steps)
		}
	}
	holds(t, p, rule(n, at[0]))
}

// promised holds what is told of a pattern against what is promised of all of them: P11.1, P11.2 by the chapter's words, P11.3, R3, R4.
func promised(t *testing.T, p api.Pattern) answer {
	t.Helper()
	was := tree.Own(p)
	got := told(p)
	if want := byWords(p); got != want {
		t.Fatalf("Check(%.300v): %v, by the words %v", p, got, want)
	}
	if Right(p) != (got == may) || Right(p) != (got.e == 0) {
		t.Fatalf("Right(%.300v): %v, of %v", p, Right(p), got)
	}
	promisedSteps(t, p)
	if got == may {
		promisedRight(t, p)
	}
	if told(p) != got {
		t.Fatalf("Check(%.300v): %v, then %v", p, got, told(p))
	}
	if !reflect.DeepEqual(tree.Own(p), was) {
		t.Fatalf("Check(%.300v): it was %.300v", p, was)
	}
	return got
}

// promisedSteps holds Tail and Head of a pattern against the chapter's words: P11.2.
func promisedSteps(t *testing.T, p api.Pattern) {
	t.Helper()
	tail, head := 0, -1
	for i, s := range p.Steps {
		if got := Head(p, i); got != head {
			t.Fatalf("Head(%.300v, %d): %d, not %d", p, i, got, head)
		}
		tail++
		if !s.Not {
			tail, head = 0, i
		}
	}
	if got := Tail(p); got != tail || Tail(p) != tail {
		t.Fatalf("Tail(%.300v): %d, then %d, not %d", p, got, Tail(p), tail)
	}
	n := len(p.Steps)
	for _, i := range []int{-1, -2, -n, -n - 1, n, n + 1, n + 25, 1<<32 + n, math.MinInt, math.MaxInt} {
		if i >= 0 && i < n {
			continue
		}
		if got := Head(p, i); got != -1 {
			t.Fatalf("Head(%.300v, %d): %d", p, i, got)
		}
	}
}

// promisedRight holds a pattern that may be against what follows: P11.3.
func promisedRight(t *testing.T, p api.Pattern) {
	t.Helper()
	least, most := 0, 0
	for i, s := range p.Steps {
		if !s.Not {
			least, most = least+s.Min, most+s.Max
		}
		for _, n := range namesOf(s) {
			if n == i {
				continue
			}
			if n > i || p.Steps[n].Not || p.Steps[n].Min != 1 || p.Steps[n].Max != 1 {
				t.Fatalf("%v may be: step %d asks %d", p, i, n)
			}
		}
	}
	if len(tree.Positive(p)) == 0 || least < 1 || most > 4 || least > most {
		t.Fatalf("%v may be: of %d to %d events", p, least, most)
	}
}

// byWords is what the chapters' words tell of a pattern.
func byWords(p api.Pattern) answer {
	if !mayBeWritten(p) {
		return wrong
	}
	for n, steps := range brokenBy(p) {
		if len(steps) > 0 {
			return rule(n, steps[0])
		}
	}
	return may
}

// brokenBy tells by the words, rule by rule, from 1 to 7, which steps of a pattern that may be written break it.
func brokenBy(p api.Pattern) [8][]int {
	var by [8][]int
	breaks := func(rule, at int, when bool) {
		if when {
			by[rule] = append(by[rule], at)
		}
	}
	together, behindNot := 0, false
	breaks(1, 0, len(p.Steps) > 6)
	breaks(1, 0, len(p.Steps) <= 6 && p.Window > 1073741824)
	breaks(2, 0, p.Steps[0].Not || p.Steps[0].Strict)
	for i, s := range p.Steps {
		breaks(3, i, s.Kind >= 6)
		breaks(7, i, len(s.Cmps) > 4 || asksWrong(p, i))
		if s.Not {
			breaks(4, i, [2]int{s.Min, s.Max} != [2]int{1, 1} || s.Strict)
		} else {
			breaks(4, i, s.Strict && behindNot)
			breaks(5, i, s.Min < 1 || s.Max < s.Min || s.Max > 3)
			together += s.Max
		}
		behindNot = s.Not
	}
	breaks(6, 0, together > 4)
	return by
}

// asksWrong tells by the words whether a step asks one that it may not.
func asksWrong(p api.Pattern, i int) bool {
	for _, n := range namesOf(p.Steps[i]) {
		switch {
		case n > i:
			return true
		case n < i && (p.Steps[n].Not || p.Steps[n].Max != 1):
			return true
		}
	}
	return false
}

// namesOf are all names that a step's terms have, one as often as it stands there.
func namesOf(s api.Step) []int {
	var l []int
	for _, c := range s.Cmps {
		for _, one := range []api.Term{c.L, c.R} {
			switch one.Kind {
			case 0:
			case 5, 6:
				l = append(l, one.S, one.R)
			default:
				l = append(l, one.S)
			}
		}
	}
	return l
}

// mayBeWritten tells by the words of the chapter on trees whether a pattern may.
func mayBeWritten(p api.Pattern) bool {
	number := func(n int) bool { return n >= 0 && n <= top }
	if len(p.Steps) < 1 || len(p.Steps) > 26 || !number(p.Window) {
		return false
	}
	for _, s := range p.Steps {
		if !number(s.Kind) || !number(s.Min) || !number(s.Max) {
			return false
		}
		for _, c := range s.Cmps {
			if c.Op < 1 || c.Op > 6 || !mayTerm(c.L) || !mayTerm(c.R) {
				return false
			}
		}
	}
	return true
}

// mayTerm tells by the words whether a term may be written.
func mayTerm(one api.Term) bool {
	tops := [7][2]int{{0, 0}, {25, 0}, {25, 0}, {25, 0}, {25, 0}, {25, 25}, {25, 25}}
	if one.Kind > 6 || one.N < -top || one.N > top {
		return false
	}
	most := tops[one.Kind]
	return one.S >= 0 && one.S <= most[0] && one.R >= 0 && one.R <= most[1]
}

// plain is a step that comes once.
func plain(kind int) api.Step { return api.Step{Kind: kind, Min: 1, Max: 1} }

// not is a negative step.
func not(kind int) api.Step { return api.Step{Not: true, Kind: kind, Min: 1, Max: 1} }

// times is a step that comes from least to most times.
func times(least, most int) api.Step { return api.Step{Min: least, Max: most} }

// strict is a step that follows directly.
func strict(s api.Step) api.Step {
	s.Strict = true
	return s
}

// asking is a step with these comparisons.
func asking(s api.Step, cmps ...api.Cmp) api.Step {
	s.Cmps = cmps
	return s
}

// pattern is one of these steps.
func pattern(steps ...api.Step) api.Pattern { return api.Pattern{Steps: steps, Window: 50} }

// with is a pattern with another step in a place.
func with(p api.Pattern, at int, s api.Step) api.Pattern {
	p = tree.Own(p)
	p.Steps[at] = s
	return p
}

// asks are comparisons that ask the step n, in each place and by each kind of term; beside it they ask own.
func asks(n, own int) []api.Cmp {
	var l []api.Cmp
	for kind := uint8(1); kind < 7; kind++ {
		one := api.Term{Kind: kind, S: n, N: -3}
		l = append(l, api.Cmp{Op: 1, L: one}, api.Cmp{Op: 6, R: one})
		if kind >= 5 {
			l[len(l)-2].L.R, l[len(l)-1].R.R = own, n
			l = append(l, api.Cmp{Op: 4, L: api.Term{Kind: kind, S: own, R: n}, R: api.Term{Kind: 1, S: own}})
		}
	}
	return l
}

// ask is a comparison that asks the step n.
func ask(n int) api.Cmp { return asks(n, n)[0] }

// six is a pattern of as many steps and events as may be.
func six() api.Pattern { return pattern(plain(0), not(1), plain(2), not(3), plain(4), plain(5)) }

// P11.1: patterns written out, and what they are told to be.
func TestCheckGiven(t *testing.T) {
	for text, want := range map[string]answer{
		"0a within 5": may, "0a within 0": may, "5a within 1073741824": may, "0a;1b;2c;3d within 5": may, "0a,1b,2c,3d within 5": may, "0a;!2b;1c within 9": may,
		"0a;!1b within 5": may, "0a;!1b;!2c;!3d;!4e;!5f within 5": may, "0a;!1b;0c;!1d;0e;0f within 5": may, "0a;!1b;0c,0d within 5": may,
		"0a{1,3};1b within 5": may, "0a;1b{1,3} within 5": may, "0a{2,2};1b{2,2} within 5": may, "0a{3,3} within 5": may, "0a{1,3};!2b within 5": may,
		"0a[1=2] within 5": may, "0a[t(a)>5] within 5": may, "0a{1,3}[t(a)>5] within 5": may, "0a;1b{1,3}[x(b)>x(a)+3&d(a,b)!=0] within 5": may,
		"0a;!1b[t(b)>t(a)];2c[c(c,a)<=n(c)&1=1&2=2&3=3] within 5": may,

		"0a;1b;2c;3d;!4e;!5f;!0g within 5": rule(1, 0), "0a within 1073741825": rule(1, 0), "0a within 1099511627776": rule(1, 0), "!0a within 5": rule(2, 0), "!0a;1b within 5": rule(2, 0),
		"6a within 5": rule(3, 0), "0a;6b within 5": rule(3, 1), "0a;!9b within 5": rule(3, 1), "0a;!1b{0,1} within 5": rule(4, 1), "0a;!1b{1,2};2c within 5": rule(4, 1),
		"0a,!1b within 5": rule(4, 1), "0a;!1b,2c within 5": rule(4, 2), "0a;!1b;!2c,3d within 5": rule(4, 3), "0a{0,1} within 5": rule(5, 0), "0a{0,0} within 5": rule(5, 0),
		"0a;1b{2,1} within 5": rule(5, 1), "0a{1,4} within 5": rule(5, 0), "0a{4,4} within 5": rule(5, 0), "0a{1,3};1b{1,2} within 5": rule(6, 0), "0a;0b;0c;0d;0e within 5": rule(6, 0),
		"0a[1=1&1=1&1=1&1=1&1=1] within 5": rule(7, 0), "0a[t(b)>5];1b within 5": rule(7, 0), "0a;!1b;2c[t(b)>5] within 5": rule(7, 2), "0a{1,2};2b[t(a)>5] within 5": rule(7, 1),
		"0a[x(z)=1] within 5": rule(7, 0), "0a;1b[d(b,c)=1];2c within 5": rule(7, 1), "0a;!1b[t(c)>5];2c within 5": rule(7, 1),

		"!0a{0,1};9b;!2c,3d{9,8}[t(z)=1] within 5":                               rule(2, 0),
		"!0a{0,1};9b;!2c,3d{9,8}[t(z)=1] within 1073741825":                      rule(1, 0),
		"7a{0,9}[t(z)=1];!2b,3c within 5":                                        rule(3, 0),
		"0a{0,9}[t(z)=1];!2b,3c within 5":                                        rule(4, 2),
		"0a{3,3}[t(z)=1];2b;3c{0,1} within 5":                                    rule(5, 2),
		"0a{3,3}[t(z)=1];2b;3c within 5":                                         rule(6, 0),
		"0a{1,1099511627776};0b{1,1099511627776};0c{1,1099511627776} within 500": rule(5, 0),
	} {
		holds(t, read(t, text), want)
	}
}

// P11.1: what may not be written is told so, whatever rules are broken beside.
func TestCheckArg(t *testing.T) {
	for _, p := range []api.Pattern{{}, {Window: 5}, {Window: -1}, {Window: window + 1}, {Window: 5, Steps: []api.Step{}}, {Steps: make([]api.Step, 0, 9)}, {Steps: make([]api.Step, 27)}, {Steps: make([]api.Step, 100000)}} {
		holds(t, p, wrong)
	}
	far := []int{-1, -2, top + 1, math.MinInt, math.MinInt + 1, math.MaxInt, math.MaxInt - 1, -1 << 32, 1 << 62}
	for _, text := range []string{
		"0a within 5", "0a;1b within 5", "0a;1b;2c;3d;!4e;!5f;!0g within 5", "0a;1b within 1073741825", "!0a;1b within 5", "0a;6b within 5", "0a;!1b{0,1} within 5", "0a;!1b,2c within 5",
		"0a{0,1};1b within 5", "0a{1,3};1b{1,2} within 5", "0a[1=1&1=1&1=1&1=1&1=1];1b within 5", "0a;1b[t(z)=1] within 5", "!0a{0,1};9b;!2c,3d{9,8}[t(z)=1] within 1073741825",
	} {
		p := read(t, text)
		for _, n := range far {
			q := p
			q.Window = n
			holds(t, q, wrong)
			for i, s := range p.Steps {
				for _, spoilt := range []api.Step{
					{Not: s.Not, Strict: s.Strict, Kind: n, Min: s.Min, Max: s.Max}, {Not: s.Not, Kind: s.Kind, Min: n, Max: s.Max}, {Not: s.Not, Kind: s.Kind, Min: s.Min, Max: n}, {Kind: n, Min: n, Max: n},
					asking(s, api.Cmp{Op: 1, L: api.Term{N: -top - 1}}), asking(s, api.Cmp{Op: 1, R: api.Term{Kind: 1, S: 26}}), asking(s, api.Cmp{Op: 1, R: api.Term{Kind: 1, S: n}}), asking(s, api.Cmp{}), asking(s, api.Cmp{Op: 7}),
					asking(s, ask(0), api.Cmp{Op: 1, L: api.Term{Kind: 7}}), asking(s, ask(0), ask(0), ask(0), ask(0), ask(0), api.Cmp{Op: 1, R: api.Term{S: 1}}), asking(s, api.Cmp{Op: 1, L: api.Term{Kind: 5, S: 0, R: n}}),
				} {
					holds(t, with(p, i, spoilt), wrong)
				}
			}
		}
		p.Steps = slices.Repeat(p.Steps, 27)
		holds(t, p, wrong)
	}
	// Numbers so great that their sum has no room.
	half := math.MaxInt/2 + 1
	for _, p := range []api.Pattern{pattern(times(1, half), times(1, half)), pattern(times(half, half), times(half, half), times(half, half), times(half, half)), pattern(times(1, math.MaxInt), times(1, 2)), pattern(times(1, math.MaxInt), times(1, math.MaxInt), times(1, 6))} {
		holds(t, p, wrong)
	}
}

// P11.1: rule 1, how many steps there are, and the window.
func TestRule1(t *testing.T) {
	holds(t, six(), may)
	for n := 1; n < 30; n++ {
		p := pattern(slices.Repeat([]api.Step{not(3)}, n)...)
		p.Steps[0] = plain(1)
		switch {
		case n > 26:
			holds(t, p, wrong)
		case n > 6:
			alone(t, p, 1, 0)
		default:
			holds(t, p, may)
		}
		p.Steps[n/2] = plain(2)
		if n > 6 && n <= 26 {
			alone(t, p, 1, 0)
		}
	}
	for _, p := range []api.Pattern{pattern(plain(0)), six()} {
		for _, n := range []int{0, 1, 1 << 20, window - 1, window} {
			p.Window = n
			holds(t, p, may)
		}
		for _, n := range []int{window + 1, window + 2, 1 << 31, 1 << 32, 1<<32 + 1, top - 1, top} {
			p.Window = n
			alone(t, p, 1, 0)
		}
	}
	p := pattern(plain(0), not(1), not(1), not(1), not(1), not(1), not(1))
	p.Window = window + 1
	alone(t, p, 1, 0)
	// With any other rule broken too.
	for _, s := range broken() {
		for at := range p.Steps {
			q := with(p, at, s)
			holds(t, q, rule(1, 0))
			q.Window = 5
			holds(t, q, rule(1, 0))
		}
	}
}

// broken are steps that each break one of the rules from 2 on at least, wherever they stand.
func broken() []api.Step {
	return []api.Step{
		plain(6), not(6), strict(not(1)), {Not: true, Max: 1}, {Not: true, Min: 1, Max: 2}, times(0, 1), times(2, 1), times(1, 4), asking(plain(1), ask(25)), asking(not(1), ask(25)), asking(plain(1), slices.Repeat([]api.Cmp{ask(0)}, 5)...),
	}
}

// P11.1: rule 2, the first step.
func TestRule2(t *testing.T) {
	alone(t, pattern(not(0)), 2, 0)
	alone(t, pattern(not(0), not(1)), 2, 0)
	alone(t, pattern(not(0), plain(1)), 2, 0)
	alone(t, pattern(not(0), not(1), plain(1), not(3), plain(2)), 2, 0)
	alone(t, pattern(strict(plain(0))), 2, 0)
	alone(t, pattern(strict(plain(0)), plain(1)), 2, 0)
	alone(t, pattern(strict(plain(0)), strict(plain(1)), not(2)), 2, 0)
	holds(t, pattern(plain(0), strict(plain(1)), strict(plain(1)), not(2)), may)
	holds(t, pattern(strict(not(0))), rule(2, 0))
	holds(t, pattern(strict(not(0)), strict(plain(1))), rule(2, 0))
	for _, first := range []api.Step{not(0), strict(plain(0)), strict(not(0)), {Not: true, Kind: 9, Strict: true, Max: 7}} {
		for _, s := range broken() {
			holds(t, pattern(first, s), rule(2, 0))
			holds(t, pattern(first, plain(1), s), rule(2, 0))
		}
	}
}

// P11.1: rule 3, each step's kind.
func TestRule3(t *testing.T) {
	for at, s := range six().Steps {
		for kind := range 6 {
			s.Kind = kind
			holds(t, with(six(), at, s), may)
		}
		for _, kind := range []int{6, 7, 255, 256, 1 << 32, top - 1, top} {
			s.Kind = kind
			alone(t, with(six(), at, s), 3, at)
			for behind := at + 1; behind < 6; behind++ {
				p := with(six(), at, s)
				p.Steps[behind].Kind = 6
				alone(t, p, 3, at, behind)
			}
		}
	}
	holds(t, pattern(plain(5)), may)
	alone(t, pattern(plain(6)), 3, 0)
}

// P11.1: rule 4, how often negative steps come, and what is strict.
func TestRule4(t *testing.T) {
	bases := []api.Pattern{pattern(plain(0), not(1)), pattern(plain(0), not(1), plain(2)), pattern(plain(0), not(1), not(2), not(3), plain(4)), six()}
	for _, p := range bases {
		holds(t, p, may)
		for at, s := range p.Steps {
			behindNot := at > 0 && p.Steps[at-1].Not
			switch {
			case s.Not:
				for _, bad := range []api.Step{{Not: true, Min: 0, Max: 1}, {Not: true, Min: 1, Max: 0}, {Not: true}, {Not: true, Min: 1, Max: 2}, {Not: true, Min: 2, Max: 1}, {Not: true, Min: 2, Max: 2}, {Not: true, Min: 3, Max: 3}, {Not: true, Min: 1, Max: top}, {Not: true, Min: top, Max: top}, strict(s)} {
					alone(t, with(p, at, bad), 4, at)
					alone(t, with(p, at, strict(bad)), 4, at)
				}
			case behindNot:
				alone(t, with(p, at, strict(s)), 4, at)
			case at > 0:
				holds(t, with(p, at, strict(s)), may)
			}
		}
	}
	two := api.Step{Not: true, Min: 1, Max: 2}
	alone(t, pattern(plain(0), not(1), strict(plain(2)), not(3), strict(plain(4))), 4, 2, 4)
	alone(t, pattern(plain(0), two, plain(1), two), 4, 1, 3)
	alone(t, pattern(plain(0), plain(1), two, strict(plain(4))), 4, 2, 3)
	alone(t, pattern(plain(0), not(1), strict(not(1))), 4, 2)
	alone(t, pattern(plain(0), strict(not(1)), plain(2), two), 4, 1, 3)
	// Behind a positive one a step may be strict, whatever stands further ahead.
	holds(t, pattern(plain(0), not(1), plain(2), strict(plain(3))), may)
	holds(t, pattern(plain(0), strict(plain(2)), not(1), plain(3)), may)
	holds(t, pattern(times(1, 2), strict(times(1, 2))), may)
}

// P11.1: rule 5, how often positive steps come.
func TestRule5(t *testing.T) {
	for least := range 7 {
		for most := range 7 {
			want := least >= 1 && least <= most && most <= 3
			for at := range 2 {
				p := with(pattern(plain(0), plain(1), not(2)), at, times(least, most))
				switch {
				case want:
					holds(t, p, may)
				case most <= 3:
					alone(t, p, 5, at)
				default:
					holds(t, p, rule(5, at))
				}
			}
			p := pattern(times(least, most))
			if want {
				holds(t, p, may)
			} else if most <= 4 {
				alone(t, p, 5, 0)
			}
		}
	}
	for _, n := range []int{4, 5, 255, 256, 257, 1 << 32, 1<<32 + 1, top - 1, top} {
		holds(t, pattern(plain(0), times(1, n)), rule(5, 1))
		holds(t, pattern(plain(0), times(n, n), not(1)), rule(5, 1))
		holds(t, pattern(plain(0), not(1), times(n, 1)), rule(5, 2))
		holds(t, pattern(times(1, n), times(1, n), times(1, n), times(1, n), times(1, n), times(1, n)), rule(5, 0))
	}
	alone(t, pattern(plain(0), times(0, 1), not(2), times(2, 1)), 5, 1, 3)
	alone(t, pattern(times(0, 0), times(0, 1)), 5, 0, 1)
	alone(t, pattern(plain(0), plain(1), times(0, 0)), 5, 2)
}

// P11.1: rule 6, how many events a match may have.
func TestRule6(t *testing.T) {
	for a := 1; a < 4; a++ {
		holds(t, pattern(times(1, a)), may)
		for b := 1; b < 4; b++ {
			for c := 1; c < 4; c++ {
				for least := 1; least <= min(a, b, c); least++ {
					p := pattern(times(least, a), not(1), times(least, b), times(1, c), not(2))
					if a+b+c <= 4 {
						holds(t, p, may)
					} else {
						alone(t, p, 6, 0)
					}
				}
			}
			if p := pattern(times(1, a), strict(times(1, b))); a+b <= 4 {
				holds(t, p, may)
			} else {
				alone(t, p, 6, 0)
			}
		}
	}
	holds(t, six(), may)
	for at, s := range six().Steps {
		if s.Not {
			alone(t, with(six(), at, plain(1)), 6, 0)
		} else {
			alone(t, with(six(), at, times(1, 2)), 6, 0)
			alone(t, with(six(), at, times(2, 3)), 6, 0)
		}
	}
	all := slices.Repeat([]api.Step{times(1, 3)}, 6)
	for n := 2; n <= 6; n++ {
		alone(t, pattern(all[:n]...), 6, 0)
		alone(t, pattern(slices.Repeat([]api.Step{times(3, 3)}, n)...), 6, 0)
	}
}

// P11.1: rule 7, how many comparisons a step has.
func TestRule7Many(t *testing.T) {
	for at, s := range six().Steps {
		for n := range 9 {
			for _, one := range []api.Cmp{{Op: 1}, {Op: 3, L: api.Term{Kind: 1, S: at}}, ask(0)} {
				p := with(six(), at, asking(s, slices.Repeat([]api.Cmp{one}, n)...))
				if n <= 4 {
					holds(t, p, may)
				} else {
					alone(t, p, 7, at)
				}
			}
		}
		many := slices.Repeat([]api.Cmp{{Op: 1}}, 5)
		alone(t, with(six(), at, asking(s, slices.Repeat(many, 20000)...)), 7, at)
		for behind := at + 1; behind < 6; behind++ {
			p := with(six(), at, asking(s, many...))
			p.Steps[behind].Cmps = many
			alone(t, p, 7, at, behind)
			p.Steps[at].Cmps = many[:4]
			alone(t, p, 7, behind)
		}
	}
}

// P11.1: rule 7, each step asking each one, by each kind of term, in each place, first and last among its comparisons.
func TestRule7Asked(t *testing.T) {
	for _, p := range []api.Pattern{six(), pattern(plain(0), times(1, 2), plain(1)), pattern(times(2, 2), not(1), plain(1)), pattern(plain(0), plain(1), times(1, 2)), pattern(times(1, 3), not(1)), pattern(plain(0)), pattern(plain(0), not(1), not(2))} {
		holds(t, p, may)
		for at, s := range p.Steps {
			for n := range 26 {
				for i, c := range asks(n, at) {
					q := with(p, at, asking(s, slices.Insert([]api.Cmp{{Op: 1}, ask(at), {Op: 2}}, i%4, c)...))
					if n == at || n < at && !p.Steps[n].Not && p.Steps[n].Max == 1 {
						holds(t, q, may)
					} else {
						alone(t, q, 7, at)
					}
				}
			}
		}
	}
}

// P11.1: rule 7, the one step of several, of one step's comparisons and of several steps', that may not be asked.
func TestRule7Several(t *testing.T) {
	dot := func(s, r int) api.Cmp {
		return api.Cmp{Op: 3, L: api.Term{Kind: api.TmDot, S: s, R: r}, R: api.Term{Kind: 1}}
	}
	p := pattern(plain(0), not(1), times(1, 2), plain(3))
	last := func(cmps ...api.Cmp) api.Pattern { return with(p, 3, asking(p.Steps[3], cmps...)) }
	holds(t, last(dot(0, 3), dot(3, 0), dot(0, 0), dot(3, 3)), may)
	for _, n := range []int{1, 2, 4, 5, 25} {
		for _, q := range []api.Pattern{last(dot(n, 0)), last(dot(0, n)), last(dot(3, n)), last(dot(n, 3)), last(dot(n, n)), last(ask(3), ask(0), ask(n)), last(ask(n), ask(0)), last(ask(0), ask(n), ask(n), ask(3))} {
			alone(t, q, 7, 3)
			alone(t, with(q, 0, asking(plain(0), ask(1))), 7, 0, 3)
			alone(t, with(q, 1, asking(not(0), ask(2))), 7, 1, 3)
			alone(t, with(q, 2, asking(times(1, 2), ask(1))), 7, 2, 3)
		}
	}
	// One that comes again and again asks itself, and no other one asks it.
	repeated := asking(times(1, 3), ask(1), dot(1, 0))
	holds(t, pattern(plain(0), repeated, not(2)), may)
	alone(t, pattern(plain(0), repeated, asking(not(2), ask(1))), 7, 2)
	// One of which Min and Max are the same is one of Max 2 too.
	alone(t, pattern(times(2, 2), asking(plain(1), ask(0))), 7, 1)
	// A negative one asks itself, and no other one asks it.
	holds(t, pattern(plain(0), asking(not(1), ask(1), dot(0, 1)), asking(not(1), ask(2), dot(2, 0))), may)
	alone(t, pattern(plain(0), asking(not(1), ask(1)), asking(not(1), dot(2, 1))), 7, 2)
}

// P11.1: of two rules the earlier one is told, even if a later step breaks it.
func TestTwoRules(t *testing.T) {
	// By rules from 3 on, what breaks that one alone, at any step from 1 on of a positive pattern; rule 6 is told of step 0 all the same.
	breaks := [8][]func(p *api.Pattern, at int){
		3: {func(p *api.Pattern, at int) { p.Steps[at].Kind = 6 }, func(p *api.Pattern, at int) { p.Steps[at].Kind = top }},
		4: {func(p *api.Pattern, at int) { p.Steps[at] = strict(not(p.Steps[at].Kind)) }, func(p *api.Pattern, at int) { p.Steps[at] = api.Step{Not: true, Kind: p.Steps[at].Kind, Max: 1} }},
		5: {func(p *api.Pattern, at int) { p.Steps[at].Min = 0 }, func(p *api.Pattern, at int) { p.Steps[at].Min = 2 }},
		6: {func(p *api.Pattern, at int) { p.Steps[at].Max = 3 }},
		7: {func(p *api.Pattern, at int) { p.Steps[at].Cmps = []api.Cmp{ask(25)} }, func(p *api.Pattern, at int) { p.Steps[at].Cmps = slices.Repeat([]api.Cmp{ask(0)}, 5) }},
	}
	base := pattern(plain(0), plain(1), plain(2), plain(3))
	for early, first := range breaks {
		for late := range breaks {
			for _, a := range first {
				for _, b := range breaks[late] {
					for at := 1; at < 4; at++ {
						for ahead := 0; ahead < at; ahead++ {
							p := tree.Own(base)
							b(&p, ahead)
							a(&p, at)
							want := at
							if early == 6 {
								want = 0
							}
							switch {
							case ahead == 0 && late == 4:
								holds(t, p, rule(2, 0))
							case early < late:
								holds(t, p, rule(early, want))
								p.Window = window + 1
								holds(t, p, rule(1, 0))
							}
						}
					}
				}
			}
		}
	}
}

// P11.2: how many negative steps stand at the end, and the last positive step ahead of each, of patterns written out.
func TestSteps(t *testing.T) {
	for _, c := range []struct {
		text string
		tail int
		head []int
	}{
		{"0a within 5", 0, []int{-1}}, {"0a;0b;0c within 5", 0, []int{-1, 0, 1}}, {"!0a within 5", 1, []int{-1}}, {"!0a;!0b;!0c within 5", 3, []int{-1, -1, -1}},
		{"0a;!0b within 5", 1, []int{-1, 0}}, {"0a;!0b;!0c;!0d within 5", 3, []int{-1, 0, 0, 0}}, {"0a;!0b;0c within 5", 0, []int{-1, 0, 0}}, {"0a;!0b;!0c;0d;!0e within 5", 1, []int{-1, 0, 0, 0, 3}},
		{"!0a;0b within 5", 0, []int{-1, -1}}, {"!0a;!0b;0c;0d;!0e;!0f within 5", 2, []int{-1, -1, -1, 2, 3, 3}}, {"0a;0b;0c;0d;0e;0f;0g;!0h within 5", 1, []int{-1, 0, 1, 2, 3, 4, 5, 6}},
	} {
		p := read(t, c.text)
		promised(t, p)
		if got := Tail(p); got != c.tail {
			t.Errorf("Tail(%s): %d, not %d", c.text, got, c.tail)
		}
		for i, want := range c.head {
			if got := Head(p, i); got != want {
				t.Errorf("Head(%s, %d): %d, not %d", c.text, i, got, want)
			}
		}
		for i := -9; i < 40; i++ {
			if got := Head(p, i); (i < 0 || i >= len(c.head)) && got != -1 {
				t.Errorf("Head(%s, %d): %d", c.text, i, got)
			}
		}
	}
	for _, p := range []api.Pattern{{}, {Window: 5}, {Steps: []api.Step{}}, {Steps: make([]api.Step, 0, 9)}, {Steps: make([]api.Step, 9)[:0]}} {
		if got := Tail(p); got != 0 {
			t.Errorf("Tail(%v): %d", p, got)
		}
		for _, i := range []int{-1, 0, 1, 5, math.MinInt, math.MaxInt} {
			if got := Head(p, i); got != -1 {
				t.Errorf("Head(%v, %d): %d", p, i, got)
			}
		}
	}
}

// P11.2: patterns of up to ten steps, each of them positive or negative, and of ever so many; what else they are makes no difference.
func TestStepsAll(t *testing.T) {
	for n := range 11 {
		for set := range 1 << n {
			p := api.Pattern{Window: 7 - n}
			for i := range n {
				p.Steps = append(p.Steps, api.Step{Not: set>>i&1 == 1, Kind: set - 9, Min: 3 - i, Max: i - 3, Strict: i%2 == 0})
			}
			promisedSteps(t, p)
		}
	}
	for _, n := range []int{26, 27, 64, 65, 300} {
		for at := range n {
			steps := slices.Repeat([]api.Step{not(1)}, n)
			promisedSteps(t, api.Pattern{Steps: steps})
			steps[at].Not = false
			p := api.Pattern{Steps: steps}
			if promisedSteps(t, p); Tail(p) != n-1-at || Head(p, at) != -1 || at < n-1 && Head(p, n-1) != at {
				t.Errorf("%d steps, a positive one at %d: %d, %d, %d", n, at, Tail(p), Head(p, at), Head(p, n-1))
			}
		}
	}
	many := api.Pattern{Steps: slices.Repeat([]api.Step{not(1)}, 1000000)}
	if got := [3]int{Tail(many), Head(many, 999999), Head(many, 1000000)}; got != [3]int{1000000, -1, -1} {
		t.Errorf("a million negative steps: %v", got)
	}
	many.Steps[3].Not = false
	if got := [4]int{Tail(many), Head(many, 999999), Head(many, 1000000), Head(many, 3)}; got != [4]int{999996, 3, -1, -1} {
		t.Errorf("a million steps, a positive one: %v", got)
	}
}

// P11.1 to P11.3: all patterns of two steps out of these, and of three of some of them.
func TestAll(t *testing.T) {
	var l []api.Step
	for set := range 4 {
		for least := range 5 {
			for most := range 5 {
				for _, kind := range []int{5, 6} {
					for _, cmps := range [][]api.Cmp{nil, {ask(0)}, {ask(1)}} {
						l = append(l, api.Step{Not: set&1 == 1, Strict: set&2 == 2, Kind: kind, Min: least, Max: most, Cmps: cmps})
					}
				}
			}
		}
	}
	by := map[answer]int{}
	for i, a := range l {
		by[promised(t, pattern(a))]++
		for _, b := range l {
			by[promised(t, pattern(a, b))]++
		}
		for j := range 200 {
			by[promised(t, pattern(plain(1), a, l[(i*7+j*31)%len(l)]))]++
		}
	}
	for _, want := range []answer{may, rule(2, 0), rule(3, 0), rule(3, 1), rule(3, 2), rule(4, 1), rule(4, 2), rule(5, 0), rule(5, 1), rule(5, 2), rule(6, 0), rule(7, 0), rule(7, 1), rule(7, 2)} {
		if by[want] == 0 {
			t.Errorf("none is %v", want)
		}
	}
}

// R1: nothing and empty mean the same.
func TestEmpty(t *testing.T) {
	for _, cmps := range [][]api.Cmp{nil, {}, make([]api.Cmp, 0, 5)} {
		s := plain(1)
		s.Cmps = cmps
		holds(t, pattern(s), may)
		s.Not = true
		holds(t, pattern(s), rule(2, 0))
	}
}

// R3, R4: a pattern is left as it was, spare room behind it included, and what is told hangs on nothing that was asked before.
func TestUnchanged(t *testing.T) {
	room := []api.Cmp{ask(0), {Op: 2, R: api.Term{Kind: 5, S: 1}}, ask(0), {Op: 1}, {Op: 9, L: api.Term{Kind: 9, N: 9, S: 9, R: 9}}}
	steps := []api.Step{plain(4), asking(plain(5), room[:4:5]...), not(2), {Not: true, Strict: true, Kind: -7, Min: -7, Max: -7, Cmps: room}}
	wasRoom, wasSteps := slices.Clone(room), tree.Own(api.Pattern{Steps: steps}).Steps
	p := api.Pattern{Steps: steps[:3], Window: 8}
	for _, other := range []api.Pattern{{}, {Steps: steps, Window: -1}, pattern(not(1)), pattern(plain(9), not(8), strict(plain(7))), pattern(times(1, 3), times(1, 3)), six()} {
		holds(t, p, may)
		promised(t, other)
		if Tail(p) != 1 || Head(p, 2) != 1 || Head(p, 3) != -1 || !Right(p) {
			t.Errorf("%v: %d, %d, %d, %v", p, Tail(p), Head(p, 2), Head(p, 3), Right(p))
		}
	}
	if !slices.Equal(room, wasRoom) || !reflect.DeepEqual(steps, wasSteps) {
		t.Errorf("they left %v, %v of %v, %v", room, steps, wasRoom, wasSteps)
	}
	// What is asked behind a change is told of what it is then.
	steps[1].Kind = 6
	holds(t, p, rule(3, 1))
	steps[1].Kind, room[3].L = 5, api.Term{Kind: 1, S: 2}
	holds(t, p, rule(7, 1))
}

// made is a pattern out of bytes, most of its numbers such as may be or next to it.
func made(b []byte) api.Pattern {
	next := func(most int) int {
		if len(b) == 0 {
			return 0
		}
		n := int(b[0]) % most
		b = b[1:]
		return n
	}
	spoilt := next(3)
	number := func(usual ...int) int {
		switch {
		case spoilt == 2 && next(200) == 199:
			return []int{-1, top + 1, math.MinInt, math.MaxInt}[next(4)]
		case spoilt >= 1 && next(10) == 9:
			return []int{0, 1, 2, 3, 4, 5, 6, 7, 25, 26, window + 1, top}[next(12)]
		}
		return usual[next(len(usual))]
	}
	term := func(i int) api.Term {
		one := api.Term{Kind: uint8(next(7)), N: number(0, -5, 9)}
		if one.Kind != api.TmNum {
			one.S = number(0, i, i, max(0, i-1))
		}
		if one.Kind >= api.TmDot {
			one.R = number(0, i, i, max(0, i-1))
		}
		return one
	}
	p := api.Pattern{Window: number(0, 5, 1000, window)}
	steps := 1 + next(6)
	if spoilt > 0 {
		steps = 1 + next(8)
	}
	for i := range steps {
		s := api.Step{Kind: number(0, 1, 5), Min: 1, Max: 1}
		s.Not = (i > 0 || spoilt == 2) && next(3) == 2
		s.Strict = (i > 0 || spoilt == 2) && next(4) == 3
		if next(3) == 2 {
			s.Min, s.Max = number(1, 1, 2), number(1, 2, 3)
		}
		for range next(4) / 2 * (1 + next(4+spoilt)) {
			s.Cmps = append(s.Cmps, api.Cmp{Op: uint8(1 + next(6)), L: term(i), R: term(i)})
		}
		p.Steps = append(p.Steps, s)
	}
	return p
}

// P11.1 to P11.3: patterns of all sorts.
func TestMade(t *testing.T) {
	seed, by := uint32(1), map[string]int{}
	for range 60000 {
		b := make([]byte, 200)
		for i := range b {
			seed = seed*1664525 + 1013904223
			b[i] = byte(seed >> 24)
		}
		got := promised(t, made(b))
		by[strconv.Itoa(int(got.e))+" "+strconv.Itoa(got.rule)]++
	}
	for _, want := range []string{"0 0", "2 0", "110 1", "110 2", "110 3", "110 4", "110 5", "110 6", "110 7"} {
		if by[want] < 500 {
			t.Errorf("of %s just %d: %v", want, by[want], by)
		}
	}
}

// P11.1 to P11.3: any pattern.
func FuzzCheck(f *testing.F) {
	f.Add([]byte{})
	f.Add([]byte{0, 1, 2, 0, 1, 2, 3, 1, 2, 3, 0, 1, 2, 3, 2, 1, 3, 2, 2, 1, 4, 1})
	f.Add([]byte{1, 9, 4, 7, 9, 6, 2, 3, 1, 9, 3, 3, 2, 3, 5, 9, 8, 2, 1, 9, 9, 9})
	f.Add([]byte{2, 199, 3, 5, 2, 3, 199, 3, 1, 2, 2, 2, 3, 2, 1, 5, 6, 199, 2})
	f.Fuzz(func(t *testing.T, b []byte) { promised(t, made(b)) })
}

// P11.1 to P11.3: any text's pattern.
func FuzzText(f *testing.F) {
	for _, text := range []string{"0a within 5", "!0a within 5", "0a;!1b{0,1},2c within 9", "0a;1b{1,3}[x(b)>x(a)+3&d(a,b)!=0] within 1073741825", "0a{2,1};6b[t(c)=t(b)];!1c within 5"} {
		f.Add(text)
	}
	f.Fuzz(func(t *testing.T, text string) {
		if p, _, e := parse.Parse(text); e == 0 {
			promised(t, p)
		}
	})
}

// P11.1, P11.2: any numbers.
func FuzzStep(f *testing.F) {
	f.Add(50, 1, 1, 1, 2, 1, 3, uint8(5), 0, 1, uint8(1), 1, 0, 1, false, true)
	f.Add(1<<30, 5, 1, 1, 5, 1, 1, uint8(0), 0, 0, uint8(2), 0, 0, 0, true, false)
	f.Fuzz(func(t *testing.T, within, kind, least, most, kind2, least2, most2 int, term uint8, s, r int, other uint8, s2, r2, i int, not, strict bool) {
		c := api.Cmp{Op: 1 + term%7, L: api.Term{Kind: term, S: s, R: r}, R: api.Term{Kind: other, S: s2, R: r2}}
		a := api.Step{Kind: kind, Min: least, Max: most}
		b := api.Step{Not: not, Strict: strict, Kind: kind2, Min: least2, Max: most2, Cmps: []api.Cmp{c}}
		for _, steps := range [][]api.Step{{a}, {b}, {a, b}, {b, a}, {a, b, a}, {a, b, b}} {
			p := api.Pattern{Steps: steps, Window: within}
			promised(t, p)
			if got := Head(p, i); i < 0 && got != -1 || i >= len(steps) && got != -1 {
				t.Fatalf("Head(%v, %d): %d", p, i, got)
			}
		}
	})
}
