package print

import (
	"fmt"
	"math"
	"reflect"
	"slices"
	"strings"
	"testing"

	"straggle/api"
	"straggle/parse"
	"straggle/tree"
)

const (
	top      = 1 << 40
	alphabet = "abcdefghijklmnopqrstuvwxyz"
)

// ways are the texts of the ways of comparing, in the order of their numbers, from 1 on.
var ways = []string{"<", "<=", "=", "!=", ">", ">="}

// answer is what Print tells.
type answer struct {
	text string
	e    api.Errno
}

// wrong is the answer of a pattern that may not be written, or whose first step is strict.
var wrong = answer{e: 2}

// long is the answer of one whose text is too long.
var long = answer{e: 91}

// told is what Print tells of a pattern.
func told(p api.Pattern) answer {
	text, e := Print(p)
	return answer{text, e}
}

// holds holds Print against an answer, and against what is promised of all patterns.
func holds(t *testing.T, p api.Pattern, want answer) {
	t.Helper()
	if got := promised(t, p); got != want {
		t.Errorf("Print(%.300v): %.300v, not %.300v", p, got, want)
	}
}

// promised holds what is told of a pattern against what is promised of all of them: P10.1 by the words of the chapters, P10.2 of each step, P10.4, R3, R4.
func promised(t *testing.T, p api.Pattern) answer {
	t.Helper()
	was := tree.Own(p)
	got := told(p)
	if want := byWords(p); got != want {
		t.Fatalf("Print(%.300v): %.300v, by the words %.300v", p, got, want)
	}
	for i, s := range p.Steps {
		promisedStep(t, s, i)
	}
	if !reflect.DeepEqual(tree.Own(p), was) {
		t.Fatalf("Print(%.300v): it was %.300v", p, was)
	}
	if told(p) != got {
		t.Fatalf("Print(%.300v): %.300v, then %.300v", p, got, told(p))
	}
	if got.e == 0 {
		parsedAgain(t, p, got.text)
	}
	return got
}

// parsedAgain holds a pattern against what is parsed of its text, and the text's blanks: P10.4.
func parsedAgain(t *testing.T, p api.Pattern, text string) {
	t.Helper()
	again, at, e := parse.Parse(text)
	if at != 0 || e != 0 || !tree.Same(again, p) {
		t.Fatalf("Print(%.300v): %.300q, parsed as %.300v, %d, %d", p, text, again, at, e)
	}
	if got := told(again); got.text != text || got.e != 0 {
		t.Fatalf("Print(%.300v): %.300q, of what it is parsed as %.300v", p, text, got)
	}
	steps, window, is := strings.Cut(text, " within ")
	if !is || strings.ContainsAny(steps+window, " \t\n") {
		t.Fatalf("Print(%.300v): %.300q, with other blanks", p, text)
	}
}

// promisedStep holds what is told of a step, its comparisons, and their terms against the words of the chapters.
func promisedStep(t *testing.T, s api.Step, i int) {
	t.Helper()
	want := ""
	if mayStep(s) && i >= 0 && i < 26 {
		want = stepWords(s, i)
	}
	if got := Step(s, i); got != want || Step(s, i) != got {
		t.Fatalf("Step(%.300v, %d): %.300q, then %.300q, not %.300q", s, i, got, Step(s, i), want)
	}
	// Of many alike just the ends.
	cmps := s.Cmps
	if len(cmps) > 20 {
		cmps = slices.Concat(cmps[:10], cmps[len(cmps)-10:])
	}
	for _, c := range cmps {
		promisedCmp(t, c)
	}
}

// promisedCmp holds what is told of a comparison and its terms against the words of the chapters.
func promisedCmp(t *testing.T, c api.Cmp) {
	t.Helper()
	want := ""
	if mayCmp(c) {
		want = cmpWords(c)
	}
	if got := Cmp(c); got != want || Cmp(c) != got {
		t.Fatalf("Cmp(%v): %q, then %q, not %q", c, got, Cmp(c), want)
	}
	promisedTerm(t, c.L)
	promisedTerm(t, c.R)
}

// promisedTerm holds what is told of a term against the words of the chapters.
func promisedTerm(t *testing.T, one api.Term) {
	t.Helper()
	want := ""
	if mayTerm(one) {
		want = termWords(one)
	}
	if got := Term(one); got != want || Term(one) != got {
		t.Fatalf("Term(%v): %q, then %q, not %q", one, got, Term(one), want)
	}
}

// byWords is what the chapters' words tell of a pattern.
func byWords(p api.Pattern) answer {
	may := len(p.Steps) >= 1 && len(p.Steps) <= 26 && p.Window >= 0 && p.Window <= top
	if !may || slices.ContainsFunc(p.Steps, func(s api.Step) bool { return !mayStep(s) }) || p.Steps[0].Strict {
		return wrong
	}
	text := ""
	for i, s := range p.Steps {
		switch {
		case s.Strict:
			text += ","
		case i != 0:
			text += ";"
		}
		text += stepWords(s, i)
	}
	text = fmt.Sprintf("%s within %d", text, p.Window)
	if len(text) > 2000 {
		return long
	}
	return answer{text: text}
}

// mayStep tells by the words whether a step may be written.
func mayStep(s api.Step) bool {
	for _, n := range []int{s.Kind, s.Min, s.Max} {
		if n < 0 || n > top {
			return false
		}
	}
	return !slices.ContainsFunc(s.Cmps, func(c api.Cmp) bool { return !mayCmp(c) })
}

// mayCmp tells by the words whether a comparison may be written.
func mayCmp(c api.Cmp) bool { return c.Op >= 1 && c.Op <= 6 && mayTerm(c.L) && mayTerm(c.R) }

// mayTerm tells by the words whether a term may be written.
func mayTerm(one api.Term) bool {
	name := func(n int) bool { return n >= 0 && n <= 25 }
	none := func(n int) bool { return n == 0 }
	if one.N < -top || one.N > top {
		return false
	}
	switch one.Kind {
	case 0:
		return none(one.S) && none(one.R)
	case 1, 2, 3, 4:
		return name(one.S) && none(one.R)
	case 5, 6:
		return name(one.S) && name(one.R)
	}
	return false
}

// stepWords is by the words the text of a step that may be written.
func stepWords(s api.Step, i int) string {
	not, times, cmps := "", "", ""
	if s.Not {
		not = "!"
	}
	if [2]int{s.Min, s.Max} != [2]int{1, 1} {
		times = fmt.Sprintf("{%d,%d}", s.Min, s.Max)
	}
	var l []string
	for _, c := range s.Cmps {
		l = append(l, cmpWords(c))
	}
	if len(l) > 0 {
		cmps = "[" + strings.Join(l, "&") + "]"
	}
	return fmt.Sprintf("%s%d%c%s%s", not, s.Kind, 'a'+i, times, cmps)
}

// cmpWords is by the words the text of a comparison that may be written.
func cmpWords(c api.Cmp) string { return termWords(c.L) + ways[c.Op-1] + termWords(c.R) }

// termWords is by the words the text of a term that may be written.
func termWords(one api.Term) string {
	number := ""
	if one.N != 0 {
		number = fmt.Sprintf("%+d", one.N)
	}
	switch {
	case one.Kind == 0:
		return fmt.Sprint(one.N)
	case one.Kind >= 5:
		return fmt.Sprintf("%c(%c,%c)%s", "dc"[one.Kind-5], 'a'+one.S, 'a'+one.R, number)
	}
	return fmt.Sprintf("%c(%c)%s", "txyn"[one.Kind-1], 'a'+one.S, number)
}

// of is a term of one kind.
func of(kind uint8, n, s, r int) api.Term { return api.Term{Kind: kind, N: n, S: s, R: r} }

// plain is a step that comes once.
func plain(kind int) api.Step { return api.Step{Kind: kind, Min: 1, Max: 1} }

// asking is a plain step with comparisons.
func asking(kind int, cmps ...api.Cmp) api.Step {
	s := plain(kind)
	s.Cmps = cmps
	return s
}

// pattern is one of these steps.
func pattern(window int, steps ...api.Step) api.Pattern {
	return api.Pattern{Steps: steps, Window: window}
}

// P10.1: patterns and their texts, written out.
func TestPrintGiven(t *testing.T) {
	one, two := of(api.TmNum, 1, 0, 0), of(api.TmNum, 2, 0, 0)
	is := api.Cmp{Op: api.OpIs, L: one, R: one}
	for text, p := range map[string]api.Pattern{
		"1a,2b{1,3}[x(b)<x(a)-5] within 60": pattern(60, plain(1),
			api.Step{Kind: 2, Min: 1, Max: 3, Strict: true, Cmps: []api.Cmp{{Op: api.OpLess, L: of(api.TmX, 0, 1, 0), R: of(api.TmX, -5, 0, 0)}}}),
		"0a within 0":                      pattern(0, plain(0)),
		"7a within 50":                     pattern(50, plain(7)),
		"!0a within 5":                     pattern(5, api.Step{Not: true, Min: 1, Max: 1}),
		"0a;1b within 5":                   pattern(5, plain(0), plain(1)),
		"0a,1b within 5":                   pattern(5, plain(0), api.Step{Kind: 1, Min: 1, Max: 1, Strict: true}),
		"0a;!2b;1c within 9":               pattern(9, plain(0), api.Step{Not: true, Kind: 2, Min: 1, Max: 1}, plain(1)),
		"0a,!2b within 9":                  pattern(9, plain(0), api.Step{Not: true, Strict: true, Kind: 2, Min: 1, Max: 1}),
		"0a,0b;0c,0d within 9":             pattern(9, plain(0), api.Step{Min: 1, Max: 1, Strict: true}, plain(0), api.Step{Min: 1, Max: 1, Strict: true}),
		"0a{0,0} within 9":                 pattern(9, api.Step{}),
		"0a{0,1} within 9":                 pattern(9, api.Step{Max: 1}),
		"0a{1,0} within 9":                 pattern(9, api.Step{Min: 1}),
		"3a{2,1} within 9":                 pattern(9, api.Step{Kind: 3, Min: 2, Max: 1}),
		"!3a{1,2}[1=1];4b within 9":        pattern(9, api.Step{Not: true, Kind: 3, Min: 1, Max: 2, Cmps: []api.Cmp{is}}, plain(4)),
		"0a[1=1] within 5":                 pattern(5, asking(0, is)),
		"0a[1=1&1=1] within 5":             pattern(5, asking(0, is, is)),
		"0a[1=1];0b[1=1&1=1&1=1] within 5": pattern(5, asking(0, is), asking(0, is, is, is)),
		"0a[0<-1&-1<=0&2!=1&1>2&2>=1] within 5": pattern(5, asking(0,
			api.Cmp{Op: api.OpLess, R: of(0, -1, 0, 0)}, api.Cmp{Op: api.OpMost, L: of(0, -1, 0, 0)}, api.Cmp{Op: api.OpNot, L: two, R: one}, api.Cmp{Op: api.OpMore, L: one, R: two}, api.Cmp{Op: api.OpLeast, L: two, R: one})),
		"0a[t(a)!=c(z,b)-7&d(c,d)+9<n(e)&y(f)+1=t(g)-1] within 5": pattern(5, asking(0,
			api.Cmp{Op: api.OpNot, L: of(api.TmTime, 0, 0, 0), R: of(api.TmCross, -7, 25, 1)},
			api.Cmp{Op: api.OpLess, L: of(api.TmDot, 9, 2, 3), R: of(api.TmNorm, 0, 4, 0)},
			api.Cmp{Op: api.OpIs, L: of(api.TmY, 1, 5, 0), R: of(api.TmTime, -1, 6, 0)})),
		"1099511627776a{1099511627776,1099511627776}[-1099511627776<x(z)-1099511627776&1099511627776>=d(z,z)+1099511627776] within 1099511627776": pattern(top,
			api.Step{Kind: top, Min: top, Max: top, Cmps: []api.Cmp{{Op: 1, L: of(0, -top, 0, 0), R: of(api.TmX, -top, 25, 0)}, {Op: 6, L: of(0, top, 0, 0), R: of(api.TmDot, top, 25, 25)}}}),
	} {
		holds(t, p, answer{text: text})
	}
}

// P10.1: patterns that may not be written, or whose first step is strict, written out.
func TestPrintWrong(t *testing.T) {
	strict := api.Step{Min: 1, Max: 1, Strict: true}
	cmp := func(l, r api.Term, op uint8) api.Step { return asking(0, api.Cmp{Op: op, L: l, R: r}) }
	zero := of(0, 0, 0, 0)
	for _, p := range []api.Pattern{
		{}, {Window: 5}, pattern(5, []api.Step{}...), pattern(-1), pattern(-1, plain(0)), pattern(top+1, plain(0)), pattern(math.MaxInt, plain(0)), pattern(math.MinInt, plain(0)),
		pattern(5, strict), pattern(5, strict, plain(1)), pattern(5, strict, strict), pattern(5, api.Step{Not: true, Min: 1, Max: 1, Strict: true}, plain(1)),
		pattern(5, plain(-1)), pattern(5, plain(top+1)), pattern(5, plain(math.MinInt)), pattern(5, plain(math.MaxInt)), pattern(5, plain(0), plain(-1)), pattern(5, plain(-1), plain(0)),
		pattern(5, api.Step{Min: -1, Max: 1}), pattern(5, api.Step{Min: top + 1, Max: 1}), pattern(5, api.Step{Min: 1, Max: -1}), pattern(5, api.Step{Min: 1, Max: top + 1}), pattern(5, plain(0), api.Step{Max: -1}),
		pattern(5, cmp(zero, zero, 0)), pattern(5, cmp(zero, zero, 7)), pattern(5, cmp(zero, zero, 255)), pattern(5, plain(1), cmp(zero, zero, 7), plain(2)),
		pattern(5, cmp(of(7, 0, 0, 0), zero, 1)), pattern(5, cmp(zero, of(7, 0, 0, 0), 1)), pattern(5, cmp(zero, of(255, 0, 0, 0), 1)), pattern(5, cmp(of(0, 0, 1, 0), zero, 1)), pattern(5, cmp(zero, of(0, 0, 0, 1), 1)),
		pattern(5, cmp(of(1, 0, 26, 0), zero, 1)), pattern(5, cmp(zero, of(1, 0, -1, 0), 1)), pattern(5, cmp(of(2, 0, 1, 1), zero, 1)), pattern(5, cmp(zero, of(5, 0, 0, 26), 1)), pattern(5, cmp(of(6, 0, 0, -1), zero, 1)),
		pattern(5, cmp(of(0, top+1, 0, 0), zero, 1)), pattern(5, cmp(zero, of(0, -top-1, 0, 0), 1)), pattern(5, cmp(zero, of(3, math.MinInt, 0, 0), 1)),
		pattern(5, asking(0, api.Cmp{Op: 1}, api.Cmp{Op: 1}, api.Cmp{})),
		pattern(5, slices.Repeat([]api.Step{plain(0)}, 27)...), pattern(5, slices.Repeat([]api.Step{plain(0)}, 3000)...),
	} {
		holds(t, p, wrong)
	}
}

// P10.1: 0 to 28 steps, with ; and with , ahead of each of them.
func TestSteps(t *testing.T) {
	for n := range 29 {
		p := pattern(5)
		for i := range n {
			p.Steps = append(p.Steps, plain(i))
		}
		if got := promised(t, p); (got.e == 0) != (n >= 1 && n <= 26) {
			t.Errorf("%d steps: %v", n, got)
		}
		for i := range n {
			p.Steps[i].Strict = true
			if got := promised(t, p); (got.e == 0) != (i > 0 && n <= 26) {
				t.Errorf("%d steps, the one of number %d strict: %v", n, i, got)
			}
			p.Steps[i].Strict = i%3 == 2
		}
		promised(t, p)
	}
	all, some := pattern(7), pattern(7)
	for i := range 26 {
		all.Steps = append(all.Steps, plain(1))
		some.Steps = append(some.Steps, api.Step{Not: i == 25, Kind: 1, Min: 1, Max: 1, Strict: i > 22})
	}
	holds(t, all, answer{text: "1a;1b;1c;1d;1e;1f;1g;1h;1i;1j;1k;1l;1m;1n;1o;1p;1q;1r;1s;1t;1u;1v;1w;1x;1y;1z within 7"})
	holds(t, some, answer{text: "1a;1b;1c;1d;1e;1f;1g;1h;1i;1j;1k;1l;1m;1n;1o;1p;1q;1r;1s;1t;1u;1v;1w,1x,1y,!1z within 7"})
}

// numbers are those at the bounds of what may be written, and next beyond them.
func numbers() []int {
	return []int{math.MinInt, -top - 1, -top, -256, -1, 0, 1, 2, 9, 10, 255, 256, 1 << 32, top - 1, top, top + 1, math.MaxInt}
}

// P10.1, P10.2: numbers at their bounds, and next beyond them, in each place that has one.
func TestNumbers(t *testing.T) {
	for _, n := range numbers() {
		may := n >= 0 && n <= top
		for _, p := range []api.Pattern{
			pattern(n, plain(0)), pattern(5, plain(n)), pattern(5, plain(0), api.Step{Min: n, Max: 1}), pattern(5, api.Step{Min: 1, Max: n}), pattern(5, api.Step{Min: n, Max: n}),
		} {
			if got := promised(t, p); (got.e == 0) != may || may && n != 1 && !strings.Contains(got.text, fmt.Sprint(n)) {
				t.Errorf("Print(%v): %v", p, got)
			}
		}
	}
	for _, s := range []struct {
		least, most int
		text        string
	}{
		{1, 1, "4a"}, {0, 0, "4a{0,0}"}, {0, 1, "4a{0,1}"}, {1, 0, "4a{1,0}"}, {1, 2, "4a{1,2}"}, {2, 1, "4a{2,1}"}, {2, 2, "4a{2,2}"}, {3, 11, "4a{3,11}"}, {top, 0, "4a{1099511627776,0}"},
	} {
		holds(t, pattern(5, api.Step{Kind: 4, Min: s.least, Max: s.most}), answer{text: s.text + " within 5"})
	}
}

// P10.2: terms and their texts, written out.
func TestTermGiven(t *testing.T) {
	for text, one := range map[string]api.Term{
		"0": of(0, 0, 0, 0), "1": of(0, 1, 0, 0), "-1": of(0, -1, 0, 0), "40": of(0, 40, 0, 0), "1099511627776": of(0, top, 0, 0), "-1099511627776": of(0, -top, 0, 0),
		"t(a)": of(api.TmTime, 0, 0, 0), "t(b)+1": of(api.TmTime, 1, 1, 0), "t(z)-1": of(api.TmTime, -1, 25, 0),
		"x(a)": of(api.TmX, 0, 0, 0), "x(c)+40": of(api.TmX, 40, 2, 0), "x(a)-5": of(api.TmX, -5, 0, 0),
		"y(m)": of(api.TmY, 0, 12, 0), "y(d)+1099511627776": of(api.TmY, top, 3, 0), "y(e)-1099511627776": of(api.TmY, -top, 4, 0),
		"n(z)": of(api.TmNorm, 0, 25, 0), "n(f)+10": of(api.TmNorm, 10, 5, 0), "n(g)-10": of(api.TmNorm, -10, 6, 0),
		"d(a,a)": of(api.TmDot, 0, 0, 0), "d(c,a)": of(api.TmDot, 0, 2, 0), "d(a,c)+1": of(api.TmDot, 1, 0, 2), "d(z,y)-1": of(api.TmDot, -1, 25, 24),
		"c(a,a)": of(api.TmCross, 0, 0, 0), "c(a,z)": of(api.TmCross, 0, 0, 25), "c(z,a)+7": of(api.TmCross, 7, 25, 0), "c(k,l)-77": of(api.TmCross, -77, 10, 11),
	} {
		if got := Term(one); got != text {
			t.Errorf("Term(%v): %q, not %q", one, got, text)
		}
		promisedTerm(t, one)
	}
	// These may not be written.
	for _, one := range []api.Term{
		of(7, 0, 0, 0), of(8, 1, 1, 1), of(255, 0, 0, 0), of(0, top+1, 0, 0), of(0, -top-1, 0, 0), of(1, math.MinInt, 0, 0), of(6, math.MaxInt, 0, 0),
		of(0, 0, 1, 0), of(0, 0, 0, 1), of(0, 0, -1, 0), of(0, 0, 0, -1), of(0, 5, 26, 26),
		of(1, 0, -1, 0), of(2, 0, 26, 0), of(3, 0, math.MaxInt, 0), of(4, 0, math.MinInt, 0), of(1, 0, 0, 1), of(2, 0, 3, 3), of(3, 1, 0, -1), of(4, 0, 0, 25),
		of(5, 0, -1, 0), of(5, 0, 0, -1), of(5, 0, 26, 0), of(5, 0, 0, 26), of(6, 0, -1, 0), of(6, 0, 0, -1), of(6, 0, 26, 0), of(6, 0, 0, 26), of(6, 0, 256, 0), of(6, 0, 0, 256),
	} {
		if got := Term(one); got != "" {
			t.Errorf("Term(%v): %q", one, got)
		}
		promisedTerm(t, one)
	}
}

// P10.2: each kind of term, those beyond included, with each number and with names of all sorts.
func TestTerms(t *testing.T) {
	texts, some := map[string]api.Term{}, []int{math.MinInt, -256, -1, 0, 1, 13, 25, 26, 256, math.MaxInt}
	try := func(one api.Term) {
		promisedTerm(t, one)
		text := Term(one)
		if other, is := texts[text]; is && text != "" && other != one {
			t.Fatalf("Term: of %v and of %v %q", one, other, text)
		}
		texts[text] = one
	}
	for kind := range 256 {
		for _, n := range numbers() {
			for _, s := range some {
				for _, r := range some {
					try(of(uint8(kind), n, s, r))
				}
			}
		}
	}
	for kind := range 9 {
		for n := -1; n <= 1; n++ {
			for s := -2; s <= 27; s++ {
				for r := -2; r <= 27; r++ {
					try(of(uint8(kind), n, s, r))
				}
			}
		}
	}
	// Of 7 kinds with 3 numbers, and those with others: 1 of none, 4 of one name, 2 of two.
	if least := 3 * (1 + 4*26 + 2*26*26); len(texts) < least {
		t.Errorf("only %d texts, not %d", len(texts), least)
	}
}

// terms are some of each kind, and some that may not be written.
func terms() []api.Term {
	var l []api.Term
	for _, n := range []int{0, 1, -1, 255, -top, top + 1} {
		l = append(l, of(api.TmNum, n, 0, 0), of(api.TmTime, n, 0, 0), of(api.TmX, n, 1, 0), of(api.TmY, n, 25, 0), of(api.TmNorm, n, 13, 0))
		l = append(l, of(api.TmDot, n, 0, 1), of(api.TmDot, n, 2, 0), of(api.TmCross, n, 25, 24), of(api.TmCross, n, 7, 7))
		l = append(l, of(api.Terms, n, 0, 0), of(api.TmNum, n, 1, 0), of(api.TmX, n, 0, 1), of(api.TmNorm, n, 26, 0), of(api.TmDot, n, 0, 26), of(api.TmCross, n, -1, 0))
	}
	return l
}

// P10.2: comparisons and their texts, written out.
func TestCmpGiven(t *testing.T) {
	five, dot, time := of(0, -5, 0, 0), of(api.TmDot, 3, 1, 0), of(api.TmTime, 0, 2, 0)
	for text, c := range map[string]api.Cmp{
		"-5<d(b,a)+3": {Op: api.OpLess, L: five, R: dot}, "d(b,a)+3<=-5": {Op: api.OpMost, L: dot, R: five}, "t(c)=t(c)": {Op: api.OpIs, L: time, R: time},
		"-5!=-5": {Op: api.OpNot, L: five, R: five}, "t(c)>-5": {Op: api.OpMore, L: time, R: five}, "d(b,a)+3>=t(c)": {Op: api.OpLeast, L: dot, R: time}, "0<0": {Op: api.OpLess},
	} {
		if got := Cmp(c); got != text {
			t.Errorf("Cmp(%v): %q, not %q", c, got, text)
		}
		promisedCmp(t, c)
	}
	for _, c := range []api.Cmp{{}, {L: five, R: five}, {Op: 7, L: five, R: five}, {Op: 255}, {Op: 1, L: of(7, 0, 0, 0)}, {Op: 1, R: of(7, 0, 0, 0)}, {Op: 6, L: of(0, 0, 1, 0), R: dot}, {Op: 6, L: dot, R: of(5, 0, 0, 26)}} {
		if got := Cmp(c); got != "" {
			t.Errorf("Cmp(%v): %q", c, got)
		}
		promisedCmp(t, c)
	}
}

// P10.2: each two terms, by each way of comparing; and every way that there is not.
func TestCmps(t *testing.T) {
	for i, l := range terms() {
		for j, r := range terms() {
			for op := range uint8(9) {
				c := api.Cmp{Op: op, L: l, R: r}
				promisedCmp(t, c)
				if int(op)%3 == (i+j)%3 {
					promised(t, pattern(5, asking(i, c)))
				}
			}
		}
	}
	for op := range 256 {
		c := api.Cmp{Op: uint8(op), L: of(1, 0, 0, 0), R: of(0, 3, 0, 0)}
		if got := Cmp(c); (got != "") != (op >= 1 && op <= 6) {
			t.Errorf("Cmp(%v): %q", c, got)
		}
		promised(t, pattern(5, asking(1, c)))
	}
}

// P10.2: steps and their texts, written out.
func TestStepGiven(t *testing.T) {
	c := api.Cmp{Op: api.OpMore, L: of(api.TmX, 3, 0, 0), R: of(0, -2, 0, 0)}
	for _, one := range []struct {
		s    api.Step
		i    int
		text string
	}{
		{plain(0), 0, "0a"}, {plain(7), 25, "7z"}, {plain(top), 1, "1099511627776b"}, {api.Step{}, 2, "0c{0,0}"}, {api.Step{Kind: 12, Min: 1, Max: 3}, 3, "12d{1,3}"},
		{api.Step{Not: true, Kind: 2, Min: 1, Max: 1}, 4, "!2e"}, {api.Step{Not: true, Strict: true, Kind: 2, Min: 2, Max: 1}, 5, "!2f{2,1}"}, {api.Step{Strict: true, Min: 1, Max: 1}, 0, "0a"}, {api.Step{Strict: true, Min: 1, Max: 1}, 6, "0g"},
		{asking(5, c), 7, "5h[x(a)+3>-2]"}, {asking(5, c, c), 8, "5i[x(a)+3>-2&x(a)+3>-2]"}, {asking(5, []api.Cmp{}...), 9, "5j"},
		{api.Step{Not: true, Strict: true, Kind: 5, Min: 0, Max: 2, Cmps: []api.Cmp{c}}, 10, "!5k{0,2}[x(a)+3>-2]"},
		{plain(0), -1, ""}, {plain(0), 26, ""}, {plain(0), 27, ""}, {plain(0), 256, ""}, {plain(0), math.MinInt, ""}, {plain(0), math.MaxInt, ""}, {asking(5, c), -1, ""}, {asking(5, c), 26, ""},
		{plain(-1), 0, ""}, {plain(top + 1), 0, ""}, {api.Step{Min: -1, Max: 1}, 0, ""}, {api.Step{Min: 1, Max: -1}, 0, ""}, {api.Step{Min: top + 1, Max: 1}, 0, ""}, {api.Step{Min: 1, Max: top + 1}, 0, ""},
		{asking(5, c, api.Cmp{}), 0, ""}, {asking(5, api.Cmp{Op: 7}, c), 0, ""}, {asking(5, c, api.Cmp{Op: 1, R: of(7, 0, 0, 0)}, c), 0, ""}, {asking(5, api.Cmp{Op: 1, L: of(0, 0, 0, 1)}), 0, ""}, {plain(-1), -1, ""},
	} {
		if got := Step(one.s, one.i); got != one.text {
			t.Errorf("Step(%v, %d): %q, not %q", one.s, one.i, got, one.text)
		}
		promisedStep(t, one.s, one.i)
	}
}

// shapes are steps with and without each of their parts.
func shapes() []api.Step {
	cmps := []api.Cmp{
		{Op: 1, L: of(0, -3, 0, 0), R: of(api.TmTime, 0, 0, 0)}, {Op: 4, L: of(api.TmDot, 2, 3, 1), R: of(api.TmX, -2, 2, 0)}, {Op: 6, L: of(api.TmCross, 0, 2, 2), R: of(0, 9, 0, 0)},
	}
	var l []api.Step
	for set := range 32 {
		s := api.Step{Not: set&1 == 1, Strict: set&2 == 2, Kind: set, Min: 1, Max: 1, Cmps: cmps[:set>>3]}
		if set&4 == 4 {
			s.Min, s.Max = set/8, 9-set/4
		}
		l = append(l, s)
	}
	return l
}

// P10.1, P10.2: steps with and without each of their parts, each one of each number, and beside each other one.
func TestShapes(t *testing.T) {
	for j, a := range shapes() {
		for i := -3; i < 30; i++ {
			promisedStep(t, a, i)
			bad := a
			bad.Kind = -1
			promisedStep(t, bad, i)
		}
		promised(t, pattern(7, a))
		for i, b := range shapes() {
			promised(t, pattern(7, a, b))
			promised(t, pattern(j, a, shapes()[(i+j)%32], b, shapes()[(i+5)%32]))
			first := a
			first.Strict = false
			promised(t, pattern(i, first, b, shapes()[(i+7)%32]))
		}
	}
}

// P10.2: a step's text has no bound, and a step of as many comparisons as there may be is told whole.
func TestLongStep(t *testing.T) {
	c := api.Cmp{Op: 4, L: of(api.TmCross, -top, 25, 24), R: of(api.TmDot, top, 23, 22)}
	for _, n := range []int{1, 4, 5, 46, 47, 48, 1000} {
		s := asking(3, slices.Repeat([]api.Cmp{c}, n)...)
		promisedStep(t, s, 25)
		if got := Step(s, 25); len(got) != 2+42*n+1+n-1+1 {
			t.Errorf("Step of %d comparisons: %d bytes", n, len(got))
		}
		if got := promised(t, pattern(5, s)); (got.e == 91) != (n >= 47) {
			t.Errorf("Print of %d comparisons: %.300v", n, got)
		}
	}
}

// P10.3: the texts of the ways of comparing, of each number.
func TestOp(t *testing.T) {
	for op := range 256 {
		want := ""
		if op >= 1 && op <= 6 {
			want = ways[op-1]
		}
		if got := Op(uint8(op)); got != want || Op(uint8(op)) != want {
			t.Errorf("Op(%d): %q, not %q", op, got, want)
		}
	}
	if got := Op(api.OpLess) + Op(api.OpMost) + Op(api.OpIs) + Op(api.OpNot) + Op(api.OpMore) + Op(api.OpLeast); got != "<<==!=>>=" {
		t.Errorf("Op: %q", got)
	}
}

// P10.3: the letters of the numbers from 0 to 25, and of no other ones.
func TestLetter(t *testing.T) {
	for i := -300; i < 600; i++ {
		want := ""
		if i >= 0 && i < 26 {
			want = alphabet[i : i+1]
		}
		if got := Letter(i); got != want || Letter(i) != want {
			t.Errorf("Letter(%d): %q, not %q", i, got, want)
		}
	}
	for _, i := range []int{math.MinInt, math.MinInt + 1, -1 << 32, 1 << 32, 1<<32 + 5, math.MaxInt} {
		if got := Letter(i); got != "" {
			t.Errorf("Letter(%d): %q", i, got)
		}
	}
	if got := Letter(0) + Letter(1) + Letter(25); got != "abz" {
		t.Errorf("Letter: %q", got)
	}
}

// ofLong is a pattern whose text has so many bytes, from 16 on.
func ofLong(n int) api.Pattern {
	// Of its comparisons each has four bytes with the sign ahead, and the last one up to three more.
	p := pattern(5, asking(0, slices.Repeat([]api.Cmp{{Op: 1}}, (n-12)/4)...))
	last := &p.Steps[0].Cmps[(n-12)/4-1].R
	last.N = []int{0, 10, 100, 1000}[(n-12)%4]
	return p
}

// P10.1: texts of as many bytes as may be, and of more.
func TestLong(t *testing.T) {
	for n := 1900; n < 2100; n++ {
		p := ofLong(n)
		text := byWordsOf(p)
		if len(text) != n {
			t.Fatalf("%d bytes, not %d", len(text), n)
		}
		if n <= 2000 {
			holds(t, p, answer{text: text})
		} else {
			holds(t, p, long)
		}
	}
	// One more byte in each place that a number, a sign, or a step has.
	for _, more := range []func(p *api.Pattern){
		func(p *api.Pattern) { p.Window = 10 }, func(p *api.Pattern) { p.Steps[0].Kind = 10 }, func(p *api.Pattern) { p.Steps[0].Not = true }, func(p *api.Pattern) { p.Steps[0].Cmps[0].Op = 2 },
		func(p *api.Pattern) { p.Steps[0].Cmps[0].L.N = -1 }, func(p *api.Pattern) { p.Steps[0].Cmps[400].R.N = -7 },
	} {
		for n := 1998; n <= 2001; n++ {
			p := ofLong(n)
			more(&p)
			if got := promised(t, p); got.e != 0 && n < 2000 || got.e != 91 && n >= 2000 {
				t.Errorf("Print: %d and one more: %.300v", n, got)
			}
		}
	}
	for n := 1980; n <= 2020; n++ {
		for _, s := range []api.Step{plain(1), {Kind: 1, Min: 1, Max: 1, Strict: true}, {Not: true, Kind: 1, Min: 1, Max: 1}, {Kind: 1}, asking(1, api.Cmp{Op: 1})} {
			p := ofLong(n)
			p.Steps = append(p.Steps, s)
			bytes := n + 1 + len(stepWords(s, 1))
			if got := promised(t, p); (got.e == 0) != (bytes <= 2000) {
				t.Errorf("Print: %d bytes: %.300v", bytes, got)
			}
		}
	}
}

// byWordsOf is by the words the text of a pattern of one step that may be written, however long.
func byWordsOf(p api.Pattern) string {
	return fmt.Sprintf("%s within %d", stepWords(p.Steps[0], 0), p.Window)
}

// P10.1: what may not be written goes ahead of what is too long, wherever it stands.
func TestWrongFirst(t *testing.T) {
	for _, n := range []int{1990, 2000, 2001, 5000, 100000} {
		for _, spoil := range []func(p *api.Pattern){
			func(p *api.Pattern) { p.Window = -1 }, func(p *api.Pattern) { p.Window = top + 1 }, func(p *api.Pattern) { p.Steps[0].Strict = true }, func(p *api.Pattern) { p.Steps[0].Max = -1 },
			func(p *api.Pattern) { p.Steps[0].Cmps[0].Op = 0 }, func(p *api.Pattern) { p.Steps[0].Cmps[(n-12)/4-1].R.Kind = 7 }, func(p *api.Pattern) { p.Steps = append(p.Steps, plain(-1)) },
			func(p *api.Pattern) { p.Steps = append(p.Steps, asking(1, api.Cmp{Op: 9})) }, func(p *api.Pattern) { p.Steps = slices.Repeat(p.Steps, 27) }, func(p *api.Pattern) { p.Steps = nil },
		} {
			p := ofLong(n)
			spoil(&p)
			if got := told(p); got != wrong {
				t.Errorf("Print: %d bytes, and wrong: %.300v", n, got)
			}
		}
	}
	p := pattern(5, slices.Repeat([]api.Step{ofLong(1900).Steps[0]}, 26)...)
	holds(t, p, long)
	p.Steps[25].Kind = -1
	holds(t, p, wrong)
	p.Steps[25].Kind, p.Steps[25].Strict = 1, true
	holds(t, p, long)
	p.Steps[0].Strict = true
	holds(t, p, wrong)
}

// R1, R3: nothing and empty mean the same.
func TestEmpty(t *testing.T) {
	for _, cmps := range [][]api.Cmp{nil, {}, make([]api.Cmp, 0, 5)} {
		s := asking(3, cmps...)
		s.Cmps = cmps
		holds(t, pattern(5, s), answer{text: "3a within 5"})
		if got := Step(s, 1); got != "3b" {
			t.Errorf("Step(%v, 1): %q", s, got)
		}
	}
	for _, steps := range [][]api.Step{nil, {}, make([]api.Step, 0, 5)} {
		holds(t, api.Pattern{Steps: steps, Window: 5}, wrong)
	}
}

// R3, R4: what is printed is left as it was, spare room behind it included, and hangs on nothing that was asked before.
func TestUnchanged(t *testing.T) {
	room := []api.Cmp{{Op: 1, L: of(1, 2, 3, 0)}, {Op: 2, R: of(5, 6, 7, 8)}, {Op: 9, L: of(9, 9, 9, 9)}}
	steps := []api.Step{asking(4, room[:1]...), asking(5, room[:2]...), {Not: true, Kind: -7, Min: -7, Max: -7, Cmps: room}}
	steps[1].Strict = true
	wasRoom, wasSteps := slices.Clone(room), tree.Own(pattern(0, steps...)).Steps
	p := api.Pattern{Steps: steps[:2], Window: 8}
	want := answer{text: "4a[t(d)+2<0],5b[t(d)+2<0&0<=d(h,i)+6] within 8"}
	holds(t, p, want)
	told(api.Pattern{Steps: steps, Window: 8})
	told(pattern(3, api.Step{Strict: true}))
	told(ofLong(2001))
	for i, s := range steps {
		Step(s, i)
	}
	if !slices.Equal(room, wasRoom) || !reflect.DeepEqual(steps, wasSteps) {
		t.Errorf("Print: it left %v, %v of %v, %v", room, steps, wasRoom, wasSteps)
	}
	holds(t, p, want)
	got := told(p)
	clear(room)
	clear(steps)
	if got != want {
		t.Errorf("Print: %v, and its pattern cleared %v", want, got)
	}
}

// made is a pattern out of bytes; some of them may not be written.
func made(b []byte) api.Pattern {
	next := func(most int) int {
		if len(b) == 0 {
			return 0
		}
		n := int(b[0]) % most
		b = b[1:]
		return n
	}
	spoilt := next(4) == 1
	number := func() int {
		if spoilt && next(40) == 39 {
			return []int{-1, top + 1, math.MinInt, math.MaxInt}[next(4)]
		}
		return []int{0, 1, 2, 3, 10, 255, 256, 1 << 32, top - 1, top}[next(10)]
	}
	name := func() int {
		if spoilt && next(40) == 39 {
			return []int{-1, 26, math.MinInt, math.MaxInt}[next(4)]
		}
		return next(26)
	}
	kind := func(most int) uint8 {
		if spoilt && next(40) == 39 {
			return uint8(most + next(200))
		}
		return uint8(next(most))
	}
	term := func() api.Term {
		one := of(kind(7), number()*(1-2*next(2)), 0, 0)
		if one.Kind != api.TmNum {
			one.S = name()
		}
		if one.Kind >= api.TmDot {
			one.R = name()
		}
		return one
	}
	p := api.Pattern{Window: number()}
	for n := 1 + next(26); n > 0; n-- {
		s := api.Step{Not: next(3) == 1, Strict: next(3) == 1 && len(p.Steps) > 0, Kind: number(), Min: 1, Max: 1}
		if next(3) == 1 {
			s.Min, s.Max = number(), number()
		}
		for range next(4) * (1 + next(3)) {
			s.Cmps = append(s.Cmps, api.Cmp{Op: 1 + kind(6), L: term(), R: term()})
		}
		p.Steps = append(p.Steps, s)
	}
	return p
}

// P10.1, P10.2, P10.4: patterns of all sorts.
func TestMade(t *testing.T) {
	seed, by := uint32(1), map[api.Errno]int{}
	for range 1500 {
		b := make([]byte, 2000)
		for i := range b {
			seed = seed*1664525 + 1013904223
			b[i] = byte(seed >> 24)
		}
		by[promised(t, made(b)).e]++
	}
	if by[0] < 500 || by[2] < 100 || by[91] < 50 {
		t.Errorf("by errors: %v", by)
	}
}

// P10.1, P10.2, P10.4: any pattern.
func FuzzPrint(f *testing.F) {
	f.Add([]byte{})
	f.Add([]byte{3, 2, 1, 0, 5, 1, 2, 3, 3, 1, 5, 3, 1, 2, 6, 4, 0, 9, 8})
	f.Add([]byte{1, 39, 0, 5, 39, 1, 2, 3, 3, 1, 39, 3, 1, 2, 6, 39, 0, 9, 8})
	f.Fuzz(func(t *testing.T, b []byte) { promised(t, made(b)) })
}

// P10.2: any term, comparison and step.
func FuzzStep(f *testing.F) {
	f.Add(uint8(6), 1, 2, 3, uint8(5), -4, 5, 6, uint8(3), 7, 8, 9, 10, true, false)
	f.Add(uint8(0), 0, 0, 0, uint8(7), 0, 0, 26, uint8(7), -1, 1, 1, 26, false, true)
	f.Fuzz(func(t *testing.T, kind uint8, n, s, r int, other uint8, n2, s2, r2 int, op uint8, number, least, most, i int, not, strict bool) {
		c := api.Cmp{Op: op, L: of(kind, n, s, r), R: of(other, n2, s2, r2)}
		one := api.Step{Not: not, Kind: number, Min: least, Max: most, Strict: strict, Cmps: []api.Cmp{c}}
		promisedStep(t, one, i)
		promised(t, pattern(number, one, one))
		one.Strict = false
		promised(t, pattern(most, one, one))
	})
}

// P10.4: a text that is parsed, printed, and parsed again.
func FuzzParsed(f *testing.F) {
	for _, text := range []string{"0a within 50", "1a , 2b{1,3} [ x(b) < x(a)-5 ] within 60", "!7a{1,1}[-0<=x(a)+0&d(a,z)-1>=c(c,b)+1],!2b;3c within 1099511627776"} {
		f.Add(text)
	}
	f.Fuzz(func(t *testing.T, text string) {
		if p, _, e := parse.Parse(text); e == 0 {
			promised(t, p)
		}
	})
}
