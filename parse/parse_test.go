package parse

import (
	"regexp"
	"slices"
	"strconv"
	"strings"
	"testing"

	"straggle/api"
	"straggle/lex"
	"straggle/tree"
)

const (
	top     = 1 << 40
	letters = "abcdefghijklmnopqrstuvwxyz"
)

// ways are the texts of the ways of comparing, in the order of their numbers, from 1 on.
var ways = []string{"<", "<=", "=", "!=", ">", ">="}

// answer is what Parse tells.
type answer struct {
	p  api.Pattern
	at int
	e  api.Errno
}

// right is the answer of a pattern of these steps.
func right(window int, steps ...api.Step) answer {
	return answer{p: api.Pattern{Steps: steps, Window: window}}
}

// wrong is the answer of a text with a token that may not stand there.
func wrong(at int) answer { return answer{at: at, e: 90} }

// unread is the answer of a text with a byte that begins no token.
func unread(at int) answer { return answer{at: at, e: 70} }

// told is what Parse tells of a text.
func told(text string) answer {
	p, at, e := Parse(text)
	return answer{p, at, e}
}

// same tells whether both answers are the same.
func same(a, b answer) bool { return tree.Same(a.p, b.p) && a.at == b.at && a.e == b.e }

// holds holds Parse against an answer, and against what is promised of all texts.
func holds(t *testing.T, text string, want answer) {
	t.Helper()
	got := promised(t, text)
	if !same(got, want) {
		t.Errorf("Parse(%.80q): %v, not %v", text, got, want)
	}
}

// promised holds what is told of a text against what is promised of all texts: P9.1 by the chapter's words, and P9.2.
func promised(t *testing.T, text string) answer {
	t.Helper()
	got := told(text)
	if want := byWords(text); !same(got, want) {
		t.Fatalf("Parse(%.80q): %v, by the words %v", text, got, want)
	}
	if Right(text) != (got.e == 0) {
		t.Fatalf("Right(%.80q): %v, but Parse: %v", text, Right(text), got)
	}
	if !same(told(text), got) {
		t.Fatalf("Parse(%.80q): %v, then %v", text, got, told(text))
	}
	switch got.e {
	case 0:
		if got.at != 0 || !tree.Right(got.p) {
			t.Fatalf("Parse(%.80q): %v, which may not be written", text, got)
		}
	case 70, 90, 91:
		if got.p.Steps != nil || got.p.Window != 0 {
			t.Fatalf("Parse(%.80q): %v", text, got)
		}
	default:
		t.Fatalf("Parse(%.80q): %v", text, got)
	}
	if got.e == 90 {
		cutThere(t, text, got.at)
	}
	return got
}

// cutThere holds what is told of a text that is wrong at a token against what is told of it cut behind that token, and ahead of it: it is wrong there still, but for that a whole pattern may stand ahead.
func cutThere(t *testing.T, text string, at int) {
	t.Helper()
	tokens, _, _ := lex.All(text)
	i := slices.IndexFunc(tokens, func(one api.Token) bool { return one.At == at })
	if i < 0 {
		t.Fatalf("Parse(%.80q): wrong at %d, where no token begins", text, at)
	}
	if cut := text[:at+len(lex.Text(tokens[i]))]; !same(told(cut), wrong(at)) {
		t.Fatalf("Parse(%.80q): wrong at %d, but %.80q: %v", text, at, cut, told(cut))
	}
	if got := told(text[:at]); got.e != 0 && !same(got, wrong(at)) {
		t.Fatalf("Parse(%.80q): wrong at %d, but %.80q: %v", text, at, text[:at], got)
	}
}

// byWords is what the chapter's words tell of a text.
func byWords(text string) answer {
	tokens, at, e := lex.All(text)
	if e != 0 {
		return answer{at: at, e: e}
	}
	g := grammar{tokens: tokens}
	if !g.steps(0)(0, func(int) bool { return true }) {
		return wrong(tokens[g.far].At)
	}
	return answer{p: patternOf(text)}
}

// grammar is the chapter's, of the tokens of one text: all its ways are gone. The farthest token that no way lets stand is the first that may not.
type grammar struct {
	tokens []api.Token
	far    int
}

// part is one of the grammar's: does it stand at that token, and then, behind it, what must follow?
type part func(at int, then func(at int) bool) bool

// row is words of the grammar, one behind the other, each with its choices.
func (g *grammar) row(words string) part {
	return func(at int, then func(at int) bool) bool {
		for _, word := range strings.Fields(words) {
			if at >= len(g.tokens) || !stands(g.tokens[at], strings.Split(word, "|")) {
				g.far = max(g.far, at)
				return false
			}
			at++
		}
		return then(at)
	}
}

// classes are the grammar's words for tokens by their kinds; signs stand for themselves.
var classes = [...]string{api.TkEnd: "end", api.TkNumber: "number", api.TkLetter: "letter", api.TkWithin: "within", api.TkOp: "op", api.TkSign: "sign"}

// stands tells whether a token is one of these words.
func stands(one api.Token, words []string) bool {
	return slices.Contains(words, classes[one.Kind]) || one.Kind != api.TkEnd && slices.Contains(words, lex.Text(one))
}

// seq is parts, one behind the other.
func seq(parts ...part) part {
	return func(at int, then func(at int) bool) bool {
		if len(parts) == 0 {
			return then(at)
		}
		return parts[0](at, func(at int) bool { return seq(parts[1:]...)(at, then) })
	}
}

// alt is one of these parts.
func alt(parts ...part) part {
	return func(at int, then func(at int) bool) bool {
		for _, p := range parts {
			if p(at, then) {
				return true
			}
		}
		return false
	}
}

// opt is a part that may be left out.
func opt(p part) part { return alt(p, seq()) }

// many is a part as often as it comes.
func many(p part) part {
	return func(at int, then func(at int) bool) bool {
		return p(at, func(at int) bool { return many(p)(at, then) }) || then(at)
	}
}

// steps are those from the number i on, and what follows them.
func (g *grammar) steps(i int) part {
	return func(at int, then func(at int) bool) bool {
		name := "none"
		if i < 26 {
			name = letters[i : i+1]
		}
		return seq(
			opt(g.row("!")), g.row("number "+name), opt(g.row("{ number , number }")),
			opt(seq(g.row("["), g.cmp(), many(seq(g.row("&"), g.cmp())), g.row("]"))),
			alt(seq(g.row(";|,"), g.steps(i+1)), g.row("within number end")),
		)(at, then)
	}
}

// cmp is a comparison.
func (g *grammar) cmp() part { return seq(g.term(), g.row("op"), g.term()) }

// term is a term.
func (g *grammar) term() part {
	return alt(
		seq(opt(g.row("-")), g.row("number")),
		seq(g.row("t|x|y|n ( letter )"), opt(g.row("+|- number"))),
		seq(g.row("d|c ( letter , letter )"), opt(g.row("+|- number"))),
	)
}

// The forms of a step, a comparison and a term without blanks.
var (
	stepForm = regexp.MustCompile(`([;,]?)(!?)([0-9]+)[a-z](?:\{([0-9]+),([0-9]+)\})?(?:\[([^\]]*)\])?`)
	cmpForm  = regexp.MustCompile(`^(.*?)(<=|>=|!=|[<=>])(.*)$`)
	termForm = regexp.MustCompile(`^([a-z]?)(?:\(([a-z])(?:,([a-z]))?\))?([+-]?[0-9]*)$`)
)

// patternOf is the pattern of a text that is one's.
func patternOf(text string) api.Pattern {
	steps, window, _ := strings.Cut(strings.ReplaceAll(text, " ", ""), "within")
	p := api.Pattern{Window: numberOf(window, 0)}
	for _, m := range stepForm.FindAllStringSubmatch(steps, -1) {
		s := api.Step{Strict: m[1] == ",", Not: m[2] == "!", Kind: numberOf(m[3], 0), Min: numberOf(m[4], 1), Max: numberOf(m[5], 1)}
		for _, c := range strings.FieldsFunc(m[6], func(r rune) bool { return r == '&' }) {
			m := cmpForm.FindStringSubmatch(c)
			s.Cmps = append(s.Cmps, api.Cmp{L: termOf(m[1]), Op: uint8(1 + slices.Index(ways, m[2])), R: termOf(m[3])})
		}
		p.Steps = append(p.Steps, s)
	}
	return p
}

// termOf is the term of a text that is one's.
func termOf(text string) api.Term {
	m := termForm.FindStringSubmatch(text)
	t := api.Term{N: numberOf(m[4], 0)}
	if m[1] != "" {
		t.Kind = uint8(1 + strings.Index("txyndc", m[1]))
		t.S = strings.Index(letters, m[2])
		t.R = strings.Index(letters, m[3])
	}
	return t
}

// numberOf is the number of a text, another one of none.
func numberOf(text string, none int) int {
	if text == "" {
		return none
	}
	n, err := strconv.Atoi(text)
	if err != nil {
		panic(err)
	}
	return n
}

// plain is a step that comes once.
func plain(kind int) api.Step { return api.Step{Kind: kind, Min: 1, Max: 1} }

// asking is a plain step with comparisons.
func asking(kind int, cmps ...api.Cmp) api.Step {
	s := plain(kind)
	s.Cmps = cmps
	return s
}

// of is a term of one kind.
func of(kind uint8, n, s, r int) api.Term { return api.Term{Kind: kind, N: n, S: s, R: r} }

// P9.1: texts and their patterns, written out.
func TestParseGiven(t *testing.T) {
	one := of(api.TmNum, 1, 0, 0)
	for text, want := range map[string]answer{
		"0a within 50":      right(50, plain(0)),
		"7a within 0":       right(0, plain(7)),
		"0a;1b within 5":    right(5, plain(0), plain(1)),
		"0a,1b within 5":    right(5, plain(0), api.Step{Kind: 1, Min: 1, Max: 1, Strict: true}),
		"!0a within 5":      right(5, api.Step{Not: true, Min: 1, Max: 1}),
		"0a;!2b;1c within9": right(9, plain(0), api.Step{Not: true, Kind: 2, Min: 1, Max: 1}, plain(1)),
		"0a,!2b within 9":   right(9, plain(0), api.Step{Not: true, Strict: true, Kind: 2, Min: 1, Max: 1}),
		"3a{2,4} within 1":  right(1, api.Step{Kind: 3, Min: 2, Max: 4}),
		"3a{4,2}within 1":   right(1, api.Step{Kind: 3, Min: 4, Max: 2}),
		"3a{1,1}within 1":   right(1, plain(3)),
		"3a{0,0}within 1":   right(1, api.Step{Kind: 3}),
		"0a;1b{1,2}[x(b)>x(a)+3],2c within 50": right(50, plain(0),
			api.Step{Kind: 1, Min: 1, Max: 2, Cmps: []api.Cmp{{Op: api.OpMore, L: of(api.TmX, 0, 1, 0), R: of(api.TmX, 3, 0, 0)}}},
			api.Step{Kind: 2, Min: 1, Max: 1, Strict: true}),
		"0a[1=1] within 5":     right(5, asking(0, api.Cmp{Op: api.OpIs, L: one, R: one})),
		"0a[-1<-1]within5":     right(5, asking(0, api.Cmp{Op: api.OpLess, L: of(0, -1, 0, 0), R: of(0, -1, 0, 0)})),
		"0a[-0<=0]within5":     right(5, asking(0, api.Cmp{Op: api.OpMost})),
		"0a[1=1&1>=-1]within5": right(5, asking(0, api.Cmp{Op: api.OpIs, L: one, R: one}, api.Cmp{Op: api.OpLeast, L: one, R: of(0, -1, 0, 0)})),
		"0a[t(a)!=c(z,b)-7&d(c,d)+9<n(e)]within5": right(5, asking(0,
			api.Cmp{Op: api.OpNot, L: of(api.TmTime, 0, 0, 0), R: of(api.TmCross, -7, 25, 1)},
			api.Cmp{Op: api.OpLess, L: of(api.TmDot, 9, 2, 3), R: of(api.TmNorm, 0, 4, 0)})),
		"5a[y(a)-3>2];4b[y(b)+3<2]within5": right(5,
			asking(5, api.Cmp{Op: api.OpMore, L: of(api.TmY, -3, 0, 0), R: of(0, 2, 0, 0)}),
			asking(4, api.Cmp{Op: api.OpLess, L: of(api.TmY, 3, 1, 0), R: of(0, 2, 0, 0)})),
		" ! 1 a { 2 , 3 } [ - 4 < t ( b ) + 5 & c ( c , d ) - 6 > 7 ] , 8 b within 9 ": right(9,
			api.Step{Not: true, Kind: 1, Min: 2, Max: 3, Cmps: []api.Cmp{
				{Op: api.OpLess, L: of(0, -4, 0, 0), R: of(api.TmTime, 5, 1, 0)},
				{Op: api.OpMore, L: of(api.TmCross, -6, 2, 3), R: of(0, 7, 0, 0)}}},
			api.Step{Kind: 8, Min: 1, Max: 1, Strict: true}),
	} {
		holds(t, text, want)
	}
}

// P9.1: wrong texts and where they are wrong, written out.
func TestWrongGiven(t *testing.T) {
	for text, at := range map[string]int{
		"0a;1a within 5": 4, "": 0, " ": 1, "    ": 4,
		"a within 5": 0, "within 5": 0, "5": 1, "0a": 2, "0a ": 3, "0": 1, "!": 1, "0a within": 9, "0a within ": 10, "0 within 5": 2,
		"0b within 5": 1, "0z within 5": 1, "0a;1c within 5": 4, "0a;1b;2b within 5": 7, "1 2a within 5": 2, "0a b within 5": 3, "0a 5": 3,
		"!!0a within 5": 1, "0!a within 5": 1, "0a! within 5": 2, "0a!1b within 5": 2, "-1a within 5": 0, "+1a within 5": 0, "0a;-1b within 5": 3, "(0a) within 5": 0,
		";0a within 5": 0, ",0a within 5": 0, "0a;;1b within 5": 3, "0a,,1b within 5": 3, "0a,;1b within 5": 3, "0a; within 5": 4, "0a, within 5": 4, "0a;": 3, "0a1b within 5": 2, "0a&1b within 5": 2,
		"0a{} within 5": 3, "0a{1} within 5": 4, "0a{1,} within 5": 5, "0a{,1} within 5": 3, "0a{1,2 within 5": 7, "0a{1,2,3} within 5": 6, "0a{1;2} within 5": 4, "0a{-1,2} within 5": 3,
		"0a{1,-2} within 5": 5, "0a{b,2} within 5": 3, "0a{1,2}{1,2} within 5": 7, "0a{1,2]within 5": 6, "0a(1,2) within 5": 2, "{1,2}0a within 5": 0, "0{1,2}a within 5": 1, "0a}within 5": 2,
		"0a[] within 5": 3, "0a[1] within 5": 4, "0a[1=] within 5": 5, "0a[=1] within 5": 3, "0a[1=1 within 5": 7, "0a[1=1=1] within 5": 6, "0a[1==1] within 5": 5, "0a[1=1&] within 5": 7,
		"0a[&1=1] within 5": 3, "0a[1=1&&1=1] within 5": 7, "0a[1=1;1=1] within 5": 6, "0a[1=1,1=1] within 5": 6, "0a[1=1}within 5": 6, "0a[1=1][1=1] within 5": 7, "0a[1=1]{1,2} within 5": 7, "0a]within 5": 2,
		"0a[1!1] within 5": 4, "0a[1!=1!] within 5": 7, "0a[1&1] within 5": 4, "0a[!1=1] within 5": 3, "[1=1]0a within 5": 0, "0[1=1]a within 5": 1,
		"0a[--1=1] within 5": 4, "0a[+1=1] within 5": 3, "0a[1=+1] within 5": 5, "0a[1=--1] within 5": 6, "0a[-=1] within 5": 4, "0a[1+1=1] within 5": 4, "0a[1=1-1] within 5": 6, "0a[-x(a)=1] within 5": 4, "0a[1=-x(a)] within 5": 6,
		"0a[a(a)=1] within 5": 3, "0a[b=1] within 5": 3, "0a[1=z(a)] within 5": 5, "0a[x=1] within 5": 4, "0a[x(]=1] within 5": 5, "0a[x()=1] within 5": 5, "0a[x(1)=1] within 5": 5, "0a[x(a=1] within 5": 6, "0a[x a)=1] within 5": 5,
		"0a[x(a,b)=1] within 5": 6, "0a[t(a,b)=1] within 5": 6, "0a[y(a,b)=1] within 5": 6, "0a[n(a,b)=1] within 5": 6, "0a[x(a b)=1] within 5": 7, "0a[x(a]=1] within 5": 6, "0a[x{a}=1] within 5": 4, "0a[x[a]=1] within 5": 4,
		"0a[d(a)=1] within 5": 6, "0a[c(a)=1] within 5": 6, "0a[d(a;b)=1] within 5": 6, "0a[d(a,)=1] within 5": 7, "0a[c(,a)=1] within 5": 5, "0a[c(a,b,c)=1] within 5": 8, "0a[d(a,1)=1] within 5": 7, "0a[c(a,b=1] within 5": 8, "0a[d=1] within 5": 4, "0a[d()=1] within 5": 5,
		"0a[x(a)+=1] within 5": 8, "0a[x(a)-=1] within 5": 8, "0a[x(a)+-1=1] within 5": 8, "0a[x(a)--1=1] within 5": 8, "0a[x(a)1=1] within 5": 7, "0a[x(a)+1+1=1] within 5": 9, "0a[x(a)+1-1=1] within 5": 9, "0a[x(a)+x(a)=1] within 5": 8, "0a[1+x(a)=1] within 5": 4,
		"0a[d(a,b)+=1] within 5": 10, "0a[c(a,b)--1=1] within 5": 10, "0a[1=d(a,b)+c] within 5": 12, "0a[1=c(a,b)-1-1] within 5": 13, "0a[1=n(a)+1+1] within 5": 11,
		"0a within 5 6": 12, "0a within 5;": 11, "0a within 5,1b within 5": 11, "0a within 5 within 5": 12, "0a within 5 a": 12, "0a within 5a": 11, "0a within -5": 10, "0a within +5": 10, "0a within a": 10, "0a within within 5": 10, "0a within (5)": 10, "0a within 5=5": 11, "0a within 5!": 11, "0a within 5+1": 11,
	} {
		holds(t, text, wrong(at))
	}
}

// spelt is a term's text, with + ahead of a number that is 0 or more behind names.
func spelt(one api.Term) string {
	sign, n := "+", one.N
	if n < 0 {
		sign, n = "-", -n
	}
	tail := sign + strconv.Itoa(n)
	switch one.Kind {
	case api.TmNum:
		return strings.TrimPrefix(tail, "+")
	case api.TmDot, api.TmCross:
		return "dc"[one.Kind-5:one.Kind-4] + "(" + letters[one.S:one.S+1] + "," + letters[one.R:one.R+1] + ")" + tail
	}
	return "txyn"[one.Kind-1:one.Kind] + "(" + letters[one.S:one.S+1] + ")" + tail
}

// short is a term's text without the number behind names, if that is 0.
func short(one api.Term) string {
	if one.Kind != api.TmNum && one.N == 0 {
		return strings.TrimSuffix(spelt(one), "+0")
	}
	return spelt(one)
}

// written is a pattern's text, by how terms are written, and whether Min and Max are where both are 1.
func written(p api.Pattern, term func(api.Term) string, times bool) string {
	var b strings.Builder
	for i, s := range p.Steps {
		if s.Strict {
			b.WriteString(",")
		} else if i > 0 {
			b.WriteString(";")
		}
		if s.Not {
			b.WriteString("!")
		}
		b.WriteString(strconv.Itoa(s.Kind) + letters[i:i+1])
		if times || s.Min != 1 || s.Max != 1 {
			b.WriteString("{" + strconv.Itoa(s.Min) + "," + strconv.Itoa(s.Max) + "}")
		}
		for j, c := range s.Cmps {
			b.WriteString("[&"[min(j, 1):min(j, 1)+1] + term(c.L) + ways[c.Op-1] + term(c.R))
		}
		if len(s.Cmps) > 0 {
			b.WriteString("]")
		}
	}
	return b.String() + " within " + strconv.Itoa(p.Window)
}

// again holds what is parsed of a pattern's texts against it.
func again(t *testing.T, p api.Pattern) {
	t.Helper()
	for _, term := range []func(api.Term) string{spelt, short} {
		for _, times := range []bool{false, true} {
			if text := written(p, term, times); len(text) <= 2000 {
				holds(t, text, answer{p: p})
			}
		}
	}
}

// terms are some of each kind, with and without a number.
func terms() []api.Term {
	var l []api.Term
	for _, n := range []int{0, 1, -1, 255, -256, top, -top} {
		l = append(l, of(api.TmNum, n, 0, 0), of(api.TmTime, n, 0, 0), of(api.TmX, n, 1, 0), of(api.TmY, n, 25, 0), of(api.TmNorm, n, 13, 0))
		l = append(l, of(api.TmDot, n, 0, 1), of(api.TmDot, n, 2, 0), of(api.TmCross, n, 25, 24), of(api.TmCross, n, 7, 7))
	}
	return l
}

// P9.1: each term at the left and at the right of each other one, by each way of comparing.
func TestTerms(t *testing.T) {
	all := terms()
	for i, l := range all {
		for j, r := range all {
			op := uint8(1 + (i+j)%6)
			again(t, right(5, asking(0, api.Cmp{Op: op, L: l, R: r})).p)
		}
		for op := range uint8(6) {
			again(t, right(5, plain(0), asking(1, api.Cmp{Op: op + 1, L: l, R: all[0]}, api.Cmp{Op: 6 - op, L: all[1], R: l})).p)
		}
	}
}

// P9.1: a letter that begins a term, each of the 26, with what stands behind it for one name, for two, and for none.
func TestTermLetters(t *testing.T) {
	for i := range letters {
		first := letters[i : i+1]
		place := strings.Index("txyndc", first)
		for _, side := range []struct{ ahead, behind string }{{"0a[", "=1] within 5"}, {"0a[1=", "] within 5"}, {"0a;1b[1=1&2=2&", "<3]within 5"}} {
			begin := len(side.ahead)
			for rest, ofTwo := range map[string]bool{"(b)": false, "(b)+3": false, "(b)-3": false, "(b,c)": true, "(b,c)+3": true, "(b,c)-3": true} {
				text := side.ahead + first + rest + side.behind
				got := promised(t, text)
				switch {
				case place < 0 && !same(got, wrong(begin)):
					t.Errorf("Parse(%q): %v", text, got)
				case place >= 0 && ofTwo == (place >= 4) && got.e != 0:
					t.Errorf("Parse(%q): %v", text, got)
				case place >= 0 && ofTwo != (place >= 4) && !same(got, wrong(begin+3)):
					t.Errorf("Parse(%q): %v", text, got)
				}
			}
		}
	}
}

// P9.1: the names of terms are letters of any step, also of one that there is not.
func TestTermNames(t *testing.T) {
	for s := range 26 {
		for kind := api.TmTime; kind <= api.TmNorm; kind++ {
			again(t, right(5, asking(0, api.Cmp{Op: 1, L: of(kind, 0, s, 0), R: of(kind, -3, 25-s, 0)})).p)
		}
		for r := range 26 {
			again(t, right(5, plain(0), asking(1, api.Cmp{Op: 1, L: of(api.TmDot, 4, s, r), R: of(api.TmCross, 0, r, s)})).p)
		}
	}
}

// shapes are steps with and without each part that may be left out.
func shapes() []api.Step {
	cmps := []api.Cmp{
		{Op: 1, L: of(0, -3, 0, 0), R: of(api.TmTime, 0, 0, 0)}, {Op: 4, L: of(api.TmDot, 2, 3, 1), R: of(api.TmX, -2, 2, 0)}, {Op: 6, L: of(api.TmCross, 0, 2, 2), R: of(0, 9, 0, 0)},
	}
	var l []api.Step
	for set := range 16 {
		s := api.Step{Not: set&1 == 1, Kind: set, Min: 1, Max: 1, Cmps: cmps[:set>>2]}
		if set&2 == 2 {
			s.Min, s.Max = set, 9-set/3
		}
		l = append(l, s)
	}
	return l
}

// P9.1: steps with and without each of their parts, behind ; and behind , each one beside each other one.
func TestSteps(t *testing.T) {
	for _, a := range shapes() {
		again(t, right(7, a).p)
		for i, b := range shapes() {
			c := shapes()[(i+5)%16]
			for set := range 4 {
				b.Strict, c.Strict = set&1 == 1, set&2 == 2
				again(t, right(7, a, b).p)
				again(t, right(0, a, b, c).p)
				again(t, right(8, a, c, b, c).p)
			}
		}
	}
}

// stepsText are steps of that many, and what stands between them.
func stepsText(n int, between string) string {
	var l []string
	for i := range n {
		l = append(l, strconv.Itoa(i)+letters[i:i+1])
	}
	return strings.Join(l, between)
}

// P9.1: from 1 to 26 steps; each letter at each step: just its own may stand there.
func TestLetters(t *testing.T) {
	for n := range 26 {
		var l []api.Step
		for i := range n + 1 {
			l = append(l, plain(i))
		}
		again(t, right(n, l...).p)
		ahead := stepsText(n, ";")
		if n > 0 {
			ahead += ";"
		}
		for i := range letters {
			text := ahead + "7" + letters[i:i+1] + " within 5"
			if got := promised(t, text); i == n && got.e != 0 || i != n && !same(got, wrong(len(ahead)+1)) {
				t.Errorf("Parse(%q): %v", text, got)
			}
		}
	}
}

// P9.1: of a 27th step no letter may stand, whatever else may.
func TestTooManySteps(t *testing.T) {
	for _, between := range []string{";", ",", " ; ! "} {
		all := stepsText(26, between)
		if got := promised(t, all+" within 5"); got.e != 0 || len(got.p.Steps) != 26 {
			t.Errorf("26 steps: %v", got)
		}
		ahead := all + between
		for i := range letters {
			holds(t, ahead+"7"+letters[i:i+1]+" within 5", wrong(len(ahead)+1))
			holds(t, ahead+"7"+letters[i:i+1]+";8b within 5", wrong(len(ahead)+1))
			holds(t, ahead+"7 "+letters[i:i+1], wrong(len(ahead)+2))
		}
		holds(t, ahead, wrong(len(ahead)))
		holds(t, ahead+"7", wrong(len(ahead)+1))
		holds(t, ahead+"7 within 5", wrong(len(ahead)+2))
		holds(t, ahead+"7{1,2} within 5", wrong(len(ahead)+1))
		holds(t, ahead+"within 5", wrong(len(ahead)))
		holds(t, ahead+"a within 5", wrong(len(ahead)))
		holds(t, ahead+";", wrong(len(ahead)))
	}
	ahead := stepsText(26, ";") + ";"
	holds(t, ahead+"!7a within 5", wrong(len(ahead)+2))
	holds(t, ahead+"!a within 5", wrong(len(ahead)+1))
}

// samples are texts of patterns, which together have each part of the grammar.
func samples() []string {
	return []string{
		"0a within 50", "0a;1b{1,2}[x(b)>x(a)+3],2c within 50", "!7a{0,3}[-5<t(b)-2&d(a,z)+1>=c(c,b)-1],!2b;3c[1=2&n(a)!=y(b)&4<=-4]within 1099511627776",
		"0a[c(a,b)=d(b,a)]within5", "3a{1,1}within 0", " 1a ; 2b , 3c  within  9 ",
	}
}

// others are texts of tokens of all kinds.
func others() []string {
	l := append(strings.Split("! { } [ ] ( ) , ; & + - within 0 1 77 1099511627776", " "), ways...)
	return append(l, strings.Split(letters, "")...)
}

// textsOf are the texts of a text's tokens, in order, the end left out.
func textsOf(text string) []string {
	tokens, _, _ := lex.All(text)
	var l []string
	for _, one := range tokens[:len(tokens)-1] {
		l = append(l, lex.Text(one))
	}
	return l
}

// P9.1: every token in the place of every other one, ahead of it, or none there: the first that may not stand is told, wherever it comes from.
func TestOtherTokens(t *testing.T) {
	for _, text := range samples() {
		l := textsOf(text)
		for i := range l {
			faults := 0
			for _, other := range others() {
				with := slices.Clone(l)
				with[i] = other
				if promised(t, strings.Join(with, " ")).e == 90 {
					faults++
				}
				promised(t, strings.Join(with, ""))
				promised(t, strings.Join(slices.Insert(slices.Clone(l), i, other), " "))
			}
			if faults < 15 {
				t.Errorf("%q, in the place of %q: only %d wrong", text, l[i], faults)
			}
			promised(t, strings.Join(slices.Delete(slices.Clone(l), i, i+1), " "))
			promised(t, strings.Join(slices.Concat(l[i:], l[:i]), " "))
		}
	}
}

// P9.1: every token behind every beginning of a pattern, and every other one behind it, where it may stand.
func TestNextTokens(t *testing.T) {
	next := strings.Split("! { } [ ] ( ) , ; & + - within 0 7 < != a b x d z", " ")
	for _, text := range samples()[1:4] {
		l := textsOf(text)
		for i := range l {
			ahead := strings.Join(l[:i], " ") + " "
			for _, a := range next {
				if promised(t, ahead+a).at == len(ahead) {
					continue
				}
				for _, b := range next {
					promised(t, ahead+a+" "+b)
				}
			}
		}
	}
}

// parted tells whether a token of a text begins there, and is cut: what is left of it may be another one.
func parted(text string, at, cut int) bool {
	tokens, _, _ := lex.All(text)
	return slices.ContainsFunc(tokens, func(one api.Token) bool { return one.At == at && at+len(lex.Text(one)) > cut })
}

// P9.1: each text of a pattern cut at each of its bytes is wrong at its end, or where a part of a token is left, or a pattern's still.
func TestCut(t *testing.T) {
	for _, text := range samples() {
		for at := range len(text) {
			cut := text[:at]
			got := promised(t, cut)
			if got.e == 90 && got.at != at && !parted(text, got.at, at) {
				t.Errorf("Parse(%q): %v, not at the end", cut, got)
			}
			if got.e == 0 && strings.TrimRight(text, " 0123456789") != strings.TrimRight(cut, " 0123456789") {
				t.Errorf("Parse(%q): %v", cut, got)
			}
		}
	}
	for cut, want := range map[string]answer{
		"0a wit": unread(3), "0a withi": unread(3), "0a within": wrong(9), "0a;1b{": wrong(6), "0a;1b{1,2}[x(b)>": wrong(16), "0a;1b{1,2}[x(b)>x(a)+": wrong(21), "0a w": wrong(3), "0a[1!": wrong(4), "0a within 5": right(5, plain(0)),
	} {
		holds(t, cut, want)
	}
}

// P9.1: bytes that begin no token go ahead of tokens that may not stand, and stand ahead or behind; a text that is too long goes ahead of both.
func TestLexFirst(t *testing.T) {
	for text, want := range map[string]answer{
		"007": unread(0), "0a;1a 007": unread(6), "007 0a;1a": unread(0), ") 007": unread(2), "007 )": unread(0), "0a within 5 5 ?": unread(14), "0a within 5?": unread(11), "0a;ab": unread(3),
		"0a;1a within 1099511627777": unread(13), "1099511627777a within 5 5": unread(0), "0a[x(A)=1] within 5": unread(5), "0awithin 5": unread(1), "0a Within 5": unread(3), "0a\twithin 5": unread(2), "0a within 5\n": unread(11),
		"0a;1b{1,2}[x(b)>x(a)+3],2c within 00": unread(34), "0a within 5.": unread(11), "0a within 5\x00": unread(11), "\xff": unread(0), "é": unread(0), "0a|1b within 5": unread(2), "0a[x(ab)=1] within 5": unread(5), "tt": unread(0),
	} {
		holds(t, text, want)
	}
	long := answer{at: 2000, e: 91}
	blanks := strings.Repeat(" ", 2000)
	holds(t, blanks, wrong(2000))
	holds(t, "0a within 5"+blanks[11:], right(5, plain(0)))
	holds(t, blanks[11:]+"0a within 5", right(5, plain(0)))
	holds(t, "0b within 5"+blanks[11:], wrong(1))
	holds(t, blanks[1:]+"?", unread(1999))
	for _, text := range []string{"0a within 5", "0b within 5", "?", "007", "", ")"} {
		holds(t, text+blanks[len(text):]+" ", long)
		holds(t, " "+blanks[len(text):]+text, long)
		holds(t, text+blanks+blanks, long)
	}
}

// P9.1: behind the window's number nothing may stand.
func TestBehindWindow(t *testing.T) {
	for _, text := range samples() {
		for _, other := range others() {
			holds(t, text+" "+other, wrong(len(text)+1))
			holds(t, text+"   "+other+" 007", unread(len(text)+4+len(other)))
		}
		holds(t, text+"  ", byWords(text))
	}
}

// P9.1: texts as long as may be: a step of many comparisons, and as many tokens as there may be.
func TestLong(t *testing.T) {
	one := api.Cmp{Op: 1, R: of(0, 1, 0, 0)}
	for _, n := range []int{1, 4, 5, 27, 300, 496} {
		again(t, right(5, asking(0, slices.Repeat([]api.Cmp{one}, n)...)).p)
		text := written(right(5, asking(0, slices.Repeat([]api.Cmp{one}, n)...)).p, spelt, false)
		holds(t, strings.Replace(text, "]", "&]", 1), wrong(strings.Index(text, "]")+1))
	}
	text := "0a[0<1" + strings.Repeat("&0<1", 496) + "]within5"
	holds(t, text+strings.Repeat(" ", 2000-len(text)), answer{p: right(5, asking(0, slices.Repeat([]api.Cmp{one}, 497)...)).p})
	for _, b := range others() {
		if len(b) == 1 && (b < "a" || b > "z") && b != "0" {
			promised(t, strings.Repeat(b, 2000))
		}
	}
	holds(t, strings.Repeat("(", 2000), wrong(0))
	holds(t, strings.Repeat("0a;", 666), wrong(4))
	holds(t, "0a["+strings.Repeat("-", 1997), wrong(4))
}

// P9.1: numbers at their bounds, and next beyond them, in each place that has one.
func TestNumbers(t *testing.T) {
	for _, n := range []int{0, 1, 9, 10, 1<<32 - 1, 1 << 32, top - 1, top} {
		again(t, right(n, api.Step{Kind: n, Min: n, Max: n, Cmps: []api.Cmp{
			{Op: 1, L: of(0, n, 0, 0), R: of(0, -n, 0, 0)}, {Op: 2, L: of(api.TmTime, -n, 1, 0), R: of(api.TmCross, n, 1, 2)}, {Op: 2, L: of(api.TmDot, -n, 1, 3), R: of(api.TmNorm, n, 1, 0)},
		}}).p)
	}
	for _, place := range []string{"#a within 5", "0a within #", "0a{#,1} within 5", "0a{1,#} within 5", "0a[#=1] within 5", "0a[1=-#] within 5", "0a[x(a)+#=1] within 5", "0a[1=d(a,b)-#] within 5", "0a;!#b within 5"} {
		at := strings.Index(place, "#")
		for _, n := range []string{"1099511627777", "00", "01", "99999999999999999999", "18446744073709551617"} {
			holds(t, strings.Replace(place, "#", n, 1), unread(at))
		}
		for n, value := range map[string]int{"0": 0, "1099511627776": top, "42": 42} {
			text := strings.Replace(place, "#", n, 1)
			if got := promised(t, text); got.e != 0 || !strings.Contains(written(got.p, spelt, true), strconv.Itoa(value)) {
				t.Errorf("Parse(%q): %v", text, got)
			}
		}
	}
}

// P9.2: blanks between tokens, ahead, behind, and none make no difference: not to a pattern, nor to which token is wrong.
func TestBlanks(t *testing.T) {
	texts := append(samples(), "0a;1a within 5", "0a[1=1;1=1]within 5", "0a within 5 5", "0a;1b{1,2}[x(b)>x(a)+3],2c", "0a;!2b[t(a)<=-5&d(a,b)!=c(b)-1]", "", ")")
	for _, text := range texts {
		want := promised(t, text)
		tokens, _, _ := lex.All(text)
		which := slices.IndexFunc(tokens, func(one api.Token) bool { return one.At == want.at })
		for i, ahead := range tokens {
			for _, blanks := range []string{" ", "   ", strings.Repeat(" ", 900)} {
				blanker(t, text[:ahead.At]+blanks+text[ahead.At:], want, which)
			}
			if i > 0 {
				blanker(t, text[:ahead.At]+" "+text[ahead.At:], want, which)
			}
		}
		blanker(t, strings.Join(textsOf(text), "  "), want, which)
		blanker(t, "  "+strings.Join(textsOf(text), " ")+"  ", want, which)
		// Between a letter and within there has to be one.
		none := strings.ReplaceAll(text, " ", "")
		if l, _, e := lex.All(none); e == 0 && len(l) == len(tokens) {
			blanker(t, none, want, which)
		}
	}
}

// blanker holds a text that differs from another one in blanks alone against what is told of that.
func blanker(t *testing.T, text string, want answer, which int) {
	t.Helper()
	if want.e == 90 {
		tokens, _, _ := lex.All(text)
		want.at = tokens[which].At
	}
	holds(t, text, want)
}

// P9.1: is it a pattern's?
func TestRight(t *testing.T) {
	for _, text := range samples() {
		if !Right(text) {
			t.Errorf("Right(%q): false", text)
		}
	}
	for _, text := range []string{"", "0a;1a within 5", "0a within 007", "0a within", "x", strings.Repeat(" ", 2001), "0a within 5" + strings.Repeat(" ", 1990)} {
		if Right(text) {
			t.Errorf("Right(%.40q): true", text)
		}
	}
}

// P9.2: what is parsed may be written, though it need not be one that may be.
func TestMayBeWritten(t *testing.T) {
	for _, text := range append(samples(), "!0a,!9b{5,2}[t(z)<0];7c within 0", "1099511627776a{1099511627776,0} within 1099511627776", "0a[d(y,z)-1099511627776>-1099511627776]within 1") {
		p, _, e := Parse(text)
		if e != 0 || !tree.Right(p) {
			t.Errorf("Parse(%q): %v, %d", text, p, e)
		}
	}
}

// sameCmps tells whether both steps ask the same.
func sameCmps(a, b api.Step) bool { return slices.Equal(a.Cmps, b.Cmps) }

// R3, R4: an answer is told again, in memory of its own, and no two lists of it share any.
func TestOwn(t *testing.T) {
	for _, text := range samples() {
		a, b := told(text), told(text)
		was := written(a.p, spelt, true)
		steps := a.p.Steps[:cap(a.p.Steps)]
		for i, one := range a.p.Steps {
			clear(one.Cmps[:cap(one.Cmps)])
			if !slices.EqualFunc(a.p.Steps[i+1:], b.p.Steps[i+1:], sameCmps) {
				t.Errorf("Parse(%q): two lists share memory", text)
			}
		}
		clear(steps)
		if got := written(b.p, spelt, true); got != was || written(told(text).p, spelt, true) != was {
			t.Errorf("Parse(%q): %s, then %s", text, was, got)
		}
	}
	before := told("0a;1a within 5")
	promised(t, samples()[1])
	if after := told("0a;1a within 5"); !same(before, after) {
		t.Errorf("Parse: %v, then %v", before, after)
	}
}

// made is a pattern out of bytes.
func made(b []byte) api.Pattern {
	next := func(most int) int {
		if len(b) == 0 {
			return 0
		}
		n := int(b[0]) % most
		b = b[1:]
		return n
	}
	number := func() int { return []int{0, 1, 2, 3, 10, 255, 256, 1 << 32, top - 1, top}[next(10)] }
	term := func() api.Term {
		one := of(uint8(next(7)), number()*(1-2*next(2)), 0, 0)
		if one.Kind != api.TmNum {
			one.S = next(26)
		}
		if one.Kind >= api.TmDot {
			one.R = next(26)
		}
		return one
	}
	p := api.Pattern{Window: number()}
	for n := 1 + next(26); n > 0; n-- {
		s := api.Step{Not: next(3) == 1, Strict: next(3) == 1 && len(p.Steps) > 0, Kind: number(), Min: 1, Max: 1}
		if next(3) == 1 {
			s.Min, s.Max = number(), number()
		}
		for range next(4) {
			s.Cmps = append(s.Cmps, api.Cmp{Op: uint8(1 + next(6)), L: term(), R: term()})
		}
		p.Steps = append(p.Steps, s)
	}
	return p
}

// P9.1: patterns of all sorts out of their texts, and those texts with one byte turned.
func TestMade(t *testing.T) {
	seed, parsed := uint32(1), 0
	for range 150 {
		b := make([]byte, 300)
		for i := range b {
			seed = seed*1664525 + 1013904223
			b[i] = byte(seed >> 24)
		}
		p := made(b)
		again(t, p)
		text := []byte(written(p, short, false))
		for i := 0; i < len(text); i += 1 + int(b[i%300])%40 {
			turned := slices.Clone(text)
			turned[i] = "!{}[](),;&+-<=>0179abctxyndz within"[int(b[(i+7)%300])%35]
			promised(t, string(turned))
		}
		if len(text) <= 2000 {
			parsed++
		}
	}
	if parsed < 75 {
		t.Errorf("only %d were parsed", parsed)
	}
}

// P9.1, P9.2: any text.
func FuzzParse(f *testing.F) {
	for _, text := range append(samples(), "", "0a;1a within 5", "0a 007", "0a[1=1", strings.Repeat(" ", 2001)) {
		f.Add(text)
	}
	f.Fuzz(func(t *testing.T, text string) { promised(t, text) })
}

// P9.1: any pattern that may be written.
func FuzzMade(f *testing.F) {
	f.Add([]byte{})
	f.Add([]byte{3, 2, 1, 0, 5, 1, 2, 3, 3, 1, 5, 3, 1, 2, 6, 4, 0, 9, 8})
	f.Fuzz(func(t *testing.T, b []byte) { again(t, made(b)) })
}
