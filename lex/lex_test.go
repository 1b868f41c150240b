package lex

import (
	"bytes"
	"math"
	"regexp"
	"slices"
	"strconv"
	"strings"
	"testing"

	"straggle/api"
)

const (
	small = "abcdefghijklmnopqrstuvwxyz"
	marks = "!{}[](),;&+-"
)

// ways are the texts of the ways of comparing, in the order of their numbers, from 1 on.
var ways = []string{"<", "<=", "=", "!=", ">", ">="}

// tok is a token as a test writes it.
func tok(kind uint8, n, at int) api.Token { return api.Token{Kind: kind, N: n, At: at} }

// end is a text's end.
func end(at int) api.Token { return api.Token{Kind: api.TkEnd, At: at} }

// answer is what All tells.
type answer struct {
	tokens []api.Token
	at     int
	e      api.Errno
}

// right is the answer of these tokens, behind which the end is.
func right(long int, l ...api.Token) answer { return answer{tokens: append(l, end(long))} }

// wrong is the answer of a text with a byte that begins no token.
func wrong(at int) answer { return answer{at: at, e: 70} }

// told is what All tells of a text.
func told(text string) answer {
	l, at, e := All(text)
	return answer{l, at, e}
}

// same tells whether both answers are the same, nil tokens and none too.
func same(a, b answer) bool {
	return slices.Equal(a.tokens, b.tokens) && a.at == b.at && a.e == b.e
}

// holds holds All against an answer.
func holds(t *testing.T, text string, want answer) {
	t.Helper()
	if got := told(text); !same(got, want) {
		t.Errorf("All(%.60q): %v, not %v", text, got, want)
	}
}

// chunk is what stands at a text's beginning: what may be a token, from the left, as long as can be.
var chunk = regexp.MustCompile(`^(?: +|[0-9]+|[a-z]+|<=|>=|!=|[<=>!{}\[\](),;&+-])`)

// byWords is what the chapter's words tell of a text.
func byWords(text string) answer {
	if len(text) > 2000 {
		return answer{at: 2000, e: 91}
	}
	a := answer{}
	for at := 0; at < len(text); {
		c := chunk.FindString(text[at:])
		t, may := api.Token{At: at}, c != ""
		switch {
		case !may:
		case c[0] == ' ':
			at += len(c)
			continue
		case c[0] >= '0' && c[0] <= '9':
			n, err := strconv.Atoi(c)
			t.Kind, t.N, may = api.TkNumber, n, err == nil && n <= 1099511627776 && strconv.Itoa(n) == c
		case c == "within":
			t.Kind = api.TkWithin
		case c[0] >= 'a' && c[0] <= 'z':
			t.Kind, t.N, may = api.TkLetter, int(c[0])-97, len(c) == 1
		case slices.Contains(ways, c):
			t.Kind, t.N = api.TkOp, slices.Index(ways, c)+1
		default:
			t.Kind, t.N = api.TkSign, int(c[0])
		}
		if !may {
			return wrong(at)
		}
		a.tokens = append(a.tokens, t)
		at += len(c)
	}
	a.tokens = append(a.tokens, end(len(text)))
	return a
}

// kinds are all tokens at 0 but numbers, of which there are some, and the text of each.
func kinds() (l []api.Token, texts []string) {
	add := func(kind uint8, n int, text string) {
		l, texts = append(l, tok(kind, n, 0)), append(texts, text)
	}
	add(api.TkEnd, 0, "")
	for _, n := range numbers() {
		add(api.TkNumber, n, strconv.Itoa(n))
	}
	for i := range small {
		add(api.TkLetter, i, string(small[i]))
	}
	add(api.TkWithin, 0, "within")
	for i, way := range ways {
		add(api.TkOp, i+1, way)
	}
	for i := range marks {
		add(api.TkSign, int(marks[i]), string(marks[i]))
	}
	return l, texts
}

// numbers are some that a token may have.
func numbers() []int {
	l := []int{0, 5, 255, 256, 1<<40 - 1, 1 << 40}
	for n := 1; n < 1<<40; n *= 10 {
		l = append(l, n, 2*n-1, 9*n)
	}
	return slices.DeleteFunc(l, func(n int) bool { return n > 1<<40 })
}

// P7.1: texts and their tokens, written out.
func TestAllGiven(t *testing.T) {
	const n, l, w, o, s = api.TkNumber, api.TkLetter, api.TkWithin, api.TkOp, api.TkSign
	for text, want := range map[string]answer{
		"":                right(0),
		" ":               right(1),
		"    ":            right(4),
		"0":               right(1, tok(n, 0, 0)),
		"42":              right(2, tok(n, 42, 0)),
		"a":               right(1, tok(l, 0, 0)),
		"z":               right(1, tok(l, 25, 0)),
		"within":          right(6, tok(w, 0, 0)),
		"<":               right(1, tok(o, 1, 0)),
		"!":               right(1, tok(s, '!', 0)),
		"  7":             right(3, tok(n, 7, 2)),
		"7  ":             right(3, tok(n, 7, 0)),
		"  7   ":          right(6, tok(n, 7, 2)),
		"1 2":             right(3, tok(n, 1, 0), tok(n, 2, 2)),
		"1   2":           right(5, tok(n, 1, 0), tok(n, 2, 4)),
		"a b":             right(3, tok(l, 0, 0), tok(l, 1, 2)),
		"0a within 50":    right(12, tok(n, 0, 0), tok(l, 0, 1), tok(w, 0, 3), tok(n, 50, 10)),
		"0awithin50":      wrong(1),
		"0a]within50":     right(11, tok(n, 0, 0), tok(l, 0, 1), tok(s, ']', 2), tok(w, 0, 3), tok(n, 50, 9)),
		"1a2b3":           right(5, tok(n, 1, 0), tok(l, 0, 1), tok(n, 2, 2), tok(l, 1, 3), tok(n, 3, 4)),
		"1+2":             right(3, tok(n, 1, 0), tok(s, '+', 1), tok(n, 2, 2)),
		"-7":              right(2, tok(s, '-', 0), tok(n, 7, 1)),
		"-0":              right(2, tok(s, '-', 0), tok(n, 0, 1)),
		"--":              right(2, tok(s, '-', 0), tok(s, '-', 1)),
		"x(b)>x(a)+3":     right(11, tok(l, 23, 0), tok(s, '(', 1), tok(l, 1, 2), tok(s, ')', 3), tok(o, 5, 4), tok(l, 23, 5), tok(s, '(', 6), tok(l, 0, 7), tok(s, ')', 8), tok(s, '+', 9), tok(n, 3, 10)),
		"!2b;,1c{1,3}":    right(12, tok(s, '!', 0), tok(n, 2, 1), tok(l, 1, 2), tok(s, ';', 3), tok(s, ',', 4), tok(n, 1, 5), tok(l, 2, 6), tok(s, '{', 7), tok(n, 1, 8), tok(s, ',', 9), tok(n, 3, 10), tok(s, '}', 11)),
		" [ n(a)!=4 & c ": right(15, tok(s, '[', 1), tok(l, 13, 3), tok(s, '(', 4), tok(l, 0, 5), tok(s, ')', 6), tok(o, 4, 7), tok(n, 4, 9), tok(s, '&', 11), tok(l, 2, 13)),
		"1a 007":          wrong(3),
		"1a  x  ab":       wrong(7),
	} {
		holds(t, text, want)
		holds(t, text, byWords(text))
	}
}

// P7.1: one token of each kind and N, alone, and with blanks ahead and behind.
func TestAllOne(t *testing.T) {
	l, texts := kinds()
	for i, text := range texts[1:] {
		one := l[i+1]
		holds(t, text, right(len(text), one))
		one.At = 3
		holds(t, "   "+text, right(3+len(text), one))
		holds(t, "   "+text+"  ", right(5+len(text), one))
	}
}

// P7.1: every two tokens, with a blank between, and side by side.
func TestAllPairs(t *testing.T) {
	l, texts := kinds()
	for i := 1; i < len(l); i++ {
		for j := 1; j < len(l); j++ {
			second := l[j]
			second.At = len(texts[i]) + 1
			text := texts[i] + " " + texts[j]
			holds(t, text, right(len(text), l[i], second))
			holds(t, texts[i]+texts[j], byWords(texts[i]+texts[j]))
		}
	}
}

// P7.1: numbers at their edges, and what is none.
func TestNumbers(t *testing.T) {
	for text, n := range map[string]int{"0": 0, "1": 1, "9": 9, "10": 10, "100": 100, "1099511627775": 1<<40 - 1, "1099511627776": api.MaxNumber} {
		holds(t, text, right(len(text), tok(api.TkNumber, n, 0)))
		holds(t, " "+text+";", right(len(text)+2, tok(api.TkNumber, n, 1), tok(api.TkSign, ';', len(text)+1)))
	}
	for _, text := range []string{
		"00", "01", "007", "000", "0000000000", "01099511627776", "00000000000000000000000001",
		"1099511627777", "1099511627780", "1099511627786", "1099511627800", "2000000000000", "9999999999999", "10995116277760",
		"9223372036854775807", "9223372036854775808", "18446744073709551616", "18446744073709551617", "18446744073709551621", "99999999999999999999",
		strings.Repeat("9", 2000), strings.Repeat("0", 2000), "1" + strings.Repeat("0", 1999),
	} {
		holds(t, text, wrong(0))
		if len(text) < 1990 {
			holds(t, "a, "+text, wrong(3))
			holds(t, "  "+text+" b", wrong(2))
			holds(t, text+"a", wrong(0))
			holds(t, "1 "+text+text, wrong(2))
			holds(t, text+" 00", wrong(0))
		}
	}
	for i := range small {
		holds(t, "1"+small[i:i+1], right(2, tok(api.TkNumber, 1, 0), tok(api.TkLetter, i, 1)))
		holds(t, "0"+small[i:i+1]+"0", right(3, tok(api.TkNumber, 0, 0), tok(api.TkLetter, i, 1), tok(api.TkNumber, 0, 2)))
		holds(t, "1"+small[i:i+1]+"00", wrong(2))
	}
}

// P7.1: two letters side by side begin none, wherever they stand; with what is no letter between they are two.
func TestLetters(t *testing.T) {
	for i := range small {
		for j := range small {
			a, b := small[i:i+1], small[j:j+1]
			holds(t, a+b, wrong(0))
			holds(t, "7 "+a+b, wrong(2))
			holds(t, a+" "+b+a, wrong(2))
			holds(t, a+b+a+" "+b, wrong(0))
			holds(t, a+" "+b, right(3, tok(api.TkLetter, i, 0), tok(api.TkLetter, j, 2)))
			holds(t, a+"5"+b, right(3, tok(api.TkLetter, i, 0), tok(api.TkNumber, 5, 1), tok(api.TkLetter, j, 2)))
			holds(t, a+"("+b, right(3, tok(api.TkLetter, i, 0), tok(api.TkSign, '(', 1), tok(api.TkLetter, j, 2)))
		}
	}
	holds(t, small, wrong(0))
	holds(t, "3"+strings.Repeat("a", 1999), wrong(1))
	// A great letter is no letter: the small one next to it stands alone.
	holds(t, "aB", wrong(1))
	holds(t, "Ba", wrong(0))
}

// P7.1: within alone, with a letter directly ahead or behind, cut, twice, and with what is no letter next to it.
func TestWithin(t *testing.T) {
	w := func(at int) api.Token { return tok(api.TkWithin, 0, at) }
	for i := range small {
		c := small[i : i+1]
		holds(t, c+"within", wrong(0))
		holds(t, "within"+c, wrong(0))
		holds(t, "0"+c+"within 5", wrong(1))
		holds(t, "0a within"+c, wrong(3))
		holds(t, c+" within", right(8, tok(api.TkLetter, i, 0), w(2)))
		holds(t, "within "+c, right(8, w(0), tok(api.TkLetter, i, 7)))
	}
	for i := range "0123456789" {
		holds(t, "within"+strconv.Itoa(i), right(7, w(0), tok(api.TkNumber, i, 6)))
		holds(t, strconv.Itoa(i)+"within", right(7, tok(api.TkNumber, i, 0), w(1)))
	}
	for i := range marks {
		sign := tok(api.TkSign, int(marks[i]), 0)
		holds(t, marks[i:i+1]+"within", right(7, sign, w(1)))
		sign.At = 6
		holds(t, "within"+marks[i:i+1], right(7, w(0), sign))
	}
	for _, text := range []string{"withi", "ithin", "withinwithin", "withIn", "wi", "withim", "xithin", "within\x00", "wITHIN"} {
		holds(t, text, byWords(text))
	}
	holds(t, "withi", wrong(0))
	holds(t, "withinwithin", wrong(0))
	holds(t, "within within", right(13, w(0), w(7)))
	holds(t, "with in", wrong(0))
	holds(t, "Within", wrong(0))
	holds(t, "WITHIN", wrong(0))
}

// P7.1: ways of comparing; the longer one where two begin alike, and ! where no = follows.
func TestOps(t *testing.T) {
	op := func(n uint8, at int) api.Token { return tok(api.TkOp, int(n), at) }
	not := func(at int) api.Token { return tok(api.TkSign, '!', at) }
	for text, want := range map[string]answer{
		"<":     right(1, op(api.OpLess, 0)),
		"<=":    right(2, op(api.OpMost, 0)),
		"=":     right(1, op(api.OpIs, 0)),
		"!=":    right(2, op(api.OpNot, 0)),
		">":     right(1, op(api.OpMore, 0)),
		">=":    right(2, op(api.OpLeast, 0)),
		"< =":   right(3, op(api.OpLess, 0), op(api.OpIs, 2)),
		"> =":   right(3, op(api.OpMore, 0), op(api.OpIs, 2)),
		"! =":   right(3, not(0), op(api.OpIs, 2)),
		"==":    right(2, op(api.OpIs, 0), op(api.OpIs, 1)),
		"=<":    right(2, op(api.OpIs, 0), op(api.OpLess, 1)),
		"=>":    right(2, op(api.OpIs, 0), op(api.OpMore, 1)),
		"=!":    right(2, op(api.OpIs, 0), not(1)),
		"=!=":   right(3, op(api.OpIs, 0), op(api.OpNot, 1)),
		"<>":    right(2, op(api.OpLess, 0), op(api.OpMore, 1)),
		"<<=":   right(3, op(api.OpLess, 0), op(api.OpMost, 1)),
		"<==":   right(3, op(api.OpMost, 0), op(api.OpIs, 2)),
		">>==":  right(4, op(api.OpMore, 0), op(api.OpLeast, 1), op(api.OpIs, 3)),
		"!":     right(1, not(0)),
		"!!":    right(2, not(0), not(1)),
		"!!=":   right(3, not(0), op(api.OpNot, 1)),
		"!==":   right(3, op(api.OpNot, 0), op(api.OpIs, 2)),
		"!=!":   right(3, op(api.OpNot, 0), not(2)),
		"!<=":   right(3, not(0), op(api.OpMost, 1)),
		"!1":    right(2, not(0), tok(api.TkNumber, 1, 1)),
		"<!=>=": right(5, op(api.OpLess, 0), op(api.OpNot, 1), op(api.OpLeast, 3)),
	} {
		holds(t, text, want)
	}
}

// P7.1: each sign, alone, twice, and next to each other one.
func TestSigns(t *testing.T) {
	for _, a := range []byte(marks) {
		holds(t, string(a), right(1, tok(api.TkSign, int(a), 0)))
		for _, b := range []byte(marks) {
			holds(t, string([]byte{a, b}), right(2, tok(api.TkSign, int(a), 0), tok(api.TkSign, int(b), 1)))
		}
	}
	for i, b := range []byte("!{}[](),;&+-") {
		if want := []int{33, 123, 125, 91, 93, 40, 41, 44, 59, 38, 43, 45}[i]; int(b) != want {
			t.Fatalf("the sign %c is %d", b, b)
		}
	}
}

// P7.1: each byte alone, and among tokens: most begin none, and of these the place is told.
func TestBytes(t *testing.T) {
	begin := 0
	for i := range 256 {
		b := string([]byte{byte(i)})
		holds(t, b, byWords(b))
		if b == " " || strings.Contains(small+marks+"0123456789<=>", b) {
			begin++
			continue
		}
		holds(t, b, wrong(0))
		holds(t, "  "+b, wrong(2))
		holds(t, "12"+b, wrong(2))
		holds(t, "a"+b+"b", wrong(1))
		holds(t, "within 5 "+b+" 6", wrong(9))
		holds(t, "<"+b+"=", wrong(1))
		holds(t, "!"+b+"=", wrong(1))
		holds(t, b+b, wrong(0))
		holds(t, "1;"+strings.Repeat(b, 7), wrong(2))
	}
	if begin != 26+10+12+3+1 {
		t.Errorf("%d bytes begin a token, or are blanks", begin)
	}
	// No other white byte is a blank, nor is a rune that looks like one, or like a token.
	for _, text := range []string{"\t1", "\n", "\r1", "\v", "\f", "\u00a01", "\u2003", "é", "ａ", "１", "≤", "−1", "\ufeff1"} {
		holds(t, text, wrong(0))
		holds(t, " 1 "+text, wrong(3))
	}
}

// P7.1: of several faults the first place is told, of whatever kind they are.
func TestFirstWrong(t *testing.T) {
	faults := []string{"?", "007", "ab", "1099511627777", "\x00", "Z", "withins", "\xff"}
	for _, a := range faults {
		for _, b := range faults {
			holds(t, a+" "+b, wrong(0))
			holds(t, "1a,"+a+";"+b, wrong(3))
			holds(t, "   "+a+"  "+b+" 5", wrong(3))
		}
	}
}

// P7.1: texts of MaxText bytes, and longer ones: those are ErrLong, whatever stands in them.
func TestLong(t *testing.T) {
	for _, text := range []string{" ", "1", "a ", ";", "<", "<=", "within ", "?", "007", "ab", "\xff", "é", "!=", "1 "} {
		long := strings.Repeat(text, 1100)
		for _, count := range []int{1998, 1999, 2000} {
			if count <= len(long) {
				holds(t, long[:count], byWords(long[:count]))
			}
		}
		long += long
		for _, count := range []int{2001, 2002, 2100} {
			holds(t, long[:count], answer{at: api.MaxText, e: api.ErrLong})
		}
	}
	signs := strings.Repeat(";", 2000)
	if l, at, e := All(signs); len(l) != 2001 || l[1999] != tok(api.TkSign, ';', 1999) || l[2000] != end(2000) || at != 0 || e != api.OK {
		t.Errorf("2000 signs: %d tokens, %d, %d", len(l), at, e)
	}
	holds(t, strings.Repeat(" ", 2000), right(2000))
	holds(t, strings.Repeat(" ", 1999)+"7", right(2000, tok(api.TkNumber, 7, 1999)))
	holds(t, strings.Repeat(" ", 1999)+"?", wrong(1999))
	holds(t, strings.Repeat(" ", 2000)+"7", answer{at: 2000, e: 91})
	holds(t, strings.Repeat(" ", 2001), answer{at: 2000, e: 91})
	holds(t, "?"+strings.Repeat(" ", 2000), answer{at: 2000, e: 91})
	holds(t, strings.Repeat("a", 1<<20), answer{at: 2000, e: 91})
}

// P7.1, P7.3: all short texts of some bytes, and of some pieces, by the chapter's words.
func TestAllSmall(t *testing.T) {
	for _, pieces := range [][]string{
		{"0", "1", "a", "w", "!", "<", "=", ">", ";", " ", "?"},
		{"within", "n", "7", "09", " ", "!=", "\xff"},
	} {
		for _, text := range textsOf(pieces, 5) {
			if got, want := told(text), byWords(text); !same(got, want) {
				t.Fatalf("All(%q): %v, not %v", text, got, want)
			}
		}
	}
}

// textsOf are all texts of so many pieces at most.
func textsOf(pieces []string, most int) []string {
	l := []string{""}
	first := 0
	for range most {
		last := len(l)
		for _, text := range l[first:last] {
			for _, p := range pieces {
				l = append(l, text+p)
			}
		}
		first = last
	}
	return l
}

// P7.2: the text of each token that may be, wherever it stands.
func TestText(t *testing.T) {
	l, texts := kinds()
	for i, one := range l {
		for _, at := range []int{0, 1, 2001, -1, math.MaxInt, math.MinInt} {
			one.At = at
			if text := Text(one); text != texts[i] {
				t.Errorf("Text(%v): %q, not %q", one, text, texts[i])
			}
		}
	}
	for _, c := range []struct {
		kind uint8
		n    int
		want string
	}{
		{api.TkNumber, 0, "0"}, {api.TkNumber, 1 << 40, "1099511627776"}, {api.TkNumber, 10, "10"},
		{api.TkLetter, 0, "a"}, {api.TkLetter, 25, "z"}, {api.TkWithin, 0, "within"},
		{api.TkOp, 1, "<"}, {api.TkOp, 2, "<="}, {api.TkOp, 3, "="}, {api.TkOp, 4, "!="}, {api.TkOp, 5, ">"}, {api.TkOp, 6, ">="},
		{api.TkSign, 33, "!"}, {api.TkSign, '{', "{"}, {api.TkSign, 45, "-"}, {api.TkEnd, 0, ""},
	} {
		if text := Text(tok(c.kind, c.n, 0)); text != c.want {
			t.Errorf("Text of %d, %d: %q, not %q", c.kind, c.n, text, c.want)
		}
	}
}

// some are numbers of all sizes, and those that are a byte's, or a token's, but for what lies beyond some of its bits.
func some() []int {
	l := []int{math.MinInt, math.MinInt + 1, math.MaxInt, math.MaxInt - 1, -1 << 40, 1<<40 - 1, 1 << 40, 1<<40 + 1}
	for n := -1100; n < 1100; n++ {
		l = append(l, n)
	}
	for _, bit := range []int{8, 16, 31, 32, 33, 41, 62} {
		for n := range 256 {
			l = append(l, 1<<bit+n, -1<<bit+n)
		}
	}
	return l
}

// P7.2: each kind with numbers that it may have, and with others, of which nothing is told; so of kinds that there are not.
func TestTextWrong(t *testing.T) {
	tokens, texts := kinds()
	want := map[api.Token]string{}
	for i, one := range tokens {
		want[one] = texts[i]
	}
	for kind := range 256 {
		for _, n := range some() {
			one := tok(uint8(kind), n, 0)
			text := want[one]
			if one.Kind == api.TkNumber && n >= 0 && n <= 1<<40 {
				text = strconv.Itoa(n)
			}
			if got := Text(one); got != text {
				t.Fatalf("Text(%v): %q, not %q", one, got, text)
			}
		}
	}
	for _, one := range []api.Token{
		{Kind: api.TkEnd, N: 1}, {Kind: api.TkNumber, N: -1}, {Kind: api.TkNumber, N: 1<<40 + 1}, {Kind: api.TkLetter, N: -1}, {Kind: api.TkLetter, N: 26},
		{Kind: api.TkWithin, N: 1}, {Kind: api.TkWithin, N: -1}, {Kind: api.TkOp}, {Kind: api.TkOp, N: -1}, {Kind: api.TkOp, N: 7},
		{Kind: api.TkSign}, {Kind: api.TkSign, N: ' '}, {Kind: api.TkSign, N: '<'}, {Kind: api.TkSign, N: '='}, {Kind: api.TkSign, N: 256 + '!'}, {Kind: api.TkSign, N: -223},
		{Kind: api.TkSign, N: 1<<32 + '!'}, {Kind: api.TkSign, N: '5'}, {Kind: api.TkSign, N: 'a'}, {Kind: api.Tokens}, {Kind: api.Tokens, N: '!'}, {Kind: 255},
	} {
		if text := Text(one); text != "" {
			t.Errorf("Text(%v): %q", one, text)
		}
	}
}

// P7.2: what Text tells, if anything, is read as that one token alone.
func TestTextRead(t *testing.T) {
	read := 0
	for kind := range 10 {
		for _, n := range some() {
			one := tok(uint8(kind), n, 0)
			text := Text(one)
			if text == "" {
				continue
			}
			read++
			if got := told(text); !same(got, right(len(text), one)) {
				t.Fatalf("All(Text(%v)), %q: %v", one, text, got)
			}
		}
	}
	if read < 1100+26+1+6+12 {
		t.Errorf("only %d were read", read)
	}
}

// spoken are the texts of tokens, with a blank between each two.
func spoken(l []api.Token) string {
	var texts []string
	for _, one := range l {
		texts = append(texts, Text(one))
	}
	return strings.Join(texts, " ")
}

// unplaced are tokens whose place is 0.
func unplaced(l []api.Token) []api.Token {
	m := slices.Clone(l)
	for i := range m {
		m[i].At = 0
	}
	return m
}

// again tells whether the texts of a text's tokens tell them again, and stand where they are said to.
func again(t *testing.T, text string) {
	t.Helper()
	l, at, e := All(text)
	if e != api.OK {
		return
	}
	if len(l) == 0 || l[len(l)-1] != end(len(text)) || at != 0 {
		t.Fatalf("All(%q): %v, %d", text, l, at)
	}
	was := 0
	for _, one := range l {
		s := Text(one)
		if one.At < was || strings.Trim(text[was:one.At], " ") != "" || !strings.HasPrefix(text[one.At:], s) || one.Kind != api.TkEnd && s == "" {
			t.Fatalf("All(%q): %v", text, l)
		}
		was = one.At + len(s)
	}
	s := spoken(l)
	if len(s) > api.MaxText {
		return
	}
	if m, _, e := All(s); e != api.OK || !slices.Equal(unplaced(m), unplaced(l)) {
		t.Fatalf("All(%q): %v, of %q: %v, %d", text, l, s, m, e)
	}
}

// P7.3: tokens' texts with a blank between each two tell them again.
func TestSpoken(t *testing.T) {
	l, _ := kinds()
	l = append(l[1:], l[0])
	for _, want := range [][]api.Token{l, append(slices.Repeat(l[:len(l)-1], 3), l[len(l)-1])} {
		if got, _, e := All(spoken(want)); e != api.OK || !slices.Equal(unplaced(got), want) {
			t.Errorf("All(%q): %v, %d", spoken(want), got, e)
		}
	}
	for _, text := range []string{"", "   ", "0a;1b{1,2}[x(b)>x(a)+3],2c within 50", "!2b[t(a)<=-5&d(a,b)!=c(b,a)-1]", "1 2 3", "<= =>=!=! =", "within5within"} {
		again(t, text)
	}
	for _, text := range textsOf([]string{"0", "7", "a", "within", "!", "<", "=", ";", " "}, 5) {
		again(t, text)
	}
}

// P7.3: more blanks where one token ends and the next one begins make no difference but to places.
func TestBlanks(t *testing.T) {
	for _, text := range []string{"0a;1b{1,2}[x(b)>x(a)+3],2c within 50", "1 2 3", "a b", "!!=<<=<", "", " within 5 within", "0a[n(a)=0]within9"} {
		l, _, e := All(text)
		if e != api.OK {
			t.Fatalf("All(%q): %d", text, e)
		}
		for _, one := range l {
			for _, blanks := range []string{" ", "  ", strings.Repeat(" ", 500)} {
				want := slices.Clone(l)
				for i := range want {
					if want[i].At >= one.At {
						want[i].At += len(blanks)
					}
				}
				holds(t, text[:one.At]+blanks+text[one.At:], answer{tokens: want})
			}
		}
	}
}

// R3, R4: an answer is told again, in memory of its own.
func TestOwn(t *testing.T) {
	const text = "0a;1b within 5"
	a, _, _ := All(text)
	b, _, _ := All(text)
	clear(a[:cap(a)])
	if c := told(text); !slices.Equal(b, c.tokens) || !same(c, byWords(text)) {
		t.Errorf("All(%q): %v, then %v", text, b, c)
	}
	if told("ab").tokens != nil || told(strings.Repeat(" ", 2001)).tokens != nil {
		t.Error("tokens beside an error")
	}
	before := told("1 ab")
	All(text)
	if after := told("1 ab"); !same(before, after) {
		t.Errorf("All: %v, then %v", before, after)
	}
}

// P7.1, P7.3: any text.
func FuzzAll(f *testing.F) {
	for _, text := range []string{"", " ", "0a within 50", "1a 007", "0a;1b{1,2}[x(b)>x(a)+3],2c within 50", "1099511627777", "!=!", "withinx", "\xff", string(bytes.Repeat([]byte("1 "), 1001))} {
		f.Add(text)
	}
	f.Fuzz(func(t *testing.T, text string) {
		if got, want := told(text), byWords(text); !same(got, want) {
			t.Fatalf("All(%q): %v, not %v", text, got, want)
		}
		again(t, text)
	})
}

// P7.2: any token.
func FuzzText(f *testing.F) {
	f.Add(uint8(1), 1<<40, 3)
	f.Add(uint8(5), 256+int('!'), 0)
	f.Fuzz(func(t *testing.T, kind uint8, n, at int) {
		text := Text(tok(kind, n, at))
		if got := told(text); text != "" && !same(got, right(len(text), tok(kind, n, 0))) {
			t.Fatalf("All(Text(%d, %d)), %q: %v", kind, n, text, got)
		}
		if text == "" && kind == api.TkNumber && n >= 0 && n <= 1<<40 {
			t.Fatalf("Text(%d, %d): nothing", kind, n)
		}
	})
}
