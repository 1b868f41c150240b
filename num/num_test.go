package num

import (
	"bytes"
	"math"
	"math/big"
	"strconv"
	"strings"
	"testing"

	"straggle/api"
)

const (
	most  = math.MaxInt
	least = math.MinInt
)

// edges are the numbers around which sums, texts and bytes change their ways.
func edges() []int {
	l := []int{0, most, most / 2, least, least / 2, api.MaxTs, -api.MaxTs}
	for i := range 63 {
		l = append(l, 1<<i-1, 1<<i, -1<<i, -1<<i-1)
	}
	for n := 1; n < most/10; n *= 10 {
		l = append(l, n-1, n, n+1, -n, 1-n)
	}
	for d := 1; d < 12; d++ {
		l = append(l, d, -d, most-d, least+d)
	}
	return l
}

// whole says what an exact result is as a whole number: it, or ErrOver and 0.
func whole(n *big.Int) (int, api.Errno) {
	if !n.IsInt64() {
		return 0, api.ErrOver
	}
	return int(n.Int64()), api.OK
}

// P1.1: Add and Sub at given numbers.
func TestAddSub(t *testing.T) {
	for _, c := range []struct {
		a, b, sum int
		e         api.Errno
		less      int
		f         api.Errno
	}{
		{2, 3, 5, api.OK, -1, api.OK},
		{-2, 3, 1, api.OK, -5, api.OK},
		{0, 0, 0, api.OK, 0, api.OK},
		{most, 0, most, api.OK, most, api.OK},
		{least, 0, least, api.OK, least, api.OK},
		{most, 1, 0, api.ErrOver, most - 1, api.OK},
		{most, -1, most - 1, api.OK, 0, api.ErrOver},
		{least, 1, least + 1, api.OK, 0, api.ErrOver},
		{least, -1, 0, api.ErrOver, least + 1, api.OK},
		{most, most, 0, api.ErrOver, 0, api.OK},
		{least, least, 0, api.ErrOver, 0, api.OK},
		{most, least, -1, api.OK, 0, api.ErrOver},
		{least, most, -1, api.OK, 0, api.ErrOver},
		{0, least, least, api.OK, 0, api.ErrOver},
		{-1, least, 0, api.ErrOver, most, api.OK},
		{1, most, 0, api.ErrOver, 1 - most, api.OK},
		{-2, most, most - 2, api.OK, 0, api.ErrOver},
		{-1, most, most - 1, api.OK, least, api.OK},
	} {
		if n, e := Add(c.a, c.b); n != c.sum || e != c.e {
			t.Errorf("Add(%d, %d): %d, %d", c.a, c.b, n, e)
		}
		if n, e := Sub(c.a, c.b); n != c.less || e != c.f {
			t.Errorf("Sub(%d, %d): %d, %d", c.a, c.b, n, e)
		}
	}
}

// P1.1: Add and Sub against exact numbers, at all pairs of edges.
func TestAddSubExact(t *testing.T) {
	for _, a := range edges() {
		for _, b := range edges() {
			x, y := big.NewInt(int64(a)), big.NewInt(int64(b))
			want, wantE := whole(new(big.Int).Add(x, y))
			if n, e := Add(a, b); n != want || e != wantE {
				t.Fatalf("Add(%d, %d): %d, %d", a, b, n, e)
			}
			want, wantE = whole(new(big.Int).Sub(x, y))
			if n, e := Sub(a, b); n != want || e != wantE {
				t.Fatalf("Sub(%d, %d): %d, %d", a, b, n, e)
			}
		}
	}
}

// P1.1: Sum of none, of one, of many, and such as run over on their way.
func TestSum(t *testing.T) {
	for _, c := range []struct {
		l []int
		n int
		e api.Errno
	}{
		{nil, 0, api.OK},
		{[]int{}, 0, api.OK},
		{[]int{7}, 7, api.OK},
		{[]int{least}, least, api.OK},
		{[]int{most}, most, api.OK},
		{[]int{1, -2, 30}, 29, api.OK},
		{[]int{most, -5, 5}, most, api.OK},
		{[]int{most, 5, -5}, 0, api.ErrOver},
		{[]int{5, -5, most}, most, api.OK},
		{[]int{5, most, -5}, 0, api.ErrOver},
		{[]int{least, -1, 1}, 0, api.ErrOver},
		{[]int{least, 1, -1}, least, api.OK},
		{[]int{most, most, most, 3}, 0, api.ErrOver},
		{[]int{most, 1, least, least}, 0, api.ErrOver},
		{[]int{most, least, 1}, 0, api.OK},
		{[]int{1, 2, most}, 0, api.ErrOver},
	} {
		if n, e := Sum(c.l...); n != c.n || e != c.e {
			t.Errorf("Sum(%v): %d, %d", c.l, n, e)
		}
	}
	if n, e := Sum(); n != 0 || e != api.OK {
		t.Errorf("Sum(): %d, %d", n, e)
	}
}

// R4: what is handed to Sum stays as it is.
func TestSumKeeps(t *testing.T) {
	l := []int{1, most, 3, 99}
	Sum(l[:3]...)
	if l[0] != 1 || l[1] != most || l[2] != 3 || l[3] != 99 {
		t.Error(l)
	}
}

// P1.2: texts, and the numbers whose texts they are.
func TestTextRead(t *testing.T) {
	for _, c := range []struct {
		text string
		n    int
	}{
		{"0", 0}, {"7", 7}, {"-7", -7}, {"10", 10}, {"-40", -40}, {"100", 100}, {"-1", -1}, {"9", 9},
		{"1099511627776", api.MaxNumber},
		{"9223372036854775807", most}, {"9223372036854775806", most - 1},
		{"-9223372036854775807", -most}, {"-9223372036854775808", least},
	} {
		if text := Text(c.n); text != c.text {
			t.Errorf("Text(%d): %q", c.n, text)
		}
		if n, e := Read(c.text); n != c.n || e != api.OK {
			t.Errorf("Read(%q): %d, %d", c.text, n, e)
		}
	}
}

// P1.2: what is no number's text; the form is asked ahead of the size.
func TestReadWrong(t *testing.T) {
	long := strings.Repeat("9", 5000)
	for _, text := range []string{
		"", "-", "--", "--1", "-0", "00", "007", "01", "-01", "-00", "0-", "0x", "+1", "+", "+0", "1-", "-1-", "1+1",
		" 1", "1 ", "- 1", "\n", "1\n", "1_0", "1.0", "1e3", "0x1f", "a", "1a", "-a", "1\x00", "\x00", "1/", "1:", "/", ":",
		"\xff", "\xb1", "١", "−1", "099999999999999999999", "-099999999999999999999", "99999999999999999999x",
		"-99999999999999999999-", "9223372036854775808 ", long + "x", "0" + long, "-" + long + "+",
	} {
		if n, e := Read(text); n != 0 || e != api.ErrForm {
			t.Errorf("Read(%.40q): %d, %d", text, n, e)
		}
	}
	for _, text := range []string{
		"9223372036854775808", "9223372036854775809", "9223372036854775810", "9223372036854775817", "9300000000000000000",
		"-9223372036854775809", "-9223372036854775810", "-9223372036854775818", "10000000000000000000", "-10000000000000000000",
		"18446744073709551615", "18446744073709551616", "18446744073709551617", "99999999999999999999", "-18446744073709551617",
		"92233720368547758080", "-92233720368547758080", "92233720368547758090", "-92233720368547758097", long, "-" + long, "1" + strings.Repeat("0", 64), "-1" + strings.Repeat("0", 64),
	} {
		if n, e := Read(text); n != 0 || e != api.ErrOver {
			t.Errorf("Read(%.40q): %d, %d", text, n, e)
		}
	}
}

// P1.2: each byte that is no digit is ErrForm, wherever it stands.
func TestReadBytes(t *testing.T) {
	for i := range 256 {
		b := byte(i)
		digit := b >= '0' && b <= '9'
		if n, e := Read(string([]byte{b})); digit && (n != int(b-'0') || e != api.OK) || !digit && (n != 0 || e != api.ErrForm) {
			t.Errorf("byte %d alone: %d, %d", b, n, e)
		}
		if n, e := Read(string([]byte{'3', b, '4'})); digit && (n != 304+10*int(b-'0') || e != api.OK) || !digit && (n != 0 || e != api.ErrForm) {
			t.Errorf("byte %d between: %d, %d", b, n, e)
		}
	}
}

// P1.2: all short texts of some bytes, against the library's reading of those that it would write so.
func TestReadShort(t *testing.T) {
	texts := []string{""}
	for range 5 {
		for _, text := range texts {
			n, err := strconv.Atoi(text)
			right := err == nil && strconv.Itoa(n) == text
			got, e := Read(text)
			if right && (got != n || e != api.OK) || !right && (got != 0 || e != api.ErrForm) {
				t.Fatalf("Read(%q): %d, %d", text, got, e)
			}
		}
		var longer []string
		for _, text := range texts {
			for _, c := range "-+0189 _." {
				longer = append(longer, text+string(c))
			}
		}
		texts = longer
	}
}

// P1.2, P1.4: the texts of all edges are the library's, and read back.
func TestTextEdges(t *testing.T) {
	for _, n := range edges() {
		text := Text(n)
		if text != strconv.Itoa(n) {
			t.Errorf("Text(%d): %q", n, text)
		}
		if m, e := Read(text); m != n || e != api.OK {
			t.Errorf("Read(%q): %d, %d", text, m, e)
		}
	}
}

// P1.3: the bytes of given numbers.
func TestPut(t *testing.T) {
	for _, c := range []struct {
		n, bytes int
		want     string
	}{
		{258, 3, "\x00\x01\x02"}, {258, 2, "\x01\x02"}, {258, 1, "\x02"}, {258, 0, ""}, {258, -1, ""}, {258, least, ""},
		{0, 1, "\x00"}, {0, 2, "\x00\x00"}, {255, 1, "\xff"}, {256, 1, "\x00"},
		{-1, 1, "\xff"}, {-1, 3, "\xff\xff\xff"}, {-2, 2, "\xff\xfe"}, {-258, 3, "\xff\xfe\xfe"}, {-5, 0, ""}, {-5, -8, ""},
		{-2, 8, "\xff\xff\xff\xff\xff\xff\xff\xfe"}, {-2, 9, "\xff\xff\xff\xff\xff\xff\xff\xfe"},
		{1, 8, "\x00\x00\x00\x00\x00\x00\x00\x01"}, {1, 9, "\x00\x00\x00\x00\x00\x00\x00\x01"}, {1, most, "\x00\x00\x00\x00\x00\x00\x00\x01"},
		{0x0102030405060708, 8, "\x01\x02\x03\x04\x05\x06\x07\x08"}, {0x0102030405060708, 7, "\x02\x03\x04\x05\x06\x07\x08"},
		{most, 8, "\x7f\xff\xff\xff\xff\xff\xff\xff"}, {least, 8, "\x80\x00\x00\x00\x00\x00\x00\x00"}, {least, 7, "\x00\x00\x00\x00\x00\x00\x00"},
	} {
		if b := Put(c.n, c.bytes); string(b) != c.want {
			t.Errorf("Put(%d, %d): %x", c.n, c.bytes, b)
		}
	}
}

// P1.3: the numbers of given bytes.
func TestTake(t *testing.T) {
	for _, c := range []struct {
		b string
		n int
	}{
		{"", 0}, {"\x00", 0}, {"\x02", 2}, {"\xff", 255}, {"\x80", 128}, {"\x01\x02", 258}, {"\x00\x01\x02", 258},
		{"\xff\xff", 1<<16 - 1}, {"\x01\x02\x03\x04\x05\x06\x07", 0x01020304050607},
		{"\xff\xff\xff\xff\xff\xff\xff", 1<<56 - 1}, {"\x80\x00\x00\x00\x00\x00\x00", 1 << 55},
		{"\x09\x00\x00\x00\x00\x00\x00\x01", 1}, {"\xff\xff\xff\xff\xff\xff\xff\xff", 1<<56 - 1},
		{"\xff\xfe\x01\x02\x03\x04\x05\x06\x07", 0x01020304050607}, {strings.Repeat("\xff", 100) + "\x00\x00\x00\x00\x00\x01\x02", 258},
	} {
		if n := Take([]byte(c.b)); n != c.n {
			t.Errorf("Take(%x): %d", c.b, n)
		}
	}
	if n := Take(nil); n != 0 {
		t.Errorf("Take(nil): %d", n)
	}
}

// R4: an answer of Put is its own memory, and what is taken stays as it is.
func TestBytesOwn(t *testing.T) {
	a, b := Put(258, 2), Put(258, 2)
	a[0] = 9
	if !bytes.Equal(b, []byte{1, 2}) {
		t.Error(b)
	}
	room := []byte{1, 2, 3, 4}
	if n := Take(room[1:3]); n != 2<<8|3 || !bytes.Equal(room, []byte{1, 2, 3, 4}) {
		t.Error(n, room)
	}
}

// P1.4: what does not run over is taken back by its other one.
func TestTakenBack(t *testing.T) {
	for _, a := range edges() {
		for _, b := range edges() {
			if n, e := Add(a, b); e == api.OK {
				if m, f := Sub(n, b); m != a || f != api.OK {
					t.Fatalf("Sub(Add(%d, %d)): %d, %d", a, b, m, f)
				}
			}
			if n, e := Sub(a, b); e == api.OK {
				if m, f := Add(n, b); m != a || f != api.OK {
					t.Fatalf("Add(Sub(%d, %d)): %d, %d", a, b, m, f)
				}
			}
		}
	}
}

// P1.4: a text that is read is the text of what was read.
func TestTextOfRead(t *testing.T) {
	read := 0
	for _, n := range edges() {
		digits := strings.TrimPrefix(strconv.Itoa(n), "-")
		for _, ahead := range []string{"", "-", "0", "-0", "+", " "} {
			m, e := Read(ahead + digits)
			if e != api.OK {
				continue
			}
			read++
			if Text(m) != ahead+digits {
				t.Errorf("Text(Read(%q)): %q", ahead+digits, Text(m))
			}
		}
	}
	if read == 0 {
		t.Error("none was read")
	}
}

// P1.4: bytes that are put are taken, as far as Take reaches (7 bytes: P1.3).
func TestBytesTaken(t *testing.T) {
	taken := 0
	for _, n := range edges() {
		for count := -1; count <= 9; count++ {
			fits := n >= 0 && n < 1<<(8*min(max(count, 0), 7))
			if !fits {
				continue
			}
			taken++
			if m := Take(Put(n, count)); m != n {
				t.Errorf("Take(Put(%d, %d)): %d", n, count, m)
			}
		}
	}
	if taken == 0 {
		t.Error("none was taken")
	}
}

// FuzzRead holds Read against the library, at any text.
func FuzzRead(f *testing.F) {
	for _, text := range []string{"", "-", "-0", "007", "-40", "+1", "9223372036854775808", "-9223372036854775808"} {
		f.Add(text)
	}
	f.Fuzz(func(t *testing.T, text string) {
		n, e := Read(text)
		want, err := strconv.Atoi(text)
		switch {
		case err == nil && strconv.Itoa(want) == text:
			if n != want || e != api.OK {
				t.Errorf("Read(%q): %d, %d", text, n, e)
			}
		case e == api.OK || n != 0:
			t.Errorf("Read(%q): %d, %d", text, n, e)
		}
	})
}
