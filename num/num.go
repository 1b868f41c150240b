// Package num is layer 1: see shared/doc/01-num.md.
package num

import (
	"iter"
	"math"
	"slices"
	"strings"

	"straggle/api"
)

const (
	mostPut  = 8 // bytes of a whole number
	mostTake = 7 // one less: so nothing that is taken is below 0
	noDigit  = -1
)

// Add: P1.1.
func Add(a, b int) (int, api.Errno) {
	n := a + b
	// A sum that ran over has wrapped round to the wrong side of a.
	if (n > a) != (b > 0) {
		return 0, api.ErrOver
	}
	return n, api.OK
}

// Sub: P1.1.
func Sub(a, b int) (int, api.Errno) {
	// Not Add(a, -b): the least number has no other one.
	n := a - b
	if (n < a) != (b > 0) {
		return 0, api.ErrOver
	}
	return n, api.OK
}

// Sum: P1.1.
func Sum(l ...int) (int, api.Errno) {
	n, e := 0, api.OK
	for _, x := range l {
		n, e = Add(n, x)
		if e != api.OK {
			goto over
		}
	}
	return n, api.OK
over:
	return 0, e
}

// Text: P1.2.
func Text(n int) string {
	var b []byte
	for d := range lowDigits(n) {
		b = append(b, d)
	}
	if n < 0 {
		b = append(b, '-')
	}
	slices.Reverse(b)
	return string(b)
}

// Read: P1.2.
func Read(text string) (int, api.Errno) {
	digits, below := strings.CutPrefix(text, "-")
	n, over := 0, false
	if digits == "" || zeroAhead(digits, below) {
		goto none
	}
	// The number is built below 0, where one more lies than above. A text
	// that runs over is read to its end all the same: its form is asked first.
	for d := range digitsOf(digits) {
		if d == noDigit {
			goto none
		}
		over = over || n < (math.MinInt+d)/10
		if !over {
			n = n*10 - d
		}
	}
	if over || !below && n == math.MinInt {
		return 0, api.ErrOver
	}
	if !below {
		n = -n
	}
	return n, api.OK
none:
	return 0, api.ErrForm
}

// Put: P1.3.
func Put(n, bytes int) []byte {
	bytes = min(max(bytes, 0), mostPut)
	b := make([]byte, bytes)
	for i := range b {
		b[i] = byte(n >> (8 * (bytes - 1 - i)))
	}
	return b
}

// Take: P1.3.
func Take(b []byte) int {
	n := 0
	for _, x := range b[max(len(b)-mostTake, 0):] {
		n = n<<8 | int(x)
	}
	return n
}

// zeroAhead tells whether a 0 stands where a number's text has none: ahead of other digits, or behind -.
func zeroAhead(digits string, below bool) bool {
	return digits[0] == '0' && (below || len(digits) > 1)
}

// digitsOf tells what each byte of a text is worth, noDigit for one that is none.
func digitsOf(text string) iter.Seq[int] {
	return func(yield func(int) bool) {
		for i := range len(text) {
			d := noDigit
			if text[i] >= '0' && text[i] <= '9' {
				d = int(text[i] - '0')
			}
			if !yield(d) {
				return
			}
		}
	}
}

// lowDigits tells the digits of n, the last one first; of 0 it tells one.
func lowDigits(n int) iter.Seq[byte] {
	return func(yield func(byte) bool) {
		// Unsigned, because the least number's digits are those of no int.
		left := uint64(n)
		if n < 0 {
			left = -left
		}
		for yield('0'+byte(left%10)) && left > 9 {
			left /= 10
		}
	}
}
