package plane

import (
	"math"
	"math/big"
	"testing"

	"straggle/api"
)

const (
	most  = math.MaxInt
	least = math.MinInt
	edge  = api.MaxCoord
)

// minus0 is -0: a constant cannot be.
var minus0 = math.Copysign(0, -1)

// wholes are parts that points may have.
func wholes() []int {
	return []int{0, 1, -1, 2, -2, 3, 4, 7, -12, 1000, 65535, -65536, 3 << 18, edge - 1, 1 - edge, edge, -edge}
}

// points are those that may be, of all pairs of wholes.
func points() []complex128 {
	var l []complex128
	for _, x := range wholes() {
		for _, y := range wholes() {
			l = append(l, complex(float64(x), float64(y)))
		}
	}
	return l
}

// wrongParts are parts that no point may have.
func wrongParts() []float64 {
	return []float64{
		edge + 1, -edge - 1, math.Nextafter(edge, math.Inf(1)), math.Nextafter(-edge, math.Inf(-1)), edge + 0.5, -edge - 0.5,
		0.5, -0.5, 1.25, -7.75, edge - 0.5, 0.5 - edge, math.Nextafter(edge, 0), math.Nextafter(1, 2), math.Nextafter(1, 0),
		math.SmallestNonzeroFloat64, -math.SmallestNonzeroFloat64,
		2 * edge, 1 << 32, 1<<32 + 1, 1 << 52, 1 << 53, 1 << 62, 1 << 63, -1 << 63, 1 << 64, 1e300, -1e300, math.MaxFloat64, -math.MaxFloat64,
		math.Inf(1), math.Inf(-1), math.NaN(), math.Float64frombits(0xfff8000000000123),
	}
}

// wrongPoints are points that may not be: for the sake of their real, their imaginary, or both parts.
func wrongPoints() []complex128 {
	var l []complex128
	for _, p := range wrongParts() {
		for _, q := range []float64{0, minus0, 1, -5, edge, -edge} {
			l = append(l, complex(p, q), complex(q, p))
		}
		l = append(l, complex(p, p), complex(p, -p))
	}
	return l
}

// bits tells -0 from 0 and one NaN from another, as == does not.
func bits(c complex128) [2]uint64 {
	return [2]uint64{math.Float64bits(real(c)), math.Float64bits(imag(c))}
}

// P2.1: points that may be are right, have their parts, and are made of them.
func TestPoints(t *testing.T) {
	for _, x := range wholes() {
		for _, y := range wholes() {
			c := complex(float64(x), float64(y))
			if !Right(c) || X(c) != x || Y(c) != y {
				t.Errorf("%v: %t, %d, %d", c, Right(c), X(c), Y(c))
			}
			if d, e := Make(x, y); bits(d) != bits(c) || e != api.OK {
				t.Errorf("Make(%d, %d): %v, %d", x, y, d, e)
			}
		}
	}
}

// P2.1: all parts near 0 and near the edges, one by one.
func TestPartsNearEdges(t *testing.T) {
	for _, near := range []int{0, edge, -edge} {
		for d := -20; d <= 20; d++ {
			quarter := float64(near) + float64(d)/4
			right := d%4 == 0 && math.Abs(quarter) <= edge
			want := 0
			if right {
				want = near + d/4
			}
			if c := complex(quarter, 3); Right(c) != right || X(c) != want || right && Y(c) != 3 || !right && Y(c) != 0 {
				t.Errorf("%v: %t, %d, %d", c, Right(c), X(c), Y(c))
			}
			if c := complex(3, quarter); Right(c) != right || Y(c) != want || right && X(c) != 3 || !right && X(c) != 0 {
				t.Errorf("%v: %t, %d, %d", c, Right(c), X(c), Y(c))
			}
		}
	}
}

// P2.1: points that may not be are not right and have parts 0.
func TestWrongPoints(t *testing.T) {
	for _, c := range wrongPoints() {
		if Right(c) || X(c) != 0 || Y(c) != 0 {
			t.Errorf("%v: %t, %d, %d", c, Right(c), X(c), Y(c))
		}
	}
}

// P2.1: -0 is 0, in either part.
func TestMinus0(t *testing.T) {
	for _, c := range []complex128{complex(minus0, 0), complex(0, minus0), complex(minus0, minus0)} {
		if !Right(c) || X(c) != 0 || Y(c) != 0 || Norm(c) != 0 || !Same(c, 0) || !Same(0, c) {
			t.Errorf("%v: %t, %d, %d, %d, %t, %t", c, Right(c), X(c), Y(c), Norm(c), Same(c, 0), Same(0, c))
		}
	}
	for _, x := range wholes() {
		c, d := complex(float64(x), minus0), complex(minus0, float64(x))
		if !Right(c) || X(c) != x || Y(c) != 0 || !Right(d) || X(d) != 0 || Y(d) != x {
			t.Errorf("%v, %v: %d, %d, %d, %d", c, d, X(c), Y(c), X(d), Y(d))
		}
	}
}

// P2.1: Make of parts that may not be, in either place, is ErrPlane and 0.
func TestMakeWrong(t *testing.T) {
	for _, n := range []int{
		edge + 1, -edge - 1, edge + 2, 2 * edge, -2 * edge, 1 << 31, 1 << 32, 1<<32 + 1, -1 << 32, 1<<53 + 1, 1 << 62, 1<<63 - 1025,
		most - 1, most, least, least + 1,
	} {
		for _, w := range append(wholes(), n) {
			if c, e := Make(n, w); bits(c) != bits(0) || e != api.ErrPlane {
				t.Errorf("Make(%d, %d): %v, %d", n, w, c, e)
			}
			if c, e := Make(w, n); bits(c) != bits(0) || e != api.ErrPlane {
				t.Errorf("Make(%d, %d): %v, %d", w, n, c, e)
			}
		}
	}
	for _, p := range [][2]int{{most, least}, {least, most}, {most, most}, {least, least}} {
		if c, e := Make(p[0], p[1]); bits(c) != bits(0) || e != api.ErrPlane {
			t.Errorf("Make(%d, %d): %v, %d", p[0], p[1], c, e)
		}
	}
}

// P2.1: each part is as itself alone, but for -0 and 0, and for NaN of whatever bits; so of points that may not be.
func TestSame(t *testing.T) {
	// Those of one row are the same, those of two are not.
	rows := [][]float64{
		{0, minus0}, {1}, {-1}, {edge}, {-edge}, {edge + 1}, {-edge - 1}, {0.5}, {-0.5},
		{math.SmallestNonzeroFloat64}, {-math.SmallestNonzeroFloat64}, {math.Nextafter(1, 2)},
		{1e300}, {-1e300}, {math.MaxFloat64}, {math.Inf(1)}, {math.Inf(-1)},
		{math.NaN(), -math.NaN(), math.Float64frombits(0xfff8000000000123), math.Float64frombits(0x7ff8000000000000)},
	}
	type part struct {
		row int
		p   float64
	}
	var parts []part
	for i, row := range rows {
		for _, p := range row {
			parts = append(parts, part{i, p})
		}
	}
	for _, a := range parts {
		for _, b := range parts {
			for _, c := range parts {
				for _, d := range parts {
					p, q := complex(a.p, b.p), complex(c.p, d.p)
					if want := a.row == c.row && b.row == d.row; Same(p, q) != want {
						t.Fatalf("Same(%v, %v): %t", p, q, !want)
					}
				}
			}
		}
	}
}

// P2.2: Norm, Dot and Cross at given points.
func TestProducts(t *testing.T) {
	for _, c := range []struct {
		a, b       complex128
		dot, cross int
	}{
		{1 + 2i, 3 + 4i, 11, -2}, {3 + 4i, 1 + 2i, 11, 2}, {1, 1i, 0, 1}, {1i, 1, 0, -1}, {1i, 1i, 1, 0},
		{0, 5 + 7i, 0, 0}, {5 + 7i, 0, 0, 0}, {-3 + 2i, 4 - 5i, -22, 7}, {2, -3, -6, 0}, {2i, -3i, -6, 0},
		{edge + edge*1i, edge + edge*1i, 1 << 41, 0}, {edge + edge*1i, -edge - edge*1i, -1 << 41, 0},
		{edge + edge*1i, -edge + edge*1i, 0, 1 << 41}, {edge + edge*1i, edge - edge*1i, 0, -1 << 41},
		{edge - 1 + edge*1i, edge + (edge-1)*1i, 2*(1<<40) - 2*edge, 1 - 2*edge},
		{complex(minus0, minus0), edge + edge*1i, 0, 0},
	} {
		if dot, cross := Dot(c.a, c.b), Cross(c.a, c.b); dot != c.dot || cross != c.cross {
			t.Errorf("%v, %v: %d, %d", c.a, c.b, dot, cross)
		}
	}
	for _, c := range []struct {
		c    complex128
		norm int
	}{
		{0, 0}, {1, 1}, {1i, 1}, {3 + 4i, 25}, {-3 + 4i, 25}, {3 - 4i, 25}, {edge, 1 << 40}, {-edge * 1i, 1 << 40},
		{edge + edge*1i, 1 << 41}, {-edge - edge*1i, 1 << 41}, {edge - 1 + edge*1i, 1<<41 - 2*edge + 1},
	} {
		if n := Norm(c.c); n != c.norm {
			t.Errorf("Norm(%v): %d", c.c, n)
		}
	}
}

// P2.2: all of them exactly, against whole numbers' arithmetic.
func TestProductsExact(t *testing.T) {
	for _, a := range points() {
		ax, ay := int(real(a)), int(imag(a))
		if n := Norm(a); n != ax*ax+ay*ay {
			t.Fatalf("Norm(%v): %d", a, n)
		}
		for _, b := range points() {
			bx, by := int(real(b)), int(imag(b))
			if dot, cross := Dot(a, b), Cross(a, b); dot != ax*bx+ay*by || cross != ax*by-ay*bx {
				t.Fatalf("%v, %v: %d, %d", a, b, dot, cross)
			}
		}
	}
}

// P2.2: 0, if one that is handed in may not be, in either place.
func TestProductsWrong(t *testing.T) {
	for _, w := range wrongPoints() {
		if n := Norm(w); n != 0 {
			t.Errorf("Norm(%v): %d", w, n)
		}
		for _, c := range []complex128{0, 1, 1i, 3 + 4i, edge - edge*1i, w} {
			if Dot(w, c) != 0 || Dot(c, w) != 0 || Cross(w, c) != 0 || Cross(c, w) != 0 {
				t.Errorf("%v, %v: %d, %d, %d, %d", w, c, Dot(w, c), Dot(c, w), Cross(w, c), Cross(c, w))
			}
		}
	}
}

// turned is a point turned by whole numbers: x, y goes to -y, x.
func turned(x, y, times int) complex128 {
	for range times {
		x, y = -y, x
	}
	return complex(float64(x), float64(y))
}

// P2.3: points turned by quarters, bit by bit: no part is -0.
func TestTurn(t *testing.T) {
	for quarters, want := range map[int]complex128{
		0: 1 + 2i, 1: -2 + 1i, 2: -1 - 2i, 3: 2 - 1i, 4: 1 + 2i, 5: -2 + 1i,
		-1: 2 - 1i, -2: -1 - 2i, -3: -2 + 1i, -4: 1 + 2i, -5: 2 - 1i,
	} {
		if c := Turn(1+2i, quarters); bits(c) != bits(want) {
			t.Errorf("Turn(1+2i, %d): %v", quarters, c)
		}
	}
	for _, x := range wholes() {
		for _, y := range wholes() {
			for times := range 4 {
				c, want := complex(float64(x), float64(y)), turned(x, y, times)
				for _, quarters := range []int{times, times - 4, times + 4, times + 1<<40, times - 1<<40, times + most - 3, times + least} {
					if d := Turn(c, quarters); bits(d) != bits(want) {
						t.Fatalf("Turn(%v, %d): %v", c, quarters, d)
					}
				}
			}
		}
	}
}

// P2.3: a part that is -0 comes out as +0, however it is turned.
func TestTurnMinus0(t *testing.T) {
	for _, x := range wholes() {
		for quarters := -5; quarters <= 5; quarters++ {
			times := ((quarters % 4) + 4) % 4
			if c := Turn(complex(float64(x), minus0), quarters); bits(c) != bits(turned(x, 0, times)) {
				t.Errorf("%d, -0 by %d: %v", x, quarters, c)
			}
			if c := Turn(complex(minus0, float64(x)), quarters); bits(c) != bits(turned(0, x, times)) {
				t.Errorf("-0, %d by %d: %v", x, quarters, c)
			}
			if c := Turn(complex(minus0, minus0), quarters); bits(c) != bits(0) {
				t.Errorf("-0, -0 by %d: %v", quarters, c)
			}
		}
	}
}

// P2.3: 0, if it may not be, whatever the quarters.
func TestTurnWrong(t *testing.T) {
	for _, w := range wrongPoints() {
		for _, quarters := range []int{0, 1, 2, 3, 4, -1, most, least} {
			if c := Turn(w, quarters); bits(c) != bits(0) {
				t.Errorf("Turn(%v, %d): %v", w, quarters, c)
			}
		}
	}
}

// P2.4: what follows of one point.
func TestFollowsOne(t *testing.T) {
	for _, c := range append(points(), wrongPoints()...) {
		if Norm(c) != Dot(c, c) || Cross(c, c) != 0 || !Same(c, c) {
			t.Errorf("%v: %d, %d, %d, %t", c, Norm(c), Dot(c, c), Cross(c, c), Same(c, c))
		}
	}
}

// P2.4: what follows of two points.
func TestFollowsTwo(t *testing.T) {
	others := append(points(), 0.5, complex(math.NaN(), 1), complex(2, math.Inf(1)), edge+1)
	for _, a := range others {
		for _, b := range others {
			dot, cross := Dot(a, b), Cross(a, b)
			if Dot(b, a) != dot || Cross(b, a) != -cross {
				t.Fatalf("%v, %v: %d, %d, %d, %d", a, b, dot, Dot(b, a), cross, Cross(b, a))
			}
			for quarters := -1; quarters < 4; quarters++ {
				c, d := Turn(a, quarters), Turn(b, quarters)
				if Dot(c, d) != dot || Cross(c, d) != cross || Right(a) && Norm(c) != Norm(a) {
					t.Fatalf("%v, %v by %d: %d, %d", a, b, quarters, Dot(c, d), Cross(c, d))
				}
			}
		}
	}
}

// P2.4: the squares of Dot and Cross together are the product of both Norms.
func TestFollowsSquares(t *testing.T) {
	times := func(m, n int) *big.Int { return new(big.Int).Mul(big.NewInt(int64(m)), big.NewInt(int64(n))) }
	for _, a := range points() {
		for _, b := range points() {
			dot, cross := Dot(a, b), Cross(a, b)
			together := new(big.Int).Add(times(dot, dot), times(cross, cross))
			if together.Cmp(times(Norm(a), Norm(b))) != 0 {
				t.Fatalf("%v, %v: %v", a, b, together)
			}
		}
	}
}

// Quarters may be left early.
func TestUnitsLeft(t *testing.T) {
	told := 0
	for unit := range units(3) {
		told++
		if unit != 1i {
			t.Error(unit)
		}
		break
	}
	if told != 1 {
		t.Error(told)
	}
}

// FuzzTurn holds points of any parts against whole numbers' arithmetic.
func FuzzTurn(f *testing.F) {
	f.Add(1.0, 2.0, 1)
	f.Add(minus0, float64(edge), -1)
	f.Add(math.NaN(), math.Inf(1), least)
	f.Fuzz(func(t *testing.T, x, y float64, quarters int) {
		c := complex(x, y)
		right := x == math.Trunc(x) && y == math.Trunc(y) && math.Abs(x) <= edge && math.Abs(y) <= edge
		want := complex128(0)
		if right {
			want = turned(int(x), int(y), ((quarters%4)+4)%4)
		}
		if d := Turn(c, quarters); Right(c) != right || bits(d) != bits(want) || !Same(c, c) {
			t.Errorf("Turn(%v, %d): %t, %v", c, quarters, Right(c), d)
		}
	})
}
