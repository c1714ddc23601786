package galois

import (
	"math"
	"testing"

	"amphora/api"
)

// product is the field's, by long division of the polynomials.
func product(a, b byte) byte {
	wide := 0
	for i := range 8 {
		if b>>i&1 == 1 {
			wide ^= int(a) << i
		}
	}
	for i := 14; i >= 8; i-- {
		if wide>>i&1 == 1 {
			wide ^= 0x11d << (i - 8)
		}
	}
	return byte(wide)
}

// power is 2 to an n from 0 on, one product at a time.
func power(n int) byte {
	p := byte(1)
	for range n {
		p = product(p, 2)
	}
	return p
}

// each calls f with all pairs of numbers.
func each(f func(a, b byte)) {
	for i := range 1 << 16 {
		f(byte(i>>8), byte(i))
	}
}

// some is numbers of all sorts, where all triples would take too long.
func some() []byte {
	return []byte{0, 1, 2, 3, 5, 0x1c, 0x1d, 0x1e, 0x53, 0x7f, 0x80, 0x81, 0x8e, 0xca, 0xfe, 0xff}
}

func TestExamples(t *testing.T) {
	if x := Mul(0x80, 2); x != 0x1d {
		t.Errorf("Mul(80, 2) = %x", x)
	}
	if x := Exp(8); x != 0x1d {
		t.Errorf("Exp(8) = %x", x)
	}
	if x, e := Inv(2); x != 0x8e || e != api.OK {
		t.Errorf("Inv(2) = %x, %d", x, e)
	}
}

// P1.1
func TestAddIsWithoutCarry(t *testing.T) {
	each(func(a, b byte) {
		if x := Add(a, b); x != a^b {
			t.Fatalf("Add(%x, %x) = %x", a, b, x)
		}
	})
}

// P1.1
func TestMulIsTheRemainder(t *testing.T) {
	each(func(a, b byte) {
		if x := Mul(a, b); x != product(a, b) {
			t.Fatalf("Mul(%x, %x) = %x, want %x", a, b, x, product(a, b))
		}
	})
}

// P1.1
func TestDivUndoesMul(t *testing.T) {
	each(func(a, b byte) {
		x, e := Div(a, b)
		if b == 0 && (x != 0 || e != api.ErrArg) {
			t.Fatalf("Div(%x, 0) = %x, %d", a, x, e)
		}
		if b != 0 && (product(x, b) != a || e != api.OK) {
			t.Fatalf("Div(%x, %x) = %x, %d", a, b, x, e)
		}
	})
}

// P1.1
func TestInvIsDivOfOne(t *testing.T) {
	for i := range 256 {
		a := byte(i)
		x, e := Inv(a)
		if y, f := Div(1, a); x != y || e != f {
			t.Errorf("Inv(%x) = %x, %d; Div(1, %x) = %x, %d", a, x, e, a, y, f)
		}
	}
	if x, e := Inv(0); x != 0 || e != api.ErrArg {
		t.Errorf("Inv(0) = %x, %d", x, e)
	}
}

// P1.2
func TestExpIsAPowerOfTwo(t *testing.T) {
	for n := -1000; n <= 1000; n++ {
		rest := ((n % 255) + 255) % 255
		if x := Exp(n); x != power(rest) {
			t.Errorf("Exp(%d) = %x, want %x", n, x, power(rest))
		}
	}
}

// P1.2. 2^8 leaves 1 by 255, and 63 is 7 times 8 and 7: so 2^63 leaves 128.
func TestExpOfHugeNumbers(t *testing.T) {
	for _, c := range []struct{ n, rest int }{
		{math.MaxInt64, 127}, {math.MaxInt64 - 1, 126},
		{math.MinInt64, 127}, {math.MinInt64 + 1, 128},
		{math.MaxInt32, 127}, {math.MinInt32, 127},
	} {
		if x := Exp(c.n); x != power(c.rest) {
			t.Errorf("Exp(%d) = %x, want %x", c.n, x, power(c.rest))
		}
	}
}

// P1.2
func TestLogIsTheExponent(t *testing.T) {
	for n := range 255 {
		if x, e := Log(power(n)); x != n || e != api.OK {
			t.Errorf("Log(%x) = %d, %d, want %d", power(n), x, e, n)
		}
	}
	if x, e := Log(0); x != 0 || e != api.ErrArg {
		t.Errorf("Log(0) = %d, %d", x, e)
	}
}

// P1.2
func TestPowIsARepeatedProduct(t *testing.T) {
	for i := range 256 {
		a, want := byte(i), byte(1)
		for n := range 600 {
			if x := Pow(a, n); x != want {
				t.Fatalf("Pow(%x, %d) = %x, want %x", a, n, x, want)
			}
			want = product(want, a)
		}
	}
}

// P1.2
func TestPowAtTheEdges(t *testing.T) {
	for i := range 256 {
		a := byte(i)
		for _, n := range []int{0, -1, -2, -255, math.MinInt32, math.MinInt64, math.MinInt64 + 1} {
			if x := Pow(a, n); x != 1 {
				t.Errorf("Pow(%x, %d) = %x, want 1", a, n, x)
			}
		}
		want := byte(1)
		for range 127 { // what MaxInt64 leaves by 255; of 0 it is 0 as well
			want = product(want, a)
		}
		if x := Pow(a, math.MaxInt64); x != want {
			t.Errorf("Pow(%x, huge) = %x, want %x", a, x, want)
		}
	}
}

// P1.3
func TestOrderDoesNotMatter(t *testing.T) {
	each(func(a, b byte) {
		if Add(a, b) != Add(b, a) || Mul(a, b) != Mul(b, a) {
			t.Fatalf("%x and %x are not commutative", a, b)
		}
		for _, c := range some() {
			if Add(Add(a, b), c) != Add(a, Add(b, c)) || Mul(Mul(a, b), c) != Mul(a, Mul(b, c)) {
				t.Fatalf("%x, %x and %x are not associative", a, b, c)
			}
		}
	})
}

// P1.3
func TestProductsAreSpread(t *testing.T) {
	each(func(a, b byte) {
		for _, c := range some() {
			if Mul(c, Add(a, b)) != Add(Mul(c, a), Mul(c, b)) {
				t.Fatalf("%x times (%x + %x) is not spread", c, a, b)
			}
		}
	})
}

// P1.3
func TestInversesAndNeutralNumbers(t *testing.T) {
	for i := range 256 {
		a := byte(i)
		if Add(a, 0) != a || Mul(a, 1) != a || Mul(a, 0) != 0 || Add(a, a) != 0 {
			t.Errorf("0 or 1 is not neutral to %x", a)
		}
		if a == 0 {
			continue
		}
		if x, e := Inv(a); Mul(a, x) != 1 || e != api.OK {
			t.Errorf("Inv(%x) = %x, %d is no inverse", a, x, e)
		}
	}
}

// P1.4
func TestExpOfASum(t *testing.T) {
	for m := -300; m <= 300; m++ {
		for n := -300; n <= 300; n++ {
			if Exp(m+n) != Mul(Exp(m), Exp(n)) {
				t.Fatalf("Exp(%d + %d) is not the product", m, n)
			}
		}
	}
}

// P1.4
func TestExpOfLog(t *testing.T) {
	for i := 1; i < 256; i++ {
		a := byte(i)
		n, e := Log(a)
		if e != api.OK || n < 0 || n > 254 || Exp(n) != a {
			t.Errorf("Log(%x) = %d, %d; Exp of it is %x", a, n, e, Exp(n))
		}
	}
}
