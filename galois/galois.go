// Package galois is layer 1: see ../../shared/doc/01-galois.md.
package galois

import (
	"amphora/api"
)

// order is how many powers of 2 there are; the next one is 1 again.
const order = 255

// powers holds 2 to the 0th to 14th: a product of two polynomials of 8 bits
// has no bit above those.
var powers = [15]byte{
	0x01, 0x02, 0x04, 0x08, 0x10, 0x20, 0x40, 0x80,
	0x1d, 0x3a, 0x74, 0xe8, 0xcd, 0x87, 0x13,
}

// strides holds 2 to the 0th, 15th, 30th and on to the 240th: each power of 2
// is one of these times one of powers, so that both together stand for all.
var strides = [17]byte{
	0x01, 0x26, 0x60, 0xc1, 0xb9, 0x0f, 0xdf, 0x1a, 0x3b,
	0xa9, 0x55, 0x91, 0x96, 0x64, 0x59, 0x24, 0x2c,
}

// Add is the sum.
func Add(a, b byte) byte { return a ^ b }

// Mul is the product.
func Mul(a, b byte) byte {
	var wide uint
	for i := range 8 {
		wide ^= (uint(a) << i) * uint(b>>i&1) // a branch on a bit of data would be foreseen wrong half the time
	}
	return remainder(wide)
}

// remainder is a polynomial's, as the sum of those of its bits.
func remainder(wide uint) byte {
	var sum byte
	for i := range powers {
		sum ^= powers[i] * byte(wide>>i&1)
	}
	return sum
}

// Div is the number whose product with b is a.
func Div(a, b byte) (byte, api.Errno) {
	if b == 0 {
		return 0, api.ErrArg
	}
	return Mul(a, Pow(b, order-1)), api.OK // b to the order is 1: the power below it is b's inverse
}

// Inv is the number whose product with a is 1.
func Inv(a byte) (byte, api.Errno) { return Div(1, a) }

// Exp is a power of 2.
func Exp(n int) byte {
	n %= order
	if n < 0 {
		n += order
	}
	return Mul(strides[n/len(powers)], powers[n%len(powers)])
}

// Log is which power of 2 a number is.
func Log(a byte) (int, api.Errno) {
	for n := range order {
		if Exp(n) == a {
			return n, api.OK
		}
	}
	return 0, api.ErrArg // 0 alone is no power
}

// Pow is the product of n times a. It squares, for n may be huge.
func Pow(a byte, n int) byte {
	product := byte(1)
	for ; n > 0; n >>= 1 {
		if n&1 == 1 {
			product = Mul(product, a)
		}
		a = Mul(a, a)
	}
	return product
}
