package frame_test

import (
	"bytes"
	"encoding/binary"
	"hash/crc32"
	"testing"

	"amphora/api"
	"amphora/frame"
)

// scattered is bytes that hang on the seed alone.
func scattered(length int, seed uint32) []byte {
	b := make([]byte, length)
	for i := range b {
		seed = seed*1664525 + 1013904223
		b[i] = byte(seed >> 24)
	}
	return b
}

// joined is texts one behind the other, in memory of its own.
func joined(texts ...[]byte) []byte { return bytes.Join(texts, nil) }

// turned is a copy of bytes with one of them turned.
func turned(b []byte, at int, by byte) []byte {
	b = bytes.Clone(b)
	b[at] ^= by
	return b
}

// bitByBit is the sum, told without a table and without the library.
func bitByBit(b []byte) uint32 {
	sum := uint32(0xffffffff)
	for _, x := range b {
		sum ^= uint32(x)
		for range 8 {
			low := sum & 1
			sum >>= 1
			if low == 1 {
				sum ^= 0x82f63b78
			}
		}
	}
	return sum ^ 0xffffffff
}

// withSum is bytes and their sum behind them.
func withSum(b []byte) []byte { return binary.BigEndian.AppendUint32(bytes.Clone(b), bitByBit(b)) }

// framed is a frame by its definition, of any length's low two bytes.
func framed(b []byte) []byte {
	return withSum(joined([]byte{0xa3, byte(len(b) >> 8), byte(len(b))}, b))
}

// wrapped is a frame, where there may be no error.
func wrapped(t *testing.T, b []byte) []byte {
	t.Helper()
	f, e := frame.Wrap(b)
	if e != api.OK {
		t.Fatalf("Wrap of %d bytes: error %d", len(b), e)
	}
	return f
}

// unwraps has Unwrap answer the bytes, and what stands behind.
func unwraps(t *testing.T, f, want, behind []byte) {
	t.Helper()
	got, rest, e := frame.Unwrap(f)
	if e != api.OK || !bytes.Equal(got, want) || !bytes.Equal(rest, behind) {
		t.Fatalf("%d bytes with %d behind, error %d, want %d with %d", len(got), len(rest), e, len(want), len(behind))
	}
}

// refuses has Unwrap answer nothing, and the error.
func refuses(t *testing.T, name string, f []byte, want api.Errno) {
	t.Helper()
	if got, rest, e := frame.Unwrap(f); e != want || len(got) != 0 || len(rest) != 0 {
		t.Errorf("%s: %d bytes with %d behind, error %d, want none and %d", name, len(got), len(rest), e, want)
	}
}

// P5.1
func TestSumOfKnownTexts(t *testing.T) {
	rising := make([]byte, 32)
	for i := range rising {
		rising[i] = byte(i)
	}
	for _, x := range []struct {
		b    []byte
		want uint32
	}{
		{nil, 0}, {[]byte{}, 0}, {[]byte("123456789"), 0xe3069283}, {[]byte("a"), 0xc1d04330},
		{make([]byte, 32), 0x8a9136aa}, {bytes.Repeat([]byte{0xff}, 32), 0x62a8ab43}, {rising, 0x46dd794e},
	} {
		if got := frame.Sum(x.b); got != x.want {
			t.Errorf("Sum(%x) = %08x, want %08x", x.b, got, x.want)
		}
	}
}

// P5.1
func TestSumIsCastagnolis(t *testing.T) {
	table := crc32.MakeTable(crc32.Castagnoli)
	for i := range 256 {
		b := []byte{byte(i)}
		if got := frame.Sum(b); got != bitByBit(b) || got != crc32.Checksum(b, table) {
			t.Errorf("Sum(%x) = %08x, want %08x", b, got, bitByBit(b))
		}
	}
	for length := range 300 {
		b := scattered(length, uint32(length))
		if got := frame.Sum(b); got != bitByBit(b) || got != crc32.Checksum(b, table) {
			t.Errorf("%d bytes: %08x, want %08x", length, got, bitByBit(b))
		}
	}
	if b := scattered(1<<20, 1); frame.Sum(b) != crc32.Checksum(b, table) {
		t.Error("another sum of many bytes")
	}
}

// P5.1, the chapter's example
func TestWrapExample(t *testing.T) {
	f := wrapped(t, []byte("a"))
	if !bytes.Equal(f, withSum([]byte{0xa3, 0x00, 0x01, 0x61})) {
		t.Errorf("%x", f)
	}
}

// lengths is the edges of what a frame holds, and of its length's two bytes.
func lengths() []int {
	return []int{1, 2, 3, 4, 5, 63, 254, 255, 256, 257, 511, 512, 4096, 65534, 65535}
}

// P5.1
func TestWrap(t *testing.T) {
	for _, length := range lengths() {
		b := scattered(length, uint32(length))
		if f := wrapped(t, b); !bytes.Equal(f, framed(b)) {
			t.Errorf("another frame of %d bytes", length)
		}
	}
	if f := wrapped(t, []byte{0}); !bytes.Equal(f, framed([]byte{0})) {
		t.Errorf("of a nought: %x", f)
	}
}

// P5.1
func TestWrapRefuses(t *testing.T) {
	for name, b := range map[string][]byte{
		"nil": nil, "empty": {}, "one too many": make([]byte, 65536), "two too many": make([]byte, 65537), "far too many": make([]byte, 1<<24),
	} {
		if f, e := frame.Wrap(b); e != api.ErrArg || len(f) != 0 {
			t.Errorf("%s: %d bytes, error %d", name, len(f), e)
		}
	}
}

// P5.1, P5.3
func TestUnwrapOfWrap(t *testing.T) {
	for _, length := range lengths() {
		b := scattered(length, uint32(length))
		f := wrapped(t, b)
		for _, behind := range [][]byte{nil, {0}, {0xa3}, {0xa3, 0, 0}, {1, 2, 3}, f, scattered(70000, 9)} {
			unwraps(t, joined(f, behind), b, behind)
		}
	}
}

// P5.3: frames that stand one behind the other are told one by one.
func TestFramesInARow(t *testing.T) {
	var row []byte
	for i := range 50 {
		row = append(row, wrapped(t, scattered(i+1, uint32(i)))...)
	}
	for i := range 50 {
		b, rest, e := frame.Unwrap(row)
		if e != api.OK || !bytes.Equal(b, scattered(i+1, uint32(i))) {
			t.Fatalf("frame %d: %x, error %d", i, b, e)
		}
		row = rest
	}
	refuses(t, "behind the last", row, api.ErrShort)
}

// P5.1: each beginning of a frame is too short, whatever sum it ends with.
func TestUnwrapOfBeginnings(t *testing.T) {
	for _, length := range []int{1, 2, 5, 255, 256, 300} {
		f := wrapped(t, scattered(length, 3))
		for end := range f {
			refuses(t, "a beginning", f[:end], api.ErrShort)
			if end > 3 {
				refuses(t, "a beginning, turned", turned(f[:end], 3, 1), api.ErrShort)
			}
		}
	}
	f := wrapped(t, scattered(65535, 3))
	for _, end := range []int{1, 2, 3, 4, 7, 65535, 65537, 65538, 65539, 65541} {
		refuses(t, "a long one's beginning", f[:end], api.ErrShort)
	}
	unwraps(t, f[:65542], scattered(65535, 3), nil)
	refuses(t, "nil", nil, api.ErrShort)
	refuses(t, "empty", []byte{}, api.ErrShort)
}

// P5.1: another first byte is told ahead of all that is short.
func TestUnwrapOfAnotherFirstByte(t *testing.T) {
	f := wrapped(t, []byte("abc"))
	for x := range 256 {
		if x == 0xa3 {
			continue
		}
		for end := 1; end <= len(f); end++ {
			other := bytes.Clone(f[:end])
			other[0] = byte(x)
			refuses(t, "another first byte", other, api.ErrForm)
		}
		// Even with the sum that fits.
		refuses(t, "another first byte", withSum([]byte{byte(x), 0, 1, 'a'}), api.ErrForm)
	}
}

// P5.1: a length of 0 is told ahead of a sum that is short, or another.
func TestUnwrapOfNoLength(t *testing.T) {
	refuses(t, "the length alone", []byte{0xa3, 0, 0}, api.ErrForm)
	refuses(t, "no sum", []byte{0xa3, 0, 0, 1}, api.ErrForm)
	refuses(t, "another sum", []byte{0xa3, 0, 0, 1, 2, 3, 4}, api.ErrForm)
	refuses(t, "the sum", framed(nil), api.ErrForm)
	refuses(t, "the sum, and more", append(framed(nil), 1, 2, 3), api.ErrForm)
	refuses(t, "a frame's bytes", framed(make([]byte, 65536)), api.ErrForm)
}

// P5.1: the highest byte of the length is its first.
func TestUnwrapLength(t *testing.T) {
	unwraps(t, framed(make([]byte, 256)), make([]byte, 256), nil)
	refuses(t, "256 bytes of 259", withSum(joined([]byte{0xa3, 1, 3}, make([]byte, 256-4))), api.ErrShort)
	refuses(t, "the length turned round", withSum(append([]byte{0xa3, 1, 0}, 'a')), api.ErrShort)
}

// P5.1
func TestUnwrapOfAnotherSum(t *testing.T) {
	b := scattered(20, 3)
	f := wrapped(t, b)
	for at := 3; at < len(f); at++ {
		for by := 1; by < 256; by++ {
			refuses(t, "a byte turned", turned(f, at, byte(by)), api.ErrSum)
			refuses(t, "a byte turned, and more", append(turned(f, at, byte(by)), 7), api.ErrSum)
		}
	}
	behind := 3 + len(b)
	backwards := joined(f[:behind], []byte{f[behind+3], f[behind+2], f[behind+1], f[behind]})
	refuses(t, "the sum's lowest byte first", backwards, api.ErrSum)
	ofBytes := binary.BigEndian.AppendUint32(bytes.Clone(f[:behind]), bitByBit(b))
	refuses(t, "the sum of what it holds alone", ofBytes, api.ErrSum)
	refuses(t, "noughts for a sum", joined(f[:behind], make([]byte, 4)), api.ErrSum)
	shorter := turned(f, 2, 20^19)
	refuses(t, "a length of one less", shorter, api.ErrSum)
}

// P5.5
func TestBursts(t *testing.T) {
	for _, length := range []int{1, 2, 3, 4, 5, 8, 61, 300} {
		f := wrapped(t, scattered(length, uint32(length)))
		for at := 3; at < 3+length; at++ {
			for seed := range uint32(40) {
				burst(t, f, at, min(4, 3+length-at), seed)
			}
		}
	}
	f := wrapped(t, scattered(65535, 1))
	for _, at := range []int{3, 4, 1000, 32768, 65533, 65534} {
		for seed := range uint32(4) {
			burst(t, f, at, 4, seed)
		}
	}
}

// burst has a frame with up to four neighbouring bytes turned tell ErrSum.
func burst(t *testing.T, f []byte, at, wide int, seed uint32) {
	t.Helper()
	other := bytes.Clone(f)
	by := scattered(wide, seed)
	switch seed {
	case 0:
		by = bytes.Repeat([]byte{0xff}, wide)
	case 1:
		by = append(make([]byte, wide-1), 1)
	case 2:
		by[0], by[wide-1] = 0x80, 1
	case 3:
		by = append([]byte{1}, make([]byte, wide-1)...)
	}
	for i, x := range by {
		other[at+i] ^= x
	}
	if !bytes.Equal(other, f) {
		refuses(t, "a burst", other, api.ErrSum)
		refuses(t, "a burst, and more", joined(other, f), api.ErrSum)
	}
}

// P5.5: each turn of two neighbouring bytes.
func TestAllTurnsOfTwoBytes(t *testing.T) {
	f := wrapped(t, []byte{7, 200, 31})
	for by := 1; by < 1<<16; by++ {
		for _, at := range []int{3, 4} {
			refuses(t, "two bytes turned", turned(turned(f, at, byte(by>>8)), at+1, byte(by)), api.ErrSum)
		}
	}
}
