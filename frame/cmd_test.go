package frame_test

import (
	"bytes"
	"math"
	"slices"
	"strings"
	"testing"

	"amphora/api"
	"amphora/frame"
)

// P5.2, the chapter's example among them: the number 300 is 02 01 2c.
func TestCmdByHand(t *testing.T) {
	for _, x := range []struct {
		c    api.Cmd
		want string
	}{
		{api.Cmd{}, "\x00\x00\x00\x00\x00\x00\x00\x00\x00\x00\x00\x00"},
		{api.Cmd{ID: 300}, "\x02\x01\x2c\x00\x00\x00\x00\x00\x00\x00\x00\x00\x00\x00"},
		{
			api.Cmd{ID: 1, Kind: 2, Blob: 3, Other: 4, Index: 5, Node: 6, Size: 7, Sum: 8, Code: api.Code{K: 9, M: 10}, Key: "ab", Nodes: []int{0, 11}},
			"\x01\x01\x01\x02\x01\x03\x01\x04\x01\x05\x01\x06\x01\x07\x01\x08\x01\x09\x01\x0a\x01\x02ab\x01\x02\x00\x01\x0b",
		},
		{
			api.Cmd{ID: api.MaxNumber, Kind: 12, Sum: math.MaxUint32},
			"\x08\x10\x00\x00\x00\x00\x00\x00\x00\x01\x0c\x00\x00\x00\x00\x00\x04\xff\xff\xff\xff\x00\x00\x00\x00",
		},
	} {
		if b, e := frame.Cmd(x.c); e != api.OK || string(b) != x.want {
			t.Errorf("%s: %x, error %d, want %x", told(x.c), b, e, x.want)
		}
		if c, e := frame.ReadCmd([]byte(x.want)); e != api.OK || !sameCmd(c, x.c) {
			t.Errorf("%x: %s, error %d, want %s", x.want, told(c), e, told(x.c))
		}
	}
}

// P5.2, P5.3
func TestCmdThereAndBack(t *testing.T) {
	cmdGoes(t, "nothing", api.Cmd{})
	cmdGoes(t, "something", someCmd())
	cmdGoes(t, "the greatest", greatestCmd())
	for kind := api.CmdNop; kind <= api.CmdWidth; kind++ {
		c := someCmd()
		c.Kind = kind
		cmdGoes(t, "a kind", c)
	}
	for _, sum := range []uint32{0, 1, 255, 256, 1 << 16, 1<<24 - 1, 1 << 24, 1 << 31, math.MaxUint32} {
		c := someCmd()
		c.Sum = sum
		cmdGoes(t, "Sum", c)
	}
	for length := range 9 {
		c := someCmd()
		c.Key = strings.Repeat("k", length)
		cmdGoes(t, "a key", c)
		c.Key = strings.Repeat("\x00", length)
		cmdGoes(t, "a key of noughts", c)
	}
	for length := range 256 {
		c := someCmd()
		c.Nodes = nil
		for i := range length {
			c.Nodes = append(c.Nodes, i%16)
		}
		cmdGoes(t, "nodes", c)
	}
	c := someCmd()
	c.Key, c.Nodes = "\xff\xfe \n", []int{}
	cmdGoes(t, "a key of any bytes", c)
}

// P5.2, P5.3
func TestCmdAtTheEdgesOfItsNumbers(t *testing.T) {
	for _, f := range cmdFields() {
		for _, n := range inside(f.least, f.most) {
			c := someCmd()
			*f.at(&c) = n
			cmdGoes(t, f.name, c)
		}
	}
}

// P5.2
func TestCmdThatMayNotBe(t *testing.T) {
	for _, f := range cmdFields() {
		for _, n := range outside(f.least, f.most) {
			c := someCmd()
			*f.at(&c) = n
			noCmd(t, f.name, c, n >= 0)
		}
	}
	for _, length := range []int{9, 10, 255, 256, 70000} {
		c := someCmd()
		c.Key = strings.Repeat("k", length)
		noCmd(t, "a long key", c, true)
	}
	for _, length := range []int{256, 257, 65535, 65536, 1 << 20} {
		c := someCmd()
		c.Nodes = make([]int, length)
		noCmd(t, "many nodes", c, true)
	}
	noCmd(t, "all wrong", api.Cmd{ID: -1, Kind: -1, Key: "too long a key", Blob: -1, Other: -1, Index: -1, Node: -1, Size: -1, Code: api.Code{K: -1, M: -1}, Nodes: []int{-1}}, false)
}

// P5.2
func TestReadCmdOfBeginningsAndMore(t *testing.T) {
	noCmdBytes(t, "nil", nil)
	noCmdBytes(t, "empty", []byte{})
	for _, c := range []api.Cmd{{}, someCmd(), greatestCmd()} {
		b := flat(cmdParts(c))
		for end := range b {
			noCmdBytes(t, "a beginning", b[:end])
		}
		for _, behind := range [][]byte{{0}, {1}, {0xff}, {0, 0}, b} {
			noCmdBytes(t, "bytes behind", joined(b, behind))
		}
		noCmdBytes(t, "bytes ahead", joined([]byte{0}, b))
	}
}

// otherForms is a number written otherwise than in the one form, and numbers
// that are too great.
func otherForms(b []byte) [][]byte {
	var n uint64
	for _, x := range b[1:] {
		n = n<<8 | uint64(x)
	}
	var l [][]byte
	for width := len(b); width <= 12; width++ {
		l = append(l, wide(n, width))
	}
	return append(l, wide(n, 16), wide(n, 255),
		narrow(1<<60+1), narrow(1<<61), narrow(1<<62), narrow(math.MaxInt64), narrow(1<<63), narrow(math.MaxUint64),
		wide(math.MaxUint64, 9), joined([]byte{9, 1}, digits(n, 8)), joined([]byte{9, 1}, make([]byte, 8)), joined([]byte{16, 1}, digits(n, 15)))
}

// P5.2, P5.4
func TestReadCmdOfOtherForms(t *testing.T) {
	for _, c := range []api.Cmd{{}, someCmd(), greatestCmd()} {
		parts := cmdParts(c)
		for i, p := range parts {
			if !p.number {
				continue
			}
			for _, other := range otherForms(p.bytes) {
				noCmdBytes(t, p.name, with(parts, i, other))
			}
		}
	}
}

// P5.2: a sum has 32 bits.
func TestReadCmdOfAGreatSum(t *testing.T) {
	parts := cmdParts(someCmd())
	at := slices.IndexFunc(parts, func(p part) bool { return p.name == "Sum" })
	for _, n := range []uint64{1 << 32, 1<<32 + 1, 1<<32 + 7, 1 << 33, 1 << 40, 1 << 60} {
		noCmdBytes(t, "Sum", with(parts, at, narrow(n)))
	}
	if c, e := frame.ReadCmd(with(parts, at, narrow(1<<32-1))); e != api.OK || c.Sum != math.MaxUint32 {
		t.Errorf("Sum %x, error %d", c.Sum, e)
	}
}

// P5.2: lengths that tell of another number than there is.
func TestReadCmdOfWrongLengths(t *testing.T) {
	parts := cmdParts(someCmd())
	for i, p := range parts {
		if !strings.HasSuffix(p.name, "length") {
			continue
		}
		for _, n := range []uint64{0, 1, 2, 3, 4, 5, 8, 9, 255, 256, 1 << 31, 1 << 32, 1 << 59, 1 << 60} {
			if other := narrow(n); !bytes.Equal(other, p.bytes) {
				noCmdBytes(t, p.name, with(parts, i, other))
			}
		}
	}
}

// variants is bytes that are nearly the given ones: each byte turned, taken
// out, or put in.
func variants(b []byte, tell func(other []byte)) {
	for at := range b {
		for by := 1; by < 256; by++ {
			tell(turned(b, at, byte(by)))
		}
		tell(slices.Delete(slices.Clone(b), at, at+1))
		for _, x := range []byte{0, 1, 2, 9, 0xff} {
			tell(slices.Insert(slices.Clone(b), at, x))
		}
	}
}

// P5.4
func TestCmdHasOneForm(t *testing.T) {
	read, refused := 0, 0
	for _, c := range []api.Cmd{{}, someCmd(), {Kind: 12, Code: api.Code{K: 255, M: 255}, Key: "\x01\x00", Nodes: []int{1, 0, 2}}} {
		b := flat(cmdParts(c))
		variants(b, func(other []byte) {
			d, e := frame.ReadCmd(other)
			if e == api.ErrForm && sameCmd(d, api.Cmd{}) {
				refused++
				return
			}
			read++
			if again, f := frame.Cmd(d); e != api.OK || f != api.OK || !bytes.Equal(again, other) {
				t.Errorf("%x is read (error %d), and is then %x (error %d)", other, e, again, f)
			}
			if !bytes.Equal(b, other) && sameCmd(c, d) {
				t.Errorf("%x is %x as well", other, b)
			}
		})
	}
	if read == 0 || refused == 0 {
		t.Errorf("%d read, %d refused", read, refused)
	}
}

// P5.4: all texts of few kinds of bytes that are commands.
func TestCmdOfSmallBytes(t *testing.T) {
	read := 0
	for n := range 1 << 14 {
		b := make([]byte, 14)
		for i := range b {
			b[i] = byte(n >> i & 1)
		}
		for end := 11; end <= len(b); end++ {
			c, e := frame.ReadCmd(b[:end])
			if e != api.OK {
				continue
			}
			read++
			if again, f := frame.Cmd(c); f != api.OK || !bytes.Equal(again, b[:end]) {
				t.Fatalf("%x is %x again, error %d", b[:end], again, f)
			}
		}
	}
	if read == 0 {
		t.Error("none is read")
	}
}
