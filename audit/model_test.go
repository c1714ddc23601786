package audit_test

import (
	"bytes"
	"testing"

	"amphora/api"
	"amphora/plate"
	"amphora/shelf"
	"amphora/stripe"
)

// dice is numbers that look thrown, the same ones at each run.
type dice uint32

func (d *dice) roll(n int) int {
	*d = *d*1664525 + 1013904223
	return int(uint32(*d) >> 8 % uint32(n))
}

// byWords is Sound by the chapter's words.
func byWords(images [][][]byte, b api.Blob, want []byte) bool {
	shards, e := stripe.Cut(b.Code, want)
	if len(want) != b.Size || e != api.OK || len(b.Nodes) != b.Code.K+b.Code.M {
		return false
	}
	count := 0
	for index, n := range b.Nodes {
		if n < 0 || n >= len(images) {
			continue
		}
		p, e := plate.Of(images[n])
		if e != api.OK {
			continue
		}
		s, e := shelf.Open(p)
		if e != api.OK {
			continue
		}
		x, e := s.Fetch(b.ID, index, api.MaxNumber)
		if e != api.OK {
			continue
		}
		if !bytes.Equal(x, shards[index]) {
			return false
		}
		count++
	}
	return count >= b.Code.K
}

// thrown is a disk that has most of the shards that it shall have.
func thrown(t *testing.T, d *dice, n int, b api.Blob, shards [][]byte) [][]byte {
	t.Helper()
	if d.roll(12) == 0 {
		return sectors(d.roll(8), api.Size-d.roll(2))
	}
	p, s := disk(t, 100)
	for index, x := range shards {
		if d.roll(6) == 0 || b.Nodes[index] != n && d.roll(3) > 0 {
			continue
		}
		x = bytes.Clone(x)
		if d.roll(30) == 0 {
			x[d.roll(len(x))] ^= 1 << d.roll(8)
		}
		if d.roll(40) == 0 {
			x = append(x, 0)
		}
		is(t, "store", s.Store(b.ID, index, 0, x), api.OK)
		if d.roll(20) == 0 {
			is(t, "drop", s.Drop(b.ID, index), api.OK)
		}
	}
	return synced(t, p, s)
}

// P23.2, over many disks.
func TestModel(t *testing.T) {
	told := map[bool]int{}
	for seed := range 3000 {
		d := dice(seed)
		b := api.Blob{ID: 1 + d.roll(3), Size: d.roll(60), Code: api.Code{K: 1 + d.roll(3), M: d.roll(3)}}
		nodes := 1 + d.roll(6)
		for range b.Code.K + b.Code.M {
			b.Nodes = append(b.Nodes, d.roll(nodes))
		}
		blob := make([]byte, b.Size)
		for i := range blob {
			blob[i] = byte(d.roll(256))
		}
		shards := cut(t, b.Code, blob)
		var images [][][]byte
		for n := range nodes {
			images = append(images, thrown(t, &d, n, b, shards))
		}
		switch d.roll(25) {
		case 0:
			b.ID++
		case 1:
			b.Nodes[0] = -1
		case 2:
			b.Nodes[len(b.Nodes)-1] = nodes
		case 3:
			b.Nodes = append(b.Nodes, 0)
		case 4:
			blob = append(blob, 0)
		case 5:
			b.Code.M++
		case 6:
			b.Code.K, b.Code.M = b.Code.K-1, b.Code.M+1
		case 7:
			images = images[:nodes-1]
		}
		want := byWords(images, b, blob)
		sound(t, "thrown", images, b, blob, want)
		told[want]++
	}
	if told[true] < 500 || told[false] < 500 {
		t.Fatalf("told %v: too few to tell", told)
	}
}
