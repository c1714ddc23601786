package wal_test

import (
	"bytes"
	"slices"
	"testing"

	"amphora/api"
	"amphora/plate"
	"amphora/wal"
)

// op is a write of a sector; without bytes it is a sync.
type op struct {
	sector int
	bytes  []byte
}

// model is a wal by the chapter's words: what its plate's sectors are, and the
// writes and syncs of its last call.
type model struct {
	disk [][]byte
	head head
	recs [][]byte
	ops  []op
}

func (m *model) size() int { return len(m.disk) - 2 }

func (m *model) sector(place int) int { return 2 + place%m.size() }

func (m *model) used() int {
	n := 0
	for _, rec := range m.recs {
		n += needs(rec)
	}
	return n
}

func needs(rec []byte) int { return (len(rec) + 39) / 40 }

func (m *model) room() int { return m.size() - m.used() }

func (m *model) last() int { return m.head.first - 1 + len(m.recs) }

func (m *model) write(sector int, b []byte) {
	m.disk[sector] = b
	m.ops = append(m.ops, op{sector, b})
}

func (m *model) sync() { m.ops = append(m.ops, op{}) }

func (m *model) writeHead(h head) {
	m.write(h.number%2, noughts())
	m.sync()
	m.write(h.number%2, h.sector())
	m.sync()
	m.head = h
}

func (m *model) clean() {
	end := m.head.place + m.used()
	for i := range m.room() {
		if s := m.sector(end + i); !bytes.Equal(m.disk[s], noughts()) {
			m.write(s, noughts())
		}
	}
	m.sync()
}

// reads has the model be what sectors tell; false, if no head is right.
func (m *model) reads() bool {
	m.head, m.recs = head{}, nil
	for i := range 2 {
		if h, ok := headOf(m.disk[i], i, m.size()); ok && h.number > m.head.number {
			m.head = h
		}
	}
	if m.head.number == 0 {
		return false
	}
	for {
		rec := m.next()
		if rec == nil {
			return true
		}
		m.recs = append(m.recs, rec)
	}
}

// headOf is the head whose numbers stand in a sector, and whether it is right.
func headOf(b []byte, sector, size int) (head, bool) {
	n := func(i int) int {
		n := 0
		for _, x := range b[1+8*i : 9+8*i] {
			n = n<<8 | int(x)
		}
		return n
	}
	h := head{n(0), n(1), n(2), n(3)}
	fits := h.number >= 1 && h.number <= most && h.number%2 == sector && h.life >= 1 && h.life <= most &&
		h.place >= 0 && h.place < size && h.first >= 1 && h.first <= most
	return h, fits && bytes.Equal(b, h.sector())
}

// next is the record behind those that were read: whatever bytes its sectors
// seem to have, cut to each number of sectors, it is it if they are its own.
func (m *model) next() []byte {
	var rec []byte
	at := m.head.place + m.used()
	for k := 1; k <= min(50, m.room()); k++ {
		b := m.disk[m.sector(at+k-1)]
		rec = append(rec, b[12:12+min(int(b[9]), 40)]...)
		if len(rec) == 0 || needs(rec) != k {
			return nil
		}
		all := true
		for i, want := range sectorsOf(m.last()+1, rec) {
			all = all && bytes.Equal(m.disk[m.sector(at+i)], want)
		}
		if all {
			return rec
		}
	}
	return nil
}

// open is Open of a plate with these sectors, as they are read.
func open(sectors [][]byte) (*model, api.Errno) {
	m := &model{disk: slices.Clone(sectors)}
	if !m.reads() {
		if !same(m.disk, bare(len(m.disk))) {
			return nil, api.ErrLog
		}
		m.head = head{first: 1}
		m.writeHead(head{1, 1, 0, 1})
		return m, api.OK
	}
	if m.head.number >= most || m.head.life >= most || m.head.first+m.size() >= most {
		return nil, api.ErrFull
	}
	m.clean()
	m.writeHead(head{m.head.number + 1, m.head.life + 1, m.head.place, m.head.first})
	return m, api.OK
}

func (m *model) append(rec []byte) (int, api.Errno) {
	m.ops = nil
	if len(rec) < 1 || len(rec) > 2000 {
		return 0, api.ErrArg
	}
	if needs(rec) > m.room() || m.last() == most {
		return 0, api.ErrFull
	}
	at := m.head.place + m.used()
	for i, b := range sectorsOf(m.last()+1, rec) {
		m.write(m.sector(at+i), b)
	}
	m.recs = append(m.recs, rec)
	return m.last(), api.OK
}

func (m *model) checkpoint(recs [][]byte) api.Errno {
	m.ops = nil
	need := 0
	for _, rec := range recs {
		if len(rec) < 1 || len(rec) > 2000 {
			return api.ErrArg
		}
		need += needs(rec)
	}
	if need > m.room() || m.head.number >= most || m.last()+len(recs) >= most {
		return api.ErrFull
	}
	h := head{m.head.number + 1, m.head.life, (m.head.place + m.used()) % m.size(), m.last() + 1}
	var ops []op
	for _, rec := range recs {
		m.append(rec)
		ops = append(ops, m.ops...)
	}
	m.ops = ops
	m.sync()
	m.writeHead(h)
	m.recs = slices.Clone(recs)
	m.clean()
	return api.OK
}

// carry does writes and syncs on a plate.
func carry(t *testing.T, p *plate.Plate, ops []op) {
	t.Helper()
	for _, o := range ops {
		if o.bytes == nil {
			is(t, "Sync", p.Sync(), api.OK)
		} else {
			is(t, "Write", p.Write(o.sector, o.bytes), api.OK)
		}
	}
}

// sectors is what is read of a plate.
func sectors(p *plate.Plate) [][]byte {
	l := make([][]byte, p.Sectors())
	for i := range l {
		l[i], _ = p.Read(i)
	}
	return l
}

// pair is a wal on its plate, and a model beside it, whose writes and syncs go
// to a plate of their own.
type pair struct {
	t          *testing.T
	wal        *wal.Wal
	model      *model
	mine, ours *plate.Plate // the wal's, the model's
}

// newPair opens both on plates with an image.
func newPair(t *testing.T, image [][]byte) *pair {
	t.Helper()
	a := &pair{t: t, mine: plateOf(t, image), ours: plateOf(t, image)}
	a.open()
	return a
}

// open opens both, and tells whether they are.
func (a *pair) open() bool {
	a.t.Helper()
	m, want := open(sectors(a.ours))
	w, recs, e := wal.Open(a.mine)
	is(a.t, "Open", e, want)
	if want != api.OK {
		a.equal("Open that is refused")
		return false
	}
	if !same(recs, m.recs) {
		a.t.Fatalf("Open tells records of %v bytes, want %v", lengths(recs), lengths(m.recs))
	}
	a.wal, a.model = w, m
	a.after("Open")
	return true
}

func (a *pair) append(rec []byte) {
	a.t.Helper()
	n, want := a.model.append(rec)
	got, e := a.wal.Append(rec)
	is(a.t, "Append", e, want)
	if got != n {
		a.t.Fatalf("Append: number %d, want %d", got, n)
	}
	a.after("Append")
}

func (a *pair) sync() {
	a.t.Helper()
	a.model.ops = []op{{}}
	is(a.t, "Sync", a.wal.Sync(), api.OK)
	a.after("Sync")
}

func (a *pair) checkpoint(recs ...[]byte) {
	a.t.Helper()
	want := a.model.checkpoint(recs)
	is(a.t, "Checkpoint", a.wal.Checkpoint(recs), want)
	a.after("Checkpoint")
}

// crash has both plates crash alike.
func (a *pair) crash(keep []int, torn, n int) {
	a.t.Helper()
	is(a.t, "Crash", a.mine.Crash(keep, torn, n), api.OK)
	is(a.t, "Crash", a.ours.Crash(keep, torn, n), api.OK)
}

// after holds all that can be told against the model.
func (a *pair) after(name string) {
	a.t.Helper()
	carry(a.t, a.ours, a.model.ops)
	a.equal(name)
	counts(a.t, name, a.wal, a.model.head.life, a.model.last(), a.model.room())
}

// equal holds the plates against each other: what is durable, what is dirty,
// and what is read.
func (a *pair) equal(name string) {
	a.t.Helper()
	if !slices.Equal(a.mine.Dirty(), a.ours.Dirty()) {
		a.t.Fatalf("%s: dirty %v, want %v", name, a.mine.Dirty(), a.ours.Dirty())
	}
	image, read := a.mine.Image(), sectors(a.mine)
	for i, want := range a.ours.Image() {
		if !bytes.Equal(image[i], want) {
			a.t.Fatalf("%s: durable sector %d is\n%x, want\n%x", name, i, image[i], want)
		}
	}
	for i, want := range sectors(a.ours) {
		if !bytes.Equal(read[i], want) {
			a.t.Fatalf("%s: sector %d is\n%x, want\n%x", name, i, read[i], want)
		}
	}
}
