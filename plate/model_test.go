package plate_test

import (
	"maps"
	"slices"
	"testing"

	"amphora/api"
	"amphora/plate"
)

// model is a plate by its definition: two images, and which sectors differ
// because they were written.
type model struct {
	now, durable [][]byte
	dirty        map[int]bool
}

func newModel(image [][]byte) *model {
	return &model{slices.Clone(image), slices.Clone(image), map[int]bool{}}
}

func (m *model) copy() *model {
	return &model{slices.Clone(m.now), slices.Clone(m.durable), maps.Clone(m.dirty)}
}

func (m *model) write(i int, b []byte) {
	m.now[i] = slices.Clone(b)
	m.dirty[i] = true
}

func (m *model) sync() { *m = *newModel(m.now) }

func (m *model) crash(keep []int, at, n int) {
	after := slices.Clone(m.durable)
	for i := range after {
		switch {
		case m.dirty[i] && slices.Contains(keep, i):
			after[i] = m.now[i]
		case m.dirty[i] && i == at:
			after[i] = torn(m.now[i], m.durable[i], min(max(n, 0), size))
		}
	}
	*m = *newModel(after)
}

// dice is numbers that hang on the seed alone.
type dice uint32

func (d *dice) below(n int) int {
	*d = *d*1664525 + 1013904223
	return int(*d>>8) % n
}

// places is some numbers, most of them sectors.
func (d *dice) places(sectors int) []int {
	var l []int
	for range d.below(2 * sectors) {
		l = append(l, d.below(sectors+3)-1)
	}
	return l
}

// step turns a plate and its model alike; sometimes it goes on with a copy.
func step(t *testing.T, d *dice, p *plate.Plate, m *model) (*plate.Plate, *model) {
	t.Helper()
	sectors := len(m.now)
	switch d.below(12) {
	case 0:
		ok(t, "Sync", p.Sync())
		m.sync()
	case 1, 2:
		keep, at, n := d.places(sectors), d.below(sectors+2)-1, d.below(size+10)-5
		ok(t, "Crash", p.Crash(keep, at, n))
		m.crash(keep, at, n)
	case 3:
		old, was := p, m.copy()
		p, m = p.Copy(), m.copy()
		ok(t, "Sync", old.Sync())
		was.sync()
		looks(t, "the one that is left", old, was.now, was.durable, nil)
	case 4:
		is(t, "Write beside", p.Write(sectors, scattered(1)), api.ErrArg)
	default:
		i, b := d.below(sectors), scattered(uint32(*d))
		write(t, p, i, b)
		m.write(i, b)
	}
	return p, m
}

// P6.2, P6.3, P6.4, P6.6: scripts of all calls.
func TestScripts(t *testing.T) {
	for seed := range 60 {
		d := dice(seed)
		image := printed(1 + seed%12)
		p, m := of(t, image), newModel(image)
		for range 150 {
			p, m = step(t, &d, p, m)
			looks(t, "a script", p, m.now, m.durable, slices.Sorted(maps.Keys(m.dirty)))
		}
	}
}
