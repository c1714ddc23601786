package shelf

import (
	"maps"
	"slices"
)

// stock is what records come to: the one of each thing that counts.
type stock struct {
	has     map[thing]record
	sectors int // how many all of them have in the log
}

// take has a record come behind all others.
func (s *stock) take(r record) {
	s.sectors = s.behind(r)
	if r.stays() {
		s.has[r.subject()] = r
	} else {
		delete(s.has, r.subject())
	}
}

// behind is how many sectors all records have behind one.
func (s *stock) behind(r record) int {
	n := s.sectors
	if old, ok := s.has[r.subject()]; ok {
		n -= old.sectors()
	}
	if r.stays() {
		n += r.sectors()
	}
	return n
}

// all is the shards, the fences, the notes, each by their numbers: the order
// of the kinds.
func (s *stock) all() []record {
	l := slices.Collect(maps.Values(s.has))
	slices.SortFunc(l, func(a, b record) int { return a.compare(b.thing) })
	return l
}

// written is all records' bytes.
func (s *stock) written() [][]byte {
	var l [][]byte
	for _, r := range s.all() {
		l = append(l, r.written())
	}
	return l
}
