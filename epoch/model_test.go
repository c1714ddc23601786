package epoch_test

import (
	"fmt"
	"slices"
	"testing"

	"amphora/api"
	"amphora/epoch"
	"amphora/place"
	"amphora/reed"
)

// dice is numbers that hang on the seed alone.
type dice uint32

func (d *dice) below(n int) int {
	*d = *d*1664525 + 1013904223
	return int(*d>>8) % n
}

// entry is a key, with its blob or gone, and all nodes that the blob had.
type entry struct {
	key  string
	gone bool
	blob api.Blob
	had  []int
}

// ballot is voters, and from when on they count.
type ballot struct {
	from  int
	nodes []int
}

// model is a state by the chapter's words: lists that are gone through, and
// moves that come by themselves behind each command.
type model struct {
	nodes, epoch, slot int
	members, failed    []int
	voters             []ballot
	code               api.Code
	entries            []entry // in the order of their keys
	moves              []api.Move
	recodes            []api.Recode
	ids                []int
}

func newModel(s api.Setup) *model {
	return &model{
		nodes: s.Nodes, epoch: 1, slot: 1, members: everyone(s.Nodes),
		voters: []ballot{{1, everyone(s.Voters)}}, code: s.Code,
	}
}

func (m *model) key(key string) *entry {
	for i := range m.entries {
		if m.entries[i].key == key {
			return &m.entries[i]
		}
	}
	return nil
}

func (m *model) there(key string) *entry {
	if e := m.key(key); e != nil && !e.gone {
		return e
	}
	return nil
}

func (m *model) blob(id int) *entry {
	for i := range m.entries {
		if e := &m.entries[i]; !e.gone && e.blob.ID == id {
			return e
		}
	}
	return nil
}

func (m *model) fit(c api.Code, nodes []int) bool {
	if !reed.Can(c) || len(nodes) != c.K+c.M {
		return false
	}
	for i, n := range nodes {
		if !slices.Contains(m.members, n) || slices.Contains(nodes[:i], n) {
			return false
		}
	}
	return true
}

func (m *model) isMoved(blob, index int) bool {
	return slices.ContainsFunc(m.moves, func(x api.Move) bool { return x.Blob == blob && (x.Index == index || index < 0) })
}

func (m *model) isRecoded(blob int) bool {
	return slices.ContainsFunc(m.recodes, func(x api.Recode) bool { return x.Blob == blob })
}

func (m *model) apply(c api.Cmd) api.Out {
	m.slot++
	if c.ID > 0 && slices.Contains(m.ids, c.ID) {
		return api.Out{Kind: api.OutTwice}
	}
	m.ids = append(m.ids, c.ID)
	o := api.Out{Kind: api.OutRefused}
	switch {
	case c.Kind <= api.CmdDelete:
		o = m.onKeys(c)
	case c.Kind <= api.CmdRecast && m.onBlobs(c), c.Kind > api.CmdRecast && m.onNodes(c):
		o.Kind = api.OutDone
	}
	m.behind()
	return o
}

func (m *model) onKeys(c api.Cmd) api.Out {
	e := m.there(c.Key)
	switch c.Kind {
	case api.CmdNop:
		return api.Out{Kind: api.OutDone}
	case api.CmdPut:
		if c.ID <= 0 || c.Key == "" || len(c.Key) > 8 || c.Key == "A" || !m.fit(c.Code, c.Nodes) || c.Size < 0 || c.Size > 400 {
			return api.Out{Kind: api.OutRefused}
		}
		if m.key(c.Key) != nil {
			return api.Out{Kind: api.OutThere}
		}
		b := api.Blob{ID: c.ID, Size: c.Size, Sum: c.Sum, Code: c.Code, Nodes: slices.Clone(c.Nodes)}
		m.entries = append(m.entries, entry{key: c.Key, blob: b, had: slices.Clone(c.Nodes)})
		slices.SortFunc(m.entries, func(a, b entry) int { return slices.Compare([]byte(a.key), []byte(b.key)) })
		b.Nodes = slices.Clone(b.Nodes)
		return api.Out{Kind: api.OutDone, Blob: b}
	case api.CmdGet, api.CmdDelete:
		if e == nil {
			return api.Out{Kind: api.OutMissing}
		}
	default:
		return api.Out{Kind: api.OutRefused}
	}
	if c.Kind == api.CmdGet {
		b := e.blob
		b.Nodes = slices.Clone(b.Nodes)
		return api.Out{Kind: api.OutDone, Blob: b, Epoch: m.epoch}
	}
	e.gone = true
	m.lose(func(x api.Move) bool { return x.Blob == e.blob.ID }, func(x api.Recode) bool { return x.Blob == e.blob.ID })
	return api.Out{Kind: api.OutDone}
}

func (m *model) lose(move func(api.Move) bool, recode func(api.Recode) bool) {
	m.moves = slices.DeleteFunc(m.moves, move)
	m.recodes = slices.DeleteFunc(m.recodes, recode)
}

func (m *model) onBlobs(c api.Cmd) bool {
	e := m.blob(c.Blob)
	if e == nil {
		return false
	}
	switch c.Kind {
	case api.CmdMove:
		if c.Index < 0 || c.Index >= e.blob.Code.K+e.blob.Code.M || !slices.Contains(m.members, c.Node) || slices.Contains(e.had, c.Node) ||
			m.isMoved(c.Blob, c.Index) || m.isRecoded(c.Blob) {
			return false
		}
		m.moves = append(m.moves, api.Move{Blob: c.Blob, Index: c.Index, Node: c.Node})
		e.had = append(e.had, c.Node)
	case api.CmdSwitch:
		at := slices.Index(m.moves, api.Move{Blob: c.Blob, Index: c.Index, Node: c.Node})
		if at < 0 {
			return false
		}
		m.moves = slices.Delete(m.moves, at, at+1)
		e.blob.Nodes[c.Index] = c.Node
		m.epoch++
	case api.CmdRecode:
		if c.ID <= 0 || m.isMoved(c.Blob, -1) || m.isRecoded(c.Blob) || !m.fit(c.Code, c.Nodes) {
			return false
		}
		m.recodes = append(m.recodes, api.Recode{Blob: c.Blob, Other: c.ID, Code: c.Code, Nodes: slices.Clone(c.Nodes)})
	case api.CmdRecast:
		at := slices.IndexFunc(m.recodes, func(r api.Recode) bool { return r.Blob == c.Blob && r.Other == c.Other })
		if at < 0 {
			return false
		}
		r := m.recodes[at]
		m.recodes = slices.Delete(m.recodes, at, at+1)
		e.blob.ID, e.blob.Code, e.blob.Nodes, e.had = r.Other, r.Code, r.Nodes, slices.Clone(r.Nodes)
		m.epoch++
	}
	return true
}

func (m *model) onNodes(c api.Cmd) bool {
	isNode, member, failed := c.Node >= 0 && c.Node < m.nodes, slices.Contains(m.members, c.Node), slices.Contains(m.failed, c.Node)
	switch c.Kind {
	case api.CmdAdmit:
		if !isNode || member || failed {
			return false
		}
		m.members = append(m.members, c.Node)
		slices.Sort(m.members)
	case api.CmdRetire, api.CmdFail:
		fails := c.Kind == api.CmdFail
		if fails && (!isNode || failed) || !fails && !member {
			return false
		}
		if fails {
			m.failed = append(m.failed, c.Node)
		}
		m.members = slices.DeleteFunc(m.members, func(n int) bool { return n == c.Node })
		m.lose(func(x api.Move) bool { return x.Node == c.Node }, func(x api.Recode) bool {
			return slices.Contains(x.Nodes, c.Node) || fails && x.Other%16 == c.Node
		})
	case api.CmdVoters:
		for i, n := range c.Nodes {
			if slices.Contains(m.failed, n) || slices.Contains(c.Nodes[:i], n) {
				return false
			}
		}
		if len(c.Nodes) < 1 || len(c.Nodes) > 16 {
			return false
		}
		m.voters = append(m.voters, ballot{m.slot - 1 + 4, slices.Clone(c.Nodes)})
	case api.CmdWidth:
		if !reed.Can(c.Code) || c.Code.K+c.Code.M > 16 {
			return false
		}
		m.code = c.Code
	default:
		return false
	}
	m.epoch++
	return true
}

// behind is what is done behind each command that was not there twice.
func (m *model) behind() {
	for i := range m.entries {
		e := &m.entries[i]
		if e.gone || m.isRecoded(e.blob.ID) {
			continue
		}
		for index, node := range e.blob.Nodes {
			if slices.Contains(m.members, node) || m.isMoved(e.blob.ID, index) {
				continue
			}
			if spare, err := place.Spare(m.members, e.had, e.blob.ID+index); err == api.OK {
				m.moves = append(m.moves, api.Move{Blob: e.blob.ID, Index: index, Node: spare})
				e.had = append(e.had, spare)
			}
		}
	}
}

func (m *model) votersOf(slot int) []int {
	var l []int
	for _, b := range m.voters {
		if b.from <= max(slot, 1) {
			l = b.nodes
		}
	}
	return l
}

func (m *model) mine(node int) [][2]int {
	var l [][2]int
	for id := range 2000 {
		for index := range 16 {
			e := m.blob(id)
			lies := e != nil && index < len(e.blob.Nodes) && e.blob.Nodes[index] == node
			comes := slices.Contains(m.moves, api.Move{Blob: id, Index: index, Node: node})
			becomes := slices.ContainsFunc(m.recodes, func(r api.Recode) bool {
				return r.Other == id && index < len(r.Nodes) && r.Nodes[index] == node
			})
			if lies || comes || becomes {
				l = append(l, [2]int{id, index})
			}
		}
		if id > slices.Max(append(m.ids, 0)) {
			break
		}
	}
	return l
}

// check has a state tell what the model does.
func (m *model) check(t *testing.T, s *epoch.State) {
	t.Helper()
	if s.Epoch() != m.epoch || s.Slot() != m.slot || s.Code() != m.code {
		t.Fatalf("epoch %d, slot %d, code %v, want %d, %d, %v", s.Epoch(), s.Slot(), s.Code(), m.epoch, m.slot, m.code)
	}
	are(t, "Members", s.Members(), m.members...)
	moves(t, s, m.moves...)
	if text(s.Recodes()) != text(m.recodes) {
		t.Fatalf("Recodes: %s, want %s", text(s.Recodes()), text(m.recodes))
	}
	var keys []string
	for _, e := range m.entries {
		b, ok := s.Blob(e.key)
		if e.gone {
			e.blob = api.Blob{}
		} else {
			keys = append(keys, e.key)
			if f, ok := s.Find(e.blob.ID); !ok || text(f) != text(e.blob) {
				t.Fatalf("Find(%d): %s, %v, want %s", e.blob.ID, text(f), ok, text(e.blob))
			}
		}
		if ok == e.gone || text(b) != text(e.blob) {
			t.Fatalf("Blob(%s): %s, %v, want %s", e.key, text(b), ok, text(e.blob))
		}
	}
	are(t, "Keys", s.Keys(), keys...)
	for _, id := range m.ids {
		if b, ok := s.Find(id); ok != (m.blob(id) != nil) {
			t.Fatalf("Find(%d): %s, %v", id, text(b), ok)
		}
	}
	for slot := m.slot - 6; slot < m.slot+6; slot++ {
		are(t, fmt.Sprintf("Voters(%d)", slot), s.Voters(slot), m.votersOf(slot)...)
	}
	for node := -1; node <= m.nodes; node++ {
		if s.Failed(node) != slices.Contains(m.failed, node) {
			t.Fatalf("Failed(%d): %v", node, s.Failed(node))
		}
		are(t, fmt.Sprintf("Mine(%d)", node), s.Mine(node), m.mine(node)...)
	}
}

// some is so many numbers that nodes have, or nearly, mostly unlike.
func (m *model) some(d *dice, count int) []int {
	var l []int
	for len(l) < count {
		n := d.below(m.nodes+2) - 1
		if d.below(8) > 0 && len(m.members) > 0 {
			n = m.members[d.below(len(m.members))]
		}
		if !slices.Contains(l, n) || d.below(10) == 0 {
			l = append(l, n)
		} else {
			count--
		}
	}
	return l
}

// next is a command that may well be done.
func (m *model) next(d *dice, id int) api.Cmd {
	c := api.Cmd{
		ID: id, Kind: d.below(15) - 1, Key: []string{"a", "b", "c", "d", "e", "k9", "", "A"}[d.below(8)], Blob: d.below(id + 1), Other: d.below(id + 1),
		Index: d.below(4) - 1, Node: d.below(m.nodes+2) - 1, Size: d.below(430) - 10, Sum: uint32(d.below(3)),
	}
	if d.below(8) == 0 {
		c.ID = d.below(id+1) - 1
	}
	c.Nodes = m.some(d, 1+d.below(3))
	c.Code = code(d.below(18), d.below(2))
	if d.below(8) > 0 {
		c.Code = code(1, len(c.Nodes)-1)
	}
	if len(m.entries) > 0 && d.below(6) > 0 {
		c.Blob = m.entries[d.below(len(m.entries))].blob.ID
	}
	if len(m.moves) > 0 && c.Kind == api.CmdSwitch && d.below(4) > 0 {
		x := m.moves[d.below(len(m.moves))]
		c.Blob, c.Index, c.Node = x.Blob, x.Index, x.Node
	}
	if len(m.recodes) > 0 && c.Kind == api.CmdRecast && d.below(4) > 0 {
		x := m.recodes[d.below(len(m.recodes))]
		c.Blob, c.Other = x.Blob, x.Other
	}
	if c.Kind == api.CmdFail && d.below(2) > 0 {
		c.Kind = api.CmdAdmit
	}
	return c
}

// P15.1, P15.2, P15.4, P15.5: in any script a state answers as its definition
// does, two states of the same commands are the same, and epochs never fall.
func TestScripts(t *testing.T) {
	came := map[[2]int]int{}
	for seed := range 300 {
		d := dice(seed)
		setup := api.Setup{Nodes: 1 + seed%9, Voters: 1 + seed%9/2, Code: code(1, 0)}
		if seed%10 == 9 {
			setup.Nodes = api.MaxNodes
		}
		m := newModel(setup)
		s, _ := epoch.New(setup)
		twin, _ := epoch.New(setup)
		for i := range 60 {
			c := m.next(&d, i+1)
			before := m.epoch
			want := m.apply(c)
			if o := apply(t, s, c); text(o) != text(want) {
				t.Fatalf("seed %d: %s: %s, want %s", seed, text(c), text(o), text(want))
			}
			m.check(t, s)
			if s.Epoch() < before || s.Epoch() > before+1 {
				t.Fatalf("seed %d: epoch %d behind %d", seed, s.Epoch(), before)
			}
			if s.Same(twin) {
				t.Fatalf("seed %d: %s: a state is the same as before", seed, text(c))
			}
			apply(t, twin, roomy(c))
			if !s.Same(twin) || !twin.Same(s) || !s.Copy().Same(twin) {
				t.Fatalf("seed %d: %s: two states of the same commands are not the same", seed, text(c))
			}
			if i%7 == 6 {
				twin = twin.Copy()
			}
			came[[2]int{max(c.Kind, -1), want.Kind}]++
		}
	}
	reached(t, came)
}

// reached has all outcomes of all kinds have come often enough.
func reached(t *testing.T, came map[[2]int]int) {
	t.Helper()
	for kind := -1; kind <= api.CmdWidth+1; kind++ {
		outs := []int{api.OutDone, api.OutRefused, api.OutTwice}
		switch kind {
		case -1, api.CmdWidth + 1:
			outs = []int{api.OutRefused, api.OutTwice}
		case api.CmdNop:
			outs = []int{api.OutDone, api.OutTwice}
		case api.CmdPut:
			outs = append(outs, api.OutThere)
		case api.CmdGet, api.CmdDelete:
			outs = []int{api.OutDone, api.OutMissing, api.OutTwice}
		}
		for _, out := range outs {
			if came[[2]int{kind, out}] < 10 {
				t.Errorf("kind %d comes to %d %d times", kind, out, came[[2]int{kind, out}])
			}
		}
	}
}

// P15.6: whatever is applied, a key is put once at most; and no shard of a
// blob comes back to where it was.
func TestWrittenOnce(t *testing.T) {
	for seed := range 200 {
		d := dice(5000 + seed)
		setup := api.Setup{Nodes: 2 + seed%8, Voters: 1, Code: code(1, 0)}
		m := newModel(setup)
		s, _ := epoch.New(setup)
		put := map[string]int{}
		left := map[[3]int]int{}
		held := map[[3]int]int{}
		for i := range 60 {
			c := m.next(&d, i+1)
			m.apply(c)
			if o := apply(t, s, c); c.Kind == api.CmdPut && o.Kind == api.OutDone {
				put[c.Key]++
				if put[c.Key] > 1 {
					t.Fatalf("seed %d: the key %s is put twice", seed, c.Key)
				}
			}
			now := map[[3]int]int{}
			for node := range setup.Nodes {
				for _, x := range s.Mine(node) {
					at := [3]int{x[0], x[1], node}
					now[at]++
					if left[at] > 0 {
						t.Fatalf("seed %d: %s: shard %v comes back to %d", seed, text(c), x, node)
					}
				}
			}
			for at := range held {
				if now[at] == 0 {
					left[at]++
				}
			}
			held = now
		}
	}
}
