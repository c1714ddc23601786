package shelf_test

import (
	"bytes"
	"slices"
	"testing"

	"amphora/api"
	"amphora/plate"
	"amphora/shelf"
	"amphora/wal"
)

// The chapter's example.
func TestExample(t *testing.T) {
	_, s := shelfOf(t, 60)
	is(t, "Store", s.Store(5, 0, 1, []byte("b")), api.OK)
	is(t, "Fence", s.Fence(5, 0, 3), api.OK)
	fetches(t, s, key{5, 0}, 2, nil, api.ErrFenced)
	fetches(t, s, key{5, 0}, 3, []byte("b"), api.OK)
}

// fetches asks for a shard.
func fetches(t *testing.T, s *shelf.Shelf, k key, epoch int, want []byte, e api.Errno) {
	t.Helper()
	b, got := s.Fetch(k.blob, k.index, epoch)
	if got != e || !bytes.Equal(b, want) {
		t.Fatalf("Fetch of %v at epoch %d: %x, error %d, want %x, %d", k, epoch, b, got, want, e)
	}
}

// The records' bytes, one by one.
func TestRecordsByHand(t *testing.T) {
	p, s := shelfOf(t, 60)
	is(t, "Store", s.Store(5, 0, 1, []byte("b")), api.OK)
	is(t, "Store", s.Store(300, most, 1, []byte{9, 8}), api.OK)
	is(t, "Fence", s.Fence(5, 0, 256), api.OK)
	is(t, "Note", s.Note(0, nil), api.OK)
	is(t, "Note", s.Note(255, []byte("n")), api.OK)
	is(t, "Drop", s.Drop(5, 0), api.OK)
	tells(t, "by hand", p,
		[]byte{1, 1, 5, 0, 'b'},
		[]byte{1, 2, 1, 44, 8, 16, 0, 0, 0, 0, 0, 0, 0, 9, 8},
		[]byte{3, 1, 5, 0, 2, 1, 0},
		[]byte{4, 0},
		[]byte{4, 1, 255, 'n'},
		[]byte{2, 1, 5, 0})
}

// P8.1: wal's errors, which leave the plate as it is.
func TestOpenRefusesPlates(t *testing.T) {
	for _, p := range []*plate.Plate{nil, {}} {
		if s, e := shelf.Open(p); s != nil || e != api.ErrNil {
			t.Errorf("no plate: error %d", e)
		}
	}
	failed, few, torn := newPlate(t, 8), newPlate(t, 5), newPlate(t, 8)
	failed.Fail()
	torn.Write(7, some(64, 1))
	for _, c := range []struct {
		p    *plate.Plate
		want api.Errno
	}{{failed, api.ErrDead}, {few, api.ErrArg}, {torn, api.ErrLog}, {spent(t), api.ErrFull}} {
		before := c.p.Copy()
		if s, e := shelf.Open(c.p); s != nil || e != c.want {
			t.Errorf("error %d, want %d", e, c.want)
		}
		unchanged(t, "refused", c.p, before)
	}
}

// headOf is a head's sector: see the chapter of wal.
func headOf(numbers ...int) []byte {
	b := []byte{0x68}
	for _, n := range numbers {
		for shift := 56; shift >= 0; shift -= 8 {
			b = append(b, byte(n>>shift))
		}
	}
	return sealed(b)
}

// spent is a plate whose log can't be opened any more.
func spent(t *testing.T) *plate.Plate {
	t.Helper()
	p := newPlate(t, 8)
	is(t, "Write", p.Write(0, headOf(most, 1, 0, 1)), api.OK)
	return p
}

// P8.1: records of all kinds, at the edges of their parts.
func TestOpenTakesRecords(t *testing.T) {
	for _, n := range []int{0, 1, 255, 256, 1<<56 - 1, 1 << 56, most - 1, most} {
		want := newStock()
		for i, length := range []int{1, 40, long} {
			want.shards[key{n, i}] = some(length, 1)
			want.shards[key{i, n}] = some(length, 2)
			want.fences[key{n, i}] = n
			want.notes[n] = some(length, 3)
		}
		want.notes[7] = nil
		has(t, "records", opened(t, logged(t, 800, want.records()...)), want)
	}
}

// P8.1: what records come to, one behind the other.
func TestOpenFollowsRecords(t *testing.T) {
	k := key{4, 2}
	a, b := []byte("a"), []byte("bb")
	for name, c := range map[string]struct {
		recs [][]byte
		want stock
	}{
		"none":                   {nil, newStock()},
		"dropped":                {[][]byte{shardRec(4, 2, a), dropRec(4, 2)}, newStock()},
		"dropped ahead":          {[][]byte{dropRec(4, 2), shardRec(4, 2, a)}, stock{shards: map[key][]byte{k: a}}},
		"dropped twice":          {[][]byte{shardRec(4, 2, a), dropRec(4, 2), dropRec(4, 2)}, newStock()},
		"another one dropped":    {[][]byte{shardRec(4, 2, a), dropRec(2, 4)}, stock{shards: map[key][]byte{k: a}}},
		"stored twice":           {[][]byte{shardRec(4, 2, a), shardRec(4, 2, b)}, stock{shards: map[key][]byte{k: b}}},
		"dropped and stored":     {[][]byte{shardRec(4, 2, a), dropRec(4, 2), shardRec(4, 2, b)}, stock{shards: map[key][]byte{k: b}}},
		"fenced twice":           {[][]byte{fenceRec(4, 2, 3), fenceRec(4, 2, 5)}, stock{fences: map[key]int{k: 5, {2, 4}: 0}}},
		"fenced at 0":            {[][]byte{fenceRec(4, 2, 0)}, stock{fences: map[key]int{k: 0}}},
		"fenced and dropped":     {[][]byte{shardRec(4, 2, a), fenceRec(4, 2, 3), dropRec(4, 2)}, stock{fences: map[key]int{k: 3}}},
		"noted twice":            {[][]byte{noteRec(4, a), noteRec(4, b)}, stock{notes: map[int][]byte{4: b}}},
		"noted, then with none":  {[][]byte{noteRec(4, a), noteRec(4, nil)}, stock{notes: map[int][]byte{4: nil}}},
		"a note and its shard":   {[][]byte{noteRec(4, a), shardRec(4, 0, b)}, stock{shards: map[key][]byte{{4, 0}: b}, notes: map[int][]byte{4: a}}},
		"a note, a shard is not": {[][]byte{noteRec(4, a), shardRec(4, 0, b), dropRec(4, 0)}, stock{notes: map[int][]byte{4: a}}},
	} {
		t.Run(name, func(t *testing.T) {
			has(t, name, opened(t, logged(t, 30, c.recs...)), c.want)
		})
	}
}

// P8.1: records that are none of a shelf's, by themselves and among others.
func TestOpenOfOtherRecords(t *testing.T) {
	nine := append([]byte{9, 0}, some(8, 1)...)
	for name, rec := range map[string][]byte{
		"kind 0":                       {0},
		"kind 0, else a shard":         {0, 1, 5, 0, 'b'},
		"kind 5":                       {5, 1, 5, 'b'},
		"kind 255":                     {255, 1, 5, 0, 'b'},
		"letters":                      []byte("abcdef"),
		"a shard's kind alone":         {1},
		"a shard without index":        {1, 1, 5},
		"a shard without bytes":        {1, 1, 5, 0},
		"a shard's number cut":         {1, 2, 5},
		"a shard's index cut":          {1, 1, 5, 2, 1},
		"a shard of too many bytes":    shardRec(1, 1, some(long+1, 1)),
		"a shard of a long record":     shardRec(1, 1, some(1995, 1)),
		"a shard's number in 9":        joined([]byte{1}, nine, []byte{0, 'b'}),
		"a shard's index in 9":         joined([]byte{1, 0}, nine, []byte{'b'}),
		"a shard's number with 0":      {1, 2, 0, 5, 0, 'b'},
		"a shard's number 0 in 1":      {1, 1, 0, 0, 'b'},
		"a shard's index with 0":       {1, 1, 5, 2, 0, 7, 'b'},
		"a shard's number too great":   shardRec(most+1, 1, []byte("b")),
		"a shard's index too great":    shardRec(1, most+1, []byte("b")),
		"a shard's number below 0":     shardRec(-1, 1, []byte("b")),
		"a shard's index below 0":      shardRec(1, -1<<63, []byte("b")),
		"a drop's kind alone":          {2},
		"a drop without index":         {2, 1, 5},
		"a drop's index cut":           {2, 1, 5, 1},
		"a drop with a byte behind":    {2, 1, 5, 1, 6, 0},
		"a drop's number too great":    dropRec(most+1, 1),
		"a drop's index too great":     dropRec(1, most+1),
		"a drop's index with 0":        {2, 1, 5, 1, 0},
		"a fence's kind alone":         {3},
		"a fence without index":        {3, 1, 5},
		"a fence without epoch":        {3, 1, 5, 1, 6},
		"a fence's epoch cut":          {3, 1, 5, 1, 6, 2, 1},
		"a fence with a byte behind":   append(fenceRec(5, 6, 7), 0),
		"a fence's epoch too great":    fenceRec(5, 6, most+1),
		"a fence's epoch below 0":      fenceRec(5, 6, -5),
		"a fence's number too great":   fenceRec(most+1, 6, 7),
		"a fence's index too great":    fenceRec(5, most+1, 7),
		"a fence's epoch with 0":       {3, 1, 5, 1, 6, 2, 0, 7},
		"a note's kind alone":          {4},
		"a note's number cut":          {4, 3, 1, 1},
		"a note's number with 0":       {4, 2, 0, 5, 'b'},
		"a note's number in 9":         joined([]byte{4}, nine, []byte("b")),
		"a note's number in 255":       joined([]byte{4, 255}, some(255, 1)),
		"a note's number too great":    noteRec(most+1, []byte("b")),
		"a note's number below 0":      noteRec(-1, []byte("b")),
		"a note of too many bytes":     noteRec(1, some(long+1, 1)),
		"a note of the longest record": noteRec(0, some(1998, 1)),
	} {
		t.Run(name, func(t *testing.T) {
			for _, recs := range [][][]byte{
				{rec},
				{shardRec(1, 2, []byte("b")), rec},
				{rec, noteRec(1, []byte("b")), fenceRec(1, 1, 1)},
			} {
				if s, e := shelf.Open(logged(t, 80, recs...)); s != nil || e != api.ErrLog {
					t.Errorf("with %d others: error %d", len(recs)-1, e)
				}
			}
		})
	}
}

// P8.1: a record that a checkpoint has done away with does not count.
func TestOpenOfOtherRecordsThatAreNoMore(t *testing.T) {
	p := newPlate(t, 20)
	w, _, _ := wal.Open(p)
	w.Append([]byte("other"))
	is(t, "Checkpoint", w.Checkpoint([][]byte{noteRec(1, []byte("n"))}), api.OK)
	has(t, "behind a checkpoint", opened(t, p), stock{notes: map[int][]byte{1: []byte("n")}})
}

// numbersOut is some that are out of their range.
func numbersOut() []int { return []int{-1, most + 1, -1 << 63, 1<<63 - 1} }

// Numbers out of their range: ErrArg, and nothing else.
func TestNumbersOut(t *testing.T) {
	a := newPair(t, 60)
	a.store(key{5, 0}, 1, []byte("b"))
	a.fence(key{5, 0}, 4)
	a.note(3, []byte("n"))
	for _, n := range numbersOut() {
		for name, e := range map[string]api.Errno{
			"Store blob":      a.shelf.Store(n, 0, 9, []byte("b")),
			"Store index":     a.shelf.Store(5, n, 9, []byte("b")),
			"Store epoch":     a.shelf.Store(5, 0, n, []byte("b")),
			"Store, nothing":  a.shelf.Store(5, 0, n, nil),
			"Store, there":    a.shelf.Store(5, 0, n, []byte("c")),
			"Store, too much": a.shelf.Store(n, 0, 0, some(3000, 1)),
			"Drop blob":       a.shelf.Drop(n, 0),
			"Drop index":      a.shelf.Drop(5, n),
			"Fence blob":      a.shelf.Fence(n, 0, 9),
			"Fence index":     a.shelf.Fence(5, n, 9),
			"Fence epoch":     a.shelf.Fence(5, 0, n),
			"Note":            a.shelf.Note(n, []byte("n")),
			"Note, too much":  a.shelf.Note(n, some(3000, 1)),
		} {
			is(t, name, e, api.ErrArg)
		}
		fetches(t, a.shelf, key{n, 0}, 9, nil, api.ErrArg)
		fetches(t, a.shelf, key{5, n}, 9, nil, api.ErrArg)
		fetches(t, a.shelf, key{5, 0}, n, nil, api.ErrArg)
		if a.shelf.Fenced(n, 0) != 0 || a.shelf.Fenced(5, n) != 0 || len(a.shelf.Noted(n)) != 0 {
			t.Errorf("%d has a fence, or a note", n)
		}
		a.after("numbers out of range", api.OK, api.OK)
	}
}

// Numbers at the edges of their range.
func TestNumbersAtTheEdges(t *testing.T) {
	a := newPair(t, 200)
	for _, blob := range []int{0, most} {
		for _, index := range []int{0, most} {
			k := key{blob, index}
			a.store(k, 0, some(3, uint32(index)))
			a.fence(k, most)
			fetches(t, a.shelf, k, most-1, nil, api.ErrFenced)
			fetches(t, a.shelf, k, most, some(3, uint32(index)), api.OK)
			a.drop(k)
			a.store(k, most-1, some(4, 4))
			a.store(k, most, some(4, 4))
		}
		a.note(blob, some(5, 5))
	}
	a.open()
}

// P8.2: how many bytes a shard may have.
func TestShardLengths(t *testing.T) {
	a := newPair(t, 400)
	for i, length := range []int{0, 1, 2, 35, 36, 37, 1979, 1980, 1981, 2000, 70000} {
		want := api.OK
		if length < 1 || length > long {
			want = api.ErrArg
		}
		is(t, "Store", a.shelf.Store(1, i, 0, some(length, 1)), want)
		is(t, "the model's", a.model.store(key{1, i}, 0, some(length, 1)), want)
		a.after("Store", api.OK, api.OK)
	}
	is(t, "the greatest numbers", a.shelf.Store(most, most, 0, some(long, 1)), api.OK)
	is(t, "nothing", a.shelf.Store(1, 1, 0, nil), api.ErrArg)
}

// P8.2: the order of a Store's answers.
func TestStore(t *testing.T) {
	a := newPair(t, 60)
	k, b, c := key{5, 1}, []byte("b"), []byte("bc")
	a.fence(k, 3)
	is(t, "fenced, and none there", a.shelf.Store(5, 1, 2, b), api.ErrFenced)
	is(t, "fenced, and empty", a.shelf.Store(5, 1, 2, nil), api.ErrArg)
	a.store(k, 2, b)
	a.store(k, 3, b)
	fetches(t, a.shelf, k, 3, b, api.OK)
	is(t, "another there", a.shelf.Store(5, 1, 3, c), api.ErrThere)
	is(t, "another there, later", a.shelf.Store(5, 1, most, c), api.ErrThere)
	is(t, "another there, and fenced", a.shelf.Store(5, 1, 2, c), api.ErrFenced)
	is(t, "just these, and fenced", a.shelf.Store(5, 1, 0, b), api.ErrFenced)
	a.store(k, 2, c)
	a.store(k, 3, c)
	before := a.plate.Copy()
	is(t, "just these", a.shelf.Store(5, 1, 3, b), api.OK)
	is(t, "just these, later", a.shelf.Store(5, 1, 9, b), api.OK)
	unchanged(t, "just these", a.plate, before)
	a.store(k, 9, b)
	a.store(key{1, 5}, 0, c)
	a.drop(k)
	a.store(k, 3, c)
	fetches(t, a.shelf, k, 3, c, api.OK)
}

// P8.2: the order of a Fetch's answers.
func TestFetch(t *testing.T) {
	a := newPair(t, 60)
	fetches(t, a.shelf, key{5, 1}, 0, nil, api.ErrAbsent)
	a.store(key{5, 1}, 0, []byte("b"))
	fetches(t, a.shelf, key{5, 1}, 0, []byte("b"), api.OK)
	fetches(t, a.shelf, key{5, 1}, most, []byte("b"), api.OK)
	fetches(t, a.shelf, key{1, 5}, 0, nil, api.ErrAbsent)
	fetches(t, a.shelf, key{5, 0}, 0, nil, api.ErrAbsent)
	a.fence(key{5, 1}, 2)
	a.fence(key{6, 1}, 2)
	fetches(t, a.shelf, key{5, 1}, 1, nil, api.ErrFenced)
	fetches(t, a.shelf, key{5, 1}, 2, []byte("b"), api.OK)
	fetches(t, a.shelf, key{6, 1}, 1, nil, api.ErrFenced)
	fetches(t, a.shelf, key{6, 1}, 2, nil, api.ErrAbsent)
}

// P8.2: a shard is dropped, and its fence stays.
func TestDrop(t *testing.T) {
	a := newPair(t, 60)
	is(t, "none", a.shelf.Drop(5, 1), api.ErrAbsent)
	a.drop(key{5, 1})
	a.store(key{5, 1}, 0, []byte("b"))
	a.fence(key{5, 1}, 4)
	a.drop(key{1, 5})
	a.drop(key{5, 0})
	is(t, "one that is there", a.shelf.Drop(5, 1), api.OK)
	is(t, "the model's", a.model.drop(key{5, 1}), api.OK)
	a.after("Drop", api.OK, api.OK)
	is(t, "it is no more", a.shelf.Drop(5, 1), api.ErrAbsent)
	fetches(t, a.shelf, key{5, 1}, 3, nil, api.ErrFenced)
	fetches(t, a.shelf, key{5, 1}, 4, nil, api.ErrAbsent)
	if a.shelf.Fenced(5, 1) != 4 {
		t.Errorf("the fence is %d", a.shelf.Fenced(5, 1))
	}
	a.open()
}

// P8.2, P8.6: fences rise, and refuse requests of an epoch below them.
func TestFence(t *testing.T) {
	a := newPair(t, 60)
	k := key{5, 1}
	if a.shelf.Fenced(5, 1) != 0 {
		t.Error("a fence at first")
	}
	before := a.plate.Copy()
	is(t, "at 0", a.shelf.Fence(5, 1, 0), api.OK)
	unchanged(t, "at 0", a.plate, before)
	a.store(k, 0, []byte("b"))
	a.fence(k, 5)
	before = a.plate.Copy()
	for epoch := range 6 {
		is(t, "not above", a.shelf.Fence(5, 1, epoch), api.OK)
		if a.shelf.Fenced(5, 1) != 5 || a.shelf.Fenced(1, 5) != 0 {
			t.Fatalf("the fence is %d", a.shelf.Fenced(5, 1))
		}
	}
	for epoch := range 5 {
		is(t, "Store below", a.shelf.Store(5, 1, epoch, []byte("b")), api.ErrFenced)
		is(t, "another Store below", a.shelf.Store(5, 1, epoch, []byte("c")), api.ErrFenced)
		fetches(t, a.shelf, k, epoch, nil, api.ErrFenced)
	}
	unchanged(t, "requests below", a.plate, before)
	a.after("requests below", api.OK, api.OK)
	fetches(t, a.shelf, k, 5, []byte("b"), api.OK)
	a.fence(k, 6)
	fetches(t, a.shelf, k, 5, nil, api.ErrFenced)
	fetches(t, a.shelf, k, 6, []byte("b"), api.OK)
	fetches(t, a.shelf, key{5, 2}, 0, nil, api.ErrAbsent)
	a.open()
	fetches(t, a.shelf, k, 5, nil, api.ErrFenced)
}

// P8.3: notes, also of no bytes; they have numbers of their own.
func TestNotes(t *testing.T) {
	a := newPair(t, 300)
	if len(a.shelf.Notes()) != 0 || len(a.shelf.Noted(0)) != 0 {
		t.Error("notes at first")
	}
	for _, n := range []int{9, 0, most, 3} {
		for _, length := range []int{0, 1, 36, 37, 38, 1979, 1980, 0} {
			a.note(n, some(length, uint32(n)))
			before := a.plate.Copy()
			is(t, "just these", a.shelf.Note(n, some(length, uint32(n))), api.OK)
			unchanged(t, "just these", a.plate, before)
		}
	}
	if want := []int{0, 3, 9, most}; !slices.Equal(a.shelf.Notes(), want) {
		t.Errorf("notes %v, want %v", a.shelf.Notes(), want)
	}
	for _, length := range []int{1981, 2000, 70000} {
		is(t, "too many bytes", a.shelf.Note(9, some(length, 1)), api.ErrArg)
		is(t, "too many bytes of none", a.shelf.Note(10, some(length, 1)), api.ErrArg)
		a.after("too many bytes", api.OK, api.OK)
	}
	a.store(key{9, 0}, 0, []byte("b"))
	a.note(9, []byte("n"))
	a.drop(key{9, 0})
	a.open()
}

// P8.3: shards by blob, then by index; Sync is the log's, Life too.
func TestHeldAndSync(t *testing.T) {
	a := newPair(t, 100)
	if len(a.shelf.Held()) != 0 || a.shelf.Life() != 1 {
		t.Error("shards at first, or another life")
	}
	for _, k := range []key{{256, 0}, {1, 256}, {1, 2}, {255, 9}, {1, 10}, {0, most}, {most, 0}, {10, 0}, {9, 0}, {0, 0}} {
		a.store(k, 0, some(3, uint32(k.index)))
	}
	if len(a.plate.Dirty()) != 10 {
		t.Errorf("dirty %v", a.plate.Dirty())
	}
	a.sync()
	if len(a.plate.Dirty()) != 0 {
		t.Errorf("dirty behind Sync: %v", a.plate.Dirty())
	}
	for life := 2; life < 5; life++ {
		a.open()
		if a.shelf.Life() != life {
			t.Errorf("life %d, want %d", a.shelf.Life(), life)
		}
	}
}

// Objects that no call made.
func TestNoShelf(t *testing.T) {
	for _, s := range []*shelf.Shelf{nil, {}} {
		for _, b := range [][]byte{nil, []byte("b"), some(3000, 1)} {
			is(t, "Store", s.Store(1, 1, 1, b), api.ErrNil)
			is(t, "Note", s.Note(1, b), api.ErrNil)
		}
		fetches(t, s, key{1, 1}, 1, nil, api.ErrNil)
		is(t, "Drop", s.Drop(1, 1), api.ErrNil)
		is(t, "Fence", s.Fence(1, 1, 1), api.ErrNil)
		is(t, "Fence at 0", s.Fence(1, 1, 0), api.ErrNil)
		is(t, "Sync", s.Sync(), api.ErrNil)
		if s.Fenced(1, 1) != 0 || s.Noted(1) != nil || s.Notes() != nil || s.Held() != nil || s.Life() != 0 {
			t.Error("no shelf tells something")
		}
	}
}

// A plate that has failed: what would write a record tells so, and changes
// nothing.
func TestFailedPlate(t *testing.T) {
	p, s := shelfOf(t, 30)
	is(t, "Store", s.Store(1, 1, 0, []byte("b")), api.OK)
	is(t, "Note", s.Note(1, []byte("n")), api.OK)
	p.Fail()
	is(t, "Store", s.Store(1, 2, 0, []byte("b")), api.ErrDead)
	is(t, "Drop", s.Drop(1, 1), api.ErrDead)
	is(t, "Fence", s.Fence(1, 1, 1), api.ErrDead)
	is(t, "Note", s.Note(1, nil), api.ErrDead)
	is(t, "Sync", s.Sync(), api.ErrDead)
	is(t, "a number ahead of all", s.Drop(-1, 1), api.ErrArg)
	has(t, "failed", s, stock{
		shards: map[key][]byte{{1, 1}: []byte("b")},
		fences: map[key]int{{1, 1}: 0},
		notes:  map[int][]byte{1: []byte("n")},
	})
}
