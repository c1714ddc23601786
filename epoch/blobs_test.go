package epoch_test

import (
	"fmt"
	"math"
	"slices"
	"strings"
	"testing"

	"amphora/api"
)

// with is a command with something about it changed.
func with(c api.Cmd, change func(c *api.Cmd)) api.Cmd {
	c.Nodes = slices.Clone(c.Nodes)
	change(&c)
	return c
}

// sized is a command with another size.
func sized(c api.Cmd, size int) api.Cmd { return with(c, func(c *api.Cmd) { c.Size = size }) }

// P15.1: all that a put asks is so.
func TestPut(t *testing.T) {
	s := state(t, api.MaxNodes)
	all := everyone(api.MaxNodes)
	right := []api.Cmd{
		put(1, "a", code(1, 0), 15),
		put(2, "zzzzzzzz", code(2, 1), 5, 0, 9),
		put(math.MaxInt, "k9", code(16, 0), all...),
		put(api.MaxNumber, "0", code(1, 15), all...),
		sized(put(3, "b", code(1, 1), 3, 2), 0),
		sized(put(4, "c", code(1, 1), 3, 2), api.MaxBlob),
		with(put(5, "d", code(1, 1), 3, 2), func(c *api.Cmd) { c.Sum = math.MaxUint32 }),
		with(put(6, "e", code(1, 1), 3, 2), func(c *api.Cmd) { c.Sum = 0 }),
	}
	slices.Reverse(right[7].Nodes)
	puts(t, s, right...)
	are(t, "Keys", s.Keys(), "0", "a", "b", "c", "d", "e", "k9", "zzzzzzzz")
	for _, c := range right {
		want := text(api.Blob{ID: c.ID, Size: c.Size, Sum: c.Sum, Code: c.Code, Nodes: c.Nodes})
		if b, ok := s.Blob(c.Key); !ok || text(b) != want {
			t.Fatalf("Blob(%s): %s, %v, want %s", c.Key, text(b), ok, want)
		}
		if b, ok := s.Find(c.ID); !ok || text(b) != want {
			t.Fatalf("Find(%d): %s, %v, want %s", c.ID, text(b), ok, want)
		}
	}
	since(t, s, 1)
}

// numbered is a command with another number, if it has one.
func numbered(c api.Cmd, id int) api.Cmd {
	if c.ID > 0 {
		c.ID = id
	}
	return c
}

// wrongPuts is what is like a put in all but one thing that is asked.
func wrongPuts(c api.Cmd, noMembers ...int) []api.Cmd {
	var l []api.Cmd
	add := func(change func(c *api.Cmd)) { l = append(l, with(c, change)) }
	for _, id := range []int{0, -1, -5, math.MinInt} {
		add(func(c *api.Cmd) { c.ID = id })
	}
	for _, key := range []string{
		"", "aaaaaaaaa", strings.Repeat("a", 10000), "A", "Z", "aB", "-", "a-", " ", "a ", " a", "a\x00", "\x00", "/", ":", "`", "{", "@", "[",
		"é", "\xe9", "\xff", "aaaaaaa\n", "aaaa.aaa", "a\u0660",
	} {
		add(func(c *api.Cmd) { c.Key = key })
	}
	for _, wrong := range []api.Code{{}, code(0, 3), code(-1, 4), code(4, -1), code(math.MaxInt, math.MinInt+4), code(math.MinInt, 0), code(2, 0), code(2, 2), code(3, 1), code(1, 1), code(254, 2)} {
		add(func(c *api.Cmd) { c.Code = wrong })
	}
	for _, size := range []int{-1, math.MinInt, api.MaxBlob + 1, math.MaxInt} {
		add(func(c *api.Cmd) { c.Size = size })
	}
	for i := range c.Nodes {
		for _, n := range append([]int{-1, api.MaxNodes, 99, math.MinInt, math.MaxInt}, noMembers...) {
			add(func(c *api.Cmd) { c.Nodes[i] = n })
		}
		add(func(c *api.Cmd) { c.Nodes[i] = c.Nodes[(i+1)%len(c.Nodes)] })
		add(func(c *api.Cmd) { c.Nodes = slices.Delete(c.Nodes, i, i+1) })
	}
	add(func(c *api.Cmd) { c.Nodes = append(c.Nodes, 0) })
	add(func(c *api.Cmd) { c.Nodes = append(c.Nodes, c.Nodes[0]) })
	add(func(c *api.Cmd) { c.Nodes = nil })
	add(func(c *api.Cmd) { c.Nodes = []int{} })
	add(func(c *api.Cmd) { c.Nodes = slices.Repeat([]int{1}, 1000000) })
	return l
}

// P15.1: of all that a put asks one thing is not so.
func TestPutRefused(t *testing.T) {
	s := state(t, 7)
	does(t, s, retire(4), fail(5))
	c := put(50, "b", code(2, 1), 1, 6, 3)
	puts(t, s, put(49, "a", code(2, 1), 1, 6, 3))
	for i, x := range wrongPuts(c, 4, 5, 7, 15) {
		refuses(t, s, numbered(x, 100+2*i))
		if x.Key == c.Key {
			x.Key = "a" // what is not so goes ahead of a key that is there
			refuses(t, s, numbered(x, 101+2*i))
		}
	}
	puts(t, s, c)
	are(t, "Keys", s.Keys(), "a", "b")
}

// P15.1: K + M of just as many as a code may have, and one more, in a cluster
// that is smaller.
func TestPutOfWideCodes(t *testing.T) {
	s := state(t, api.MaxNodes)
	wide := make([]int, api.MaxWidth+1)
	for i := range wide {
		wide[i] = i
	}
	refuses(t, s, put(1, "a", code(255, 0), wide[:255]...), put(2, "a", code(255, 1), wide...), put(3, "a", code(16, 1), wide[:17]...))
	refuses(t, s, put(4, "a", code(255, 0), everyone(16)...))
}

// P15.6: a key that is there, or gone, is never put.
func TestPutThere(t *testing.T) {
	s := state(t, 4)
	puts(t, s, put(16, "a", code(1, 1), 0, 1))
	idle(t, s, api.OutThere, put(17, "a", code(1, 1), 0, 1), put(18, "a", code(2, 1), 3, 2, 1))
	does(t, s, remove("a"))
	idle(t, s, api.OutThere, put(19, "a", code(1, 1), 0, 1), put(20, "a", code(1, 0), 3))
	are(t, "Keys", s.Keys())
	puts(t, s, put(21, "aa", code(1, 1), 0, 1), put(22, "b", code(1, 1), 0, 1))
	does(t, s, recode(23, 22, code(1, 0), 2), recast(22, 23))
	idle(t, s, api.OutThere, put(24, "b", code(1, 1), 0, 1))
	does(t, s, remove("b"))
	idle(t, s, api.OutThere, put(25, "b", code(1, 1), 0, 1), put(26, "a", code(1, 0), 3))
	are(t, "Keys", s.Keys(), "aa")
}

// P15.1, P15.2: a get tells the blob and the epoch, and changes nothing.
func TestGet(t *testing.T) {
	s := state(t, 4)
	puts(t, s, put(16, "a", code(1, 1), 0, 1))
	does(t, s, voters(1), move(16, 1, 3), change(16, 1, 3))
	for _, c := range []api.Cmd{get("a"), {ID: 90, Kind: api.CmdGet, Key: "a"}, {ID: -90, Kind: api.CmdGet, Key: "a", Blob: 7, Nodes: []int{9}}} {
		before := told(s)
		want := text(api.Out{Kind: api.OutDone, Epoch: 3, Blob: api.Blob{ID: 16, Size: 3, Sum: 77, Code: code(1, 1), Nodes: []int{0, 3}}})
		if o := apply(t, s, c); text(o) != want || told(s) != before {
			t.Fatalf("%s: %s, want %s", text(c), text(o), want)
		}
	}
	for _, key := range []string{"b", "", "A", "aa", "a\x00", strings.Repeat("a", 1000)} {
		idle(t, s, api.OutMissing, get(key))
	}
	does(t, s, remove("a"))
	idle(t, s, api.OutMissing, get("a"), get("a"))
}

// P15.1: a delete takes the key's blob, its moves and its recode, and nothing
// of other ones.
func TestDelete(t *testing.T) {
	s := state(t, 5)
	puts(t, s, put(16, "a", code(1, 1), 0, 1), put(17, "b", code(1, 1), 0, 1), put(18, "c", code(1, 1), 0, 1))
	does(t, s, move(16, 0, 2), move(17, 0, 2), move(16, 1, 3), recode(33, 18, code(1, 0), 4))
	idle(t, s, api.OutMissing, remove("d"), remove(""), remove("A"), remove("aa"))
	does(t, s, remove("a"))
	moves(t, s, api.Move{Blob: 17, Index: 0, Node: 2})
	recodes(t, s, 18)
	are(t, "Keys", s.Keys(), "b", "c")
	if b, ok := s.Find(16); ok || text(b) != text(api.Blob{}) {
		t.Fatalf("a blob that is gone is told: %s", text(b))
	}
	does(t, s, remove("c"))
	recodes(t, s)
	moves(t, s, api.Move{Blob: 17, Index: 0, Node: 2})
	are(t, "Mine", s.Mine(4))
	idle(t, s, api.OutMissing, remove("a"), remove("c"), api.Cmd{ID: 34, Kind: api.CmdDelete, Key: "c"})
	refuses(t, s, change(16, 0, 2), move(16, 0, 4), recast(18, 33), recode(35, 18, code(1, 0), 4))
	since(t, s, 1)
	does(t, s, change(17, 0, 2))
	lies(t, s, "b", 2, 1)
}

// P15.2: a number that is none, and one that no blob has any more.
func TestFind(t *testing.T) {
	s := state(t, 4)
	puts(t, s, put(16, "a", code(1, 1), 0, 1))
	does(t, s, recode(33, 16, code(1, 0), 3))
	for _, id := range []int{math.MinInt, -16, -1, 0, 1, 15, 17, 33, math.MaxInt} {
		if b, ok := s.Find(id); ok || text(b) != text(api.Blob{}) {
			t.Fatalf("Find(%d): %s", id, text(b))
		}
	}
	does(t, s, recast(16, 33))
	if b, ok := s.Find(16); ok || text(b) != text(api.Blob{}) {
		t.Fatalf("Find(16): %s", text(b))
	}
	if b, ok := s.Find(33); !ok || b.ID != 33 {
		t.Fatalf("Find(33): %s, %v", text(b), ok)
	}
}

// P15.2: keys are told rising, however they came.
func TestKeys(t *testing.T) {
	s := state(t, 2)
	var want []string
	for i := range 300 {
		key := fmt.Sprintf("k%d", i*37%300)
		want = append(want, key)
		puts(t, s, put(1+i, key, code(1, 0), i%2))
		if i%3 == 0 {
			does(t, s, remove(key))
			want = want[:len(want)-1]
		}
	}
	slices.Sort(want)
	are(t, "Keys", s.Keys(), want...)
}
