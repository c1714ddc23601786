package post_test

import (
	"fmt"
	"maps"
	"slices"
	"testing"

	"amphora/api"
	"amphora/post"
)

// dice is numbers that hang on the seed alone.
type dice uint32

func (d *dice) below(n int) int {
	*d = *d*1664525 + 1013904223
	return int(*d>>8) % n
}

// pair is a post, and what it is by its definition.
type pair struct {
	t     *testing.T
	post  *post.Post
	last  int
	seeds map[int]int // of the packets on the way, by their numbers
	made  map[int]int // how often a seed was sent and doubled
	taken map[int]int // how often it was taken
}

// add has a new packet be of a seed.
func (a *pair) add(name string, id int, e api.Errno, seed int) {
	a.t.Helper()
	if len(a.seeds) >= api.MaxPackets {
		if id != 0 || e != api.ErrFull {
			a.t.Fatalf("%s: packet %d, error %d, at a full post", name, id, e)
		}
		return
	}
	a.last++
	if id != a.last || e != api.OK {
		a.t.Fatalf("%s: packet %d, error %d, want packet %d", name, id, e, a.last)
	}
	a.seeds[id] = seed
	a.made[seed]++
}

// step is one call.
func (a *pair) step(d *dice, adds int) {
	a.t.Helper()
	id := d.below(a.last+4) - 1
	seed, there := a.seeds[id]
	switch k := d.below(adds + 3); {
	case k < adds:
		seed = d.below(40)
		n, e := a.post.Send(letter(seed))
		a.add("Send", n, e, seed)
	case !there:
		absent(a.t, a.post, id)
	case k == adds:
		take(a.t, a.post, id, letter(seed))
		delete(a.seeds, id)
		a.taken[seed]++
	case k == adds+1:
		lose(a.t, a.post, id)
		delete(a.seeds, id)
	default:
		n, e := a.post.Twice(id)
		a.add(fmt.Sprintf("Twice(%d)", id), n, e, seed)
	}
}

// check has the post have what it has by its definition.
func (a *pair) check() {
	a.t.Helper()
	var want []packet
	for _, id := range slices.Sorted(maps.Keys(a.seeds)) {
		want = append(want, packet{id, a.seeds[id]})
	}
	has(a.t, "the model", a.post, want...)
}

// P9.1, P9.2, P9.3: in any script a post answers as its definition does, and
// takes no message more often than it was sent and doubled.
func TestScripts(t *testing.T) {
	for seed := range 60 {
		d := dice(seed)
		a := &pair{t, post.New(), 0, map[int]int{}, map[int]int{}, map[int]int{}}
		for range 300 {
			a.step(&d, 1+seed%3)
			if d.below(10) == 0 {
				a.check()
			}
		}
		a.check()
		for _, s := range a.post.Packets() {
			take(t, a.post, s.ID, letter(a.seeds[s.ID]))
			a.taken[a.seeds[s.ID]]++
		}
		has(t, "all taken", a.post)
		for seed, n := range a.taken {
			if n > a.made[seed] {
				t.Fatalf("message %d was taken %d times, and made %d times", seed, n, a.made[seed])
			}
		}
	}
}

// P9.1, P9.2: so it does where it is full, and near that.
func TestScriptsNearlyFull(t *testing.T) {
	p, _ := loaded(t, api.MaxPackets-3)
	a := &pair{t, p, api.MaxPackets - 3, map[int]int{}, map[int]int{}, map[int]int{}}
	for id := 1; id <= a.last; id++ {
		a.seeds[id] = id
	}
	d := dice(1)
	for range 400 {
		a.step(&d, 1)
	}
	a.check()
}

// P9.3: a message that was sent once and doubled twice is taken three times,
// by any of its numbers, and then no more.
func TestTakenAsOftenAsDoubled(t *testing.T) {
	p := post.New()
	send(t, p, letter(1), 1)
	twice(t, p, 1, 2)
	twice(t, p, 2, 3)
	taken := 0
	for range 3 {
		for id := -1; id <= 6; id++ {
			if m, e := p.Take(id); e == api.OK {
				taken++
				if text(m) != text(letter(1)) {
					t.Fatalf("packet %d was never sent", id)
				}
			}
		}
	}
	if taken != 3 {
		t.Fatalf("taken %d times", taken)
	}
}
