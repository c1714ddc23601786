package lease_test

import (
	"fmt"
	"math"
	"slices"
	"testing"

	"amphora/api"
	"amphora/lease"
)

// latest is what later times count as; wait is how long a shard waits.
const (
	latest = 1 << 40
	wait   = 2*api.LeaseTime + api.Ahead + 1
)

// are has lists of shards be alike.
func are(t *testing.T, name string, got [][2]int, want ...[2]int) {
	t.Helper()
	if !slices.Equal(got, want) {
		t.Fatalf("%s: %v, want %v", name, got, want)
	}
}

// waits has just these shards wait.
func waits(t *testing.T, l *lease.List, want ...[2]int) {
	t.Helper()
	for range 2 {
		are(t, "All", l.All(), want...)
	}
}

// due has Due tell just these shards, and no second time.
func due(t *testing.T, l *lease.List, now int, want ...[2]int) {
	t.Helper()
	are(t, fmt.Sprintf("Due(%d)", now), l.Due(now), want...)
	are(t, fmt.Sprintf("Due(%d) once more", now), l.Due(now))
}

// retire has a shard wait from now on.
func retire(t *testing.T, l *lease.List, blob, index, now int) {
	t.Helper()
	if e := l.Retire(blob, index, now); e != api.OK {
		t.Fatalf("Retire(%d, %d, %d): error %d", blob, index, now, e)
	}
}

// keep has a shard wait no more.
func keep(t *testing.T, l *lease.List, blob, index int) {
	t.Helper()
	if e := l.Keep(blob, index); e != api.OK {
		t.Fatalf("Keep(%d, %d): error %d", blob, index, e)
	}
}

// P16.2: the chapter's example.
func TestExample(t *testing.T) {
	l := lease.New()
	retire(t, l, 5, 0, 10)
	due(t, l, 92)
	due(t, l, 93, [2]int{5, 0})
}

// P16.1: times below 0 count as 0, above 2^40 as that.
func TestUntil(t *testing.T) {
	for now, want := range map[int]int{
		math.MinInt: 40, -41: 40, -40: 40, -1: 40, 0: 40, 1: 41, 5: 45, 1000: 1040, 1 << 32: 1<<32 + 40,
		latest - 41: latest - 1, latest - 40: latest, latest - 1: latest + 39, latest: latest + 40, latest + 1: latest + 40, math.MaxInt: latest + 40,
	} {
		if got := lease.Until(now); got != want {
			t.Errorf("Until(%d): %d, want %d", now, got, want)
		}
	}
}

// P16.1: a lease holds one ahead of its end, not at it, and not behind it.
func TestValid(t *testing.T) {
	for _, x := range []struct {
		until, now int
		want       bool
	}{
		{45, 44, true}, {45, 45, false}, {45, 46, false}, {45, 0, true}, {45, -1, true}, {45, math.MinInt, true}, {45, math.MaxInt, false},
		{1, 0, true}, {1, -1, true}, {1, 1, false}, {0, 0, false}, {0, -1, false}, {0, math.MinInt, false}, {0, 1, false},
		{-1, -2, false}, {-1, math.MinInt, false}, {-1, 0, false}, {math.MinInt, math.MinInt, false}, {math.MinInt, math.MaxInt, false},
		{latest, latest - 1, true}, {latest, latest, false}, {latest, latest + 1, false}, {latest - 1, latest - 2, true}, {latest - 1, latest - 1, false},
		{latest + 1, latest - 1, true}, {latest + 1, latest, false}, {latest + 40, latest, false}, {latest + 9, latest + 8, false},
		{math.MaxInt, latest - 1, true}, {math.MaxInt, latest, false}, {math.MaxInt, math.MaxInt - 1, false}, {math.MaxInt, math.MaxInt, false},
		{math.MaxInt, 0, true}, {math.MaxInt, math.MinInt, true}, {1 << 32, 1<<32 - 1, true}, {1 << 32, 1 << 32, false},
	} {
		if got := lease.Valid(x.until, x.now); got != x.want {
			t.Errorf("Valid(%d, %d): %v", x.until, x.now, got)
		}
	}
}

// P16.1: a lease holds for LeaseTime ticks.
func TestLease(t *testing.T) {
	for _, now := range []int{-7, 0, 1, 99, 1 << 33, latest - 41, latest - 40} {
		until, from := lease.Until(now), max(now, 0)
		for tick := range 3 * api.LeaseTime {
			if lease.Valid(until, from+tick) != (tick < api.LeaseTime) {
				t.Fatalf("a lease of %d at %d: %v", now, from+tick, lease.Valid(until, from+tick))
			}
		}
	}
}

// P16.2: an empty list, and one list apart from another one.
func TestNew(t *testing.T) {
	l, other := lease.New(), lease.New()
	for _, now := range []int{math.MinInt, -1, 0, 1, latest, math.MaxInt} {
		due(t, l, now)
	}
	waits(t, l)
	retire(t, l, 1, 2, 3)
	waits(t, l, [2]int{1, 2})
	waits(t, other)
	due(t, other, math.MaxInt)
}

// P16.2: due at its time, not one ahead of it, and behind it.
func TestDue(t *testing.T) {
	for _, x := range []struct{ now, from int }{
		{0, wait}, {1, wait + 1}, {10, wait + 10}, {-1, wait}, {-100, wait}, {math.MinInt, wait}, {1 << 35, 1<<35 + wait},
		{latest - wait - 1, latest - 1}, {latest - wait, latest},
	} {
		for _, behind := range []int{0, 1, 2, 1000, latest, math.MaxInt - x.from} {
			l := lease.New()
			retire(t, l, 7, 3, x.now)
			for _, early := range []int{math.MinInt, -1, 0, x.from - 2, x.from - 1} {
				due(t, l, early)
			}
			waits(t, l, [2]int{7, 3})
			due(t, l, x.from+behind, [2]int{7, 3})
			waits(t, l)
			due(t, l, math.MaxInt)
		}
	}
}

// P16.2: what waits until a time beyond 2^40 waits for ever, as no time counts
// as more.
func TestNeverDue(t *testing.T) {
	for _, now := range []int{latest - wait + 1, latest - 1, latest, latest + 1, math.MaxInt} {
		l := lease.New()
		retire(t, l, 7, 3, now)
		for _, at := range []int{0, latest - 1, latest, latest + wait, latest + wait + 1, math.MaxInt} {
			due(t, l, at)
		}
		waits(t, l, [2]int{7, 3})
		keep(t, l, 7, 3)
		waits(t, l)
	}
}

// P16.2: a shard that is retired twice waits as it did at first.
func TestRetireTwice(t *testing.T) {
	for _, again := range []int{0, 9, 10, 11, 50, 1000, math.MinInt, math.MaxInt} {
		l := lease.New()
		retire(t, l, 5, 0, 10)
		retire(t, l, 5, 0, again)
		retire(t, l, 5, 0, again)
		waits(t, l, [2]int{5, 0})
		due(t, l, 10+wait-1)
		due(t, l, 10+wait, [2]int{5, 0})
		due(t, l, math.MaxInt)
		retire(t, l, 5, 0, 200) // which does not wait any more
		due(t, l, 200+wait-1)
		due(t, l, 200+wait, [2]int{5, 0})
	}
}

// P16.2: what is kept waits no more; what did not wait is kept too.
func TestKeep(t *testing.T) {
	l := lease.New()
	keep(t, l, 5, 0)
	waits(t, l)
	retire(t, l, 5, 0, 10)
	retire(t, l, 5, 1, 10)
	retire(t, l, 6, 0, 20)
	keep(t, l, 5, 2)
	keep(t, l, 0, 5)
	keep(t, l, 7, 0)
	waits(t, l, [2]int{5, 0}, [2]int{5, 1}, [2]int{6, 0})
	keep(t, l, 5, 0)
	keep(t, l, 5, 0)
	waits(t, l, [2]int{5, 1}, [2]int{6, 0})
	retire(t, l, 5, 0, 30) // its time begins anew
	due(t, l, 10+wait, [2]int{5, 1})
	due(t, l, 20+wait, [2]int{6, 0})
	keep(t, l, 6, 0)
	due(t, l, 30+wait-1)
	due(t, l, 30+wait, [2]int{5, 0})
	waits(t, l)
}

// P16.2: shards of one blob and of many, of any numbers, in any order of their
// times: told rising by blob, then by index.
func TestOrder(t *testing.T) {
	shards := [][2]int{
		{math.MinInt, math.MaxInt}, {-3, 9}, {-1, 0}, {0, -1}, {0, 0}, {0, 1}, {1, -5}, {2, 0}, {2, 1}, {2, 10}, {10, math.MinInt}, {10, 0}, {math.MaxInt, 0},
	}
	for _, step := range []int{1, 2, 5, 7, 11, 12} {
		for _, spread := range []int{0, 1, -1, 3} {
			l := lease.New()
			for i := range shards {
				x := shards[i*step%len(shards)]
				retire(t, l, x[0], x[1], 100+i*spread)
			}
			waits(t, l, shards...)
			due(t, l, 100+wait+100, shards...)
		}
	}
}

// P16.2: those whose time has come are told, the others stay.
func TestSomeAreDue(t *testing.T) {
	l := lease.New()
	for i := range 9 {
		retire(t, l, 9-i, i%2, 10*i)
	}
	due(t, l, wait-1)
	due(t, l, wait, [2]int{9, 0})
	due(t, l, wait+39, [2]int{6, 1}, [2]int{7, 0}, [2]int{8, 1})
	due(t, l, wait)
	waits(t, l, [2]int{1, 0}, [2]int{2, 1}, [2]int{3, 0}, [2]int{4, 1}, [2]int{5, 0})
	keep(t, l, 3, 0)
	due(t, l, wait+80, [2]int{1, 0}, [2]int{2, 1}, [2]int{4, 1}, [2]int{5, 0})
}

// Lists that no call made.
func TestNil(t *testing.T) {
	for _, l := range []*lease.List{nil, {}} {
		for range 2 {
			for _, n := range []int{math.MinInt, -1, 0, 1, 5, math.MaxInt} {
				if e := l.Retire(n, n, n); e != api.ErrNil {
					t.Fatalf("Retire: error %d", e)
				}
				if e := l.Keep(n, n); e != api.ErrNil {
					t.Fatalf("Keep: error %d", e)
				}
				due(t, l, n)
				waits(t, l)
			}
		}
	}
}

// What is told may be written over, and stays as it was told.
func TestAnswersAreNewMemory(t *testing.T) {
	l := lease.New()
	var want [][2]int
	for i := range 5 {
		want = append(want, [2]int{i, i})
		retire(t, l, i, i, 10)
	}
	one, two := l.All(), l.All()
	clear(one[:cap(one)])
	are(t, "All", two, want...)
	waits(t, l, want...)
	told := l.Due(10 + wait)
	are(t, "Due", told, want...)
	for i := range 9 {
		retire(t, l, 50+i, 0, 10)
	}
	are(t, "All, told ahead", two, want...)
	are(t, "Due, told ahead", told, want...)
	clear(told[:cap(told)])
	clear(two[:cap(two)])
	if n := len(l.Due(10 + wait)); n != 9 {
		t.Fatalf("%d are due, want 9", n)
	}
}
