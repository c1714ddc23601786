package lease

import (
	"cmp"
	"container/heap"
)

// wait is a shard (its blob, its index), and until when it waits.
type wait struct {
	shard [2]int
	until int
}

// rising orders shards by their blobs, then by their indexes.
func rising(a, b [2]int) int {
	return cmp.Or(cmp.Compare(a[0], b[0]), cmp.Compare(a[1], b[1]))
}

// waiting is a heap with the least time on top. It knows where each shard
// stands in it, so that one can be taken out from the midst, and none that is
// kept is left behind.
type waiting struct {
	list   []wait
	places map[[2]int]int
}

func (w *waiting) Len() int           { return len(w.list) }
func (w *waiting) Less(i, j int) bool { return w.list[i].until < w.list[j].until }

func (w *waiting) Swap(i, j int) {
	w.list[i], w.list[j] = w.list[j], w.list[i]
	w.places[w.list[i].shard], w.places[w.list[j].shard] = i, j
}

func (w *waiting) Push(x any) {
	next := x.(wait)
	w.places[next.shard] = len(w.list)
	w.list = append(w.list, next)
}

func (w *waiting) Pop() any {
	end := len(w.list) - 1
	last := w.list[end]
	w.list = w.list[:end]
	delete(w.places, last.shard)
	return last
}

// add has a shard wait, unless it does already.
func (w *waiting) add(x wait) {
	if _, ok := w.places[x.shard]; !ok {
		heap.Push(w, x)
	}
}

// drop has a shard wait no more, if it does.
func (w *waiting) drop(shard [2]int) {
	if at, ok := w.places[shard]; ok {
		heap.Remove(w, at)
	}
}

// upTo tells whether one waits until then, or less.
func (w *waiting) upTo(time int) bool { return w.Len() > 0 && w.list[0].until <= time }

// take is the shard on top, which waits no more.
func (w *waiting) take() [2]int { return heap.Pop(w).(wait).shard }
