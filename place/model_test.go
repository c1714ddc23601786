package place_test

import (
	"math"
	"math/big"
	"slices"
	"testing"

	"amphora/api"
	"amphora/place"
)

// turn is members turned by a seed, by the chapter's words.
func turn(list []int, seed int) []int {
	var set []int
	for n := range api.MaxNodes {
		if slices.Contains(list, n) {
			set = append(set, n)
		}
	}
	if len(set) == 0 {
		return nil
	}
	number := big.NewInt(int64(seed))
	if seed < 0 {
		number.Add(number, new(big.Int).Lsh(big.NewInt(1), 64))
	}
	begin := int(number.Mod(number, big.NewInt(int64(len(set)))).Int64())
	return append(slices.Clone(set[begin:]), set[:begin]...)
}

// seeds is ordinary ones, and the edges.
func seeds() []int {
	l := []int{math.MinInt, math.MinInt + 1, math.MinInt + 2, math.MaxInt - 2, math.MaxInt - 1, math.MaxInt, 1 << 32, -(1 << 32), 1<<53 + 1}
	for seed := -18; seed <= 18; seed++ {
		l = append(l, seed)
	}
	return l
}

// sets is all choices of some numbers.
func sets(l []int) [][]int {
	all := [][]int{nil}
	for _, n := range l {
		for _, s := range all[:len(all):len(all)] {
			all = append(all, append(slices.Clone(s), n))
		}
	}
	return all
}

// P14.1: all choices of some members, and each n.
func TestChooseByWords(t *testing.T) {
	for _, members := range sets([]int{15, 3, -1, 0, 8, 14, 16, 3, 1}) {
		for _, seed := range seeds() {
			want := turn(members, seed)
			for n := 1; n <= len(want); n++ {
				chosen(t, members, seed, n, want[:n]...)
			}
			unchosen(t, members, seed, len(want)+1, api.ErrSpare)
			unchosen(t, members, seed, 0, api.ErrArg)
		}
	}
}

// P14.2: all choices of some members, and of used ones.
func TestSpareByWords(t *testing.T) {
	numbers := []int{15, 3, -1, 0, 8, 3}
	for _, members := range sets(numbers) {
		for _, used := range sets([]int{0, 15, 16, 3, 8, 7}) {
			for _, seed := range seeds() {
				left := slices.DeleteFunc(turn(members, seed), func(n int) bool { return slices.Contains(used, n) })
				if len(left) == 0 {
					unspared(t, members, used, seed)
				} else {
					spare(t, members, used, seed, left[0])
				}
			}
		}
	}
}

// begins is where seeds in a row begin; none of the rows passes 2^64.
func begins(count int) []int {
	return []int{0, 1, 5, 1000003, math.MaxInt - count/2, math.MaxInt, math.MinInt, -100, -count}
}

// P14.3: what is chosen is unlike, and of the members; over as many seeds in a
// row as there are members each one is chosen equally often, and as a spare
// one too.
func TestEquallyOften(t *testing.T) {
	lists := append(sets([]int{0, 2, 3, 7, 8, 12, 15}), everyone(), everyone()[1:], everyone()[:13])
	for _, members := range lists {
		for _, begin := range begins(len(members)) {
			for n := 1; n <= len(members); n++ {
				var often [api.MaxNodes]int
				for i := range members {
					for _, node := range unlike(t, members, begin+i, n) {
						often[node]++
					}
				}
				equally(t, members, often, n)
			}
			var often [api.MaxNodes]int
			for i := range members {
				node, e := place.Spare(members, nil, begin+i)
				if e != api.OK {
					t.Fatalf("Spare(%v, nil, %d): error %d", members, begin+i, e)
				}
				often[node]++
			}
			if len(members) > 0 {
				equally(t, members, often, 1)
			}
		}
	}
}

// unlike is what is chosen, once it is unlike and of the members.
func unlike(t *testing.T, members []int, seed, n int) []int {
	t.Helper()
	l, e := place.Choose(members, seed, n)
	if e != api.OK || len(l) != n {
		t.Fatalf("Choose(%v, %d, %d): %v, error %d", members, seed, n, l, e)
	}
	for i, node := range l {
		if slices.Contains(l[:i], node) || !slices.Contains(members, node) {
			t.Fatalf("Choose(%v, %d, %d): %v", members, seed, n, l)
		}
	}
	return l
}

// equally has each member have been chosen so often.
func equally(t *testing.T, members []int, often [api.MaxNodes]int, want int) {
	t.Helper()
	for _, node := range members {
		if often[node] != want {
			t.Fatalf("of %v they are chosen so often: %v, each %d times", members, often, want)
		}
	}
}
