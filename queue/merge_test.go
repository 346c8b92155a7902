package queue_test

import (
	"math"
	"slices"
	"strconv"
	"testing"

	"spyglass/api"
	"spyglass/queue"
)

// named is lists of things of ranks, each of a name of its own.
func named(ranks ...[]int) [][]thing {
	var lists [][]thing
	for i, l := range ranks {
		var things []thing
		for j, n := range l {
			things = append(things, thing{n, strconv.Itoa(i) + " " + strconv.Itoa(j)})
		}
		lists = append(lists, things)
	}
	return lists
}

// holdMerge holds Merge of lists against a list of all things, sorted by other means, and answers its error.
func holdMerge(t *testing.T, order func(a, b thing) int, lists [][]thing) api.Errno {
	t.Helper()
	want, wrong := slices.Concat(lists...), api.OK
	slices.SortStableFunc(want, order)
	for _, l := range lists {
		for i, x := range l {
			if i > 0 && order(x, l[i-1]) < 0 {
				want, wrong = nil, api.ErrOrder
			}
		}
	}
	l, e := queue.Merge(order, lists...)
	if !slices.Equal(l, want) || e != wrong {
		t.Fatalf("%v: %v, %v", lists, l, e)
	}
	return e
}

func TestP6_2_Merge(t *testing.T) {
	for i, c := range []struct {
		order string
		ranks [][]int
		e     api.Errno
	}{
		{"up", [][]int{{1, 3}, {2}}, api.OK},
		{"up", nil, api.OK},
		{"up", [][]int{nil}, api.OK},
		{"up", [][]int{nil, {}, nil}, api.OK},
		{"up", [][]int{{5}}, api.OK},
		{"up", [][]int{{1, 2, 2, 3}}, api.OK},
		{"up", [][]int{nil, {2}, {}, {1}, nil}, api.OK},
		{"up", [][]int{{1, 2}, nil, {1, 1, 3}, {0}}, api.OK},
		{"up", [][]int{{1, 1, 1}, {1, 1}, {1}}, api.OK},
		{"up", [][]int{{1}, {1, 1}, {1, 1, 1}}, api.OK},
		{"up", [][]int{{4, 5, 6}, {1, 2, 3}}, api.OK},
		{"up", [][]int{{2, 2}, {1, 2, 3}, {2, 2}}, api.OK},
		{"up", [][]int{{math.MinInt, math.MaxInt}, {0, math.MaxInt}, {math.MinInt}}, api.OK},
		{"down", [][]int{{3, 1}, {2}}, api.OK},
		{"odd", [][]int{{2, 8, 4, 1, 7, 3}, {6, 2, 5}, {9, 1}}, api.OK},
		{"far", [][]int{{1, 3}, {1, 2, 3}}, api.OK},
		{"least", [][]int{{1, 3}, {1, 2, 3}}, api.OK},
		{"as far", [][]int{{3, 1, 2}, {2, 9}, {0}}, api.OK},
		// ErrOrder
		{"up", [][]int{{2, 1}}, api.ErrOrder},
		{"up", [][]int{{1, 2, 3, 2}, {1}}, api.ErrOrder},
		{"up", [][]int{{1}, {2}, {1, 0}}, api.ErrOrder},
		{"up", [][]int{nil, {1, 3, 2, 3}, nil}, api.ErrOrder},
		{"down", [][]int{{3, 1}, {2, 3}}, api.ErrOrder},
		{"odd", [][]int{{2, 8, 4, 1, 7, 6}}, api.ErrOrder},
		{"far", [][]int{{1}, {3, 2}}, api.ErrOrder},
		{"least", [][]int{{3, 2}, {1}}, api.ErrOrder},
	} {
		if e := holdMerge(t, orders()[c.order], named(c.ranks...)); e != c.e {
			t.Errorf("%d: %v", i, e)
		}
	}
}

// Up to three lists of up to three things of three ranks: all of them.
func TestP6_2_MergeAll(t *testing.T) {
	var lists [][]int
	for n := range 4 {
		l := make([]int, n)
		for more := true; more; more = next(l, 3) {
			lists = append(lists, slices.Clone(l))
		}
	}
	seen := map[api.Errno]int{}
	for _, a := range lists {
		for _, b := range lists {
			for name, order := range orders() {
				if seen[holdMerge(t, order, named(a, b))]++; t.Failed() {
					t.Fatal(name)
				}
			}
			for _, c := range lists {
				seen[holdMerge(t, orders()["up"], named(a, b, c))]++
			}
		}
	}
	if len(seen) != 2 {
		t.Error(seen)
	}
}

func TestP6_2_Nil(t *testing.T) {
	for _, lists := range [][][]int{nil, {nil}, {{1}}, {{1, 2}, {2}}, {{2, 1}}} {
		if l, e := queue.Merge(nil, lists...); len(l) > 0 || e != api.ErrNil {
			t.Error(lists, l, e)
		}
	}
	if l, e := queue.Merge[thing](nil); len(l) > 0 || e != api.ErrNil {
		t.Error(l, e)
	}
}

// Lists stay as they are, to their length and behind it, and what is answered is none of them.
func TestP6_2_Memory(t *testing.T) {
	order := orders()["up"]
	for _, n := range []int{0, 1, 2, 5} {
		for _, fault := range []bool{false, true} {
			var lists, before [][]thing
			for i := range n {
				l := make([]thing, 10)
				for j := range l {
					l[j] = thing{j - j%3, strconv.Itoa(i)}
				}
				if fault {
					l[4].rank = -1
				}
				before = append(before, slices.Clone(l))
				lists = append(lists, l[:5])
			}
			l, _ := queue.Merge(order, lists...)
			for i := range l[:cap(l)] {
				l[:cap(l)][i] = thing{-5, "x"}
			}
			for i := range lists {
				if !slices.Equal(lists[i][:10], before[i]) || len(lists[i]) != 5 {
					t.Error(n, i, lists[i])
				}
			}
		}
	}
}

// The same list may be there more than once, and many may.
func TestP6_2_Many(t *testing.T) {
	l := named([]int{1, 2, 2, 9})[0]
	holdMerge(t, orders()["up"], slices.Repeat([][]thing{l}, 1000))
	var ranks [][]int
	for i := range 3000 {
		var l []int
		for j := range i % 40 {
			l = append(l, i*31%101+j*j%41*(j%2)+j*41)
		}
		slices.Sort(l)
		ranks = append(ranks, l)
	}
	holdMerge(t, orders()["up"], named(ranks...))
	long := make([]int, 1<<16)
	for i := range long {
		long[i] = i / 3
	}
	holdMerge(t, orders()["up"], named(long, []int{0, 1, 20000, 20000}, long[:1<<15]))
}

// The order may be no order, and yet Merge ends: a list falls, or all things are there.
func TestP6_2_Fools(t *testing.T) {
	for name, order := range fools() {
		for _, ranks := range [][][]int{nil, {{1}}, {{1}, {2}, {0}}, {{1, 2, 3, 4, 5, 6}}, {{1, 2, 0}, {2, 0, 1}, {0, 0}, {9, 8}}} {
			lists := named(ranks...)
			l, e := queue.Merge(order, lists...)
			all := slices.Concat(lists...)
			if e == api.ErrOrder {
				all = nil
			} else if e != api.OK {
				t.Error(name, e)
			}
			slices.SortFunc(l, orders()["by name"])
			slices.SortFunc(all, orders()["by name"])
			if !slices.Equal(l, all) {
				t.Error(name, lists, l, e)
			}
		}
	}
	always := func(a, b int) int { return 1 }
	if l, e := queue.Merge(always, []int{1, 1}); len(l) > 0 || e != api.ErrOrder {
		t.Error(l, e)
	}
	if l, e := queue.Merge(always, []int{1}, []int{2}); len(l) != 2 || e != api.OK {
		t.Error(l, e)
	}
}

// What is merged has each list's things in their order.
func TestP6_3_Merged(t *testing.T) {
	for name, order := range orders() {
		lists := named([]int{4, 2, 0, 1, 3}, []int{2, 2, 2}, []int{0, 4, 4, 0}, []int{1}, nil)
		for _, l := range lists {
			slices.SortStableFunc(l, order)
		}
		all, e := queue.Merge(order, lists...)
		if e != api.OK {
			t.Error(name, e)
		}
		for i, l := range lists {
			var of []thing
			for _, x := range all {
				if x.name[0] == byte('0'+i) {
					of = append(of, x)
				}
			}
			if !slices.Equal(of, l) {
				t.Error(name, l, of)
			}
		}
	}
}
