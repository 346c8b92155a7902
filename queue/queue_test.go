package queue_test

import (
	"cmp"
	"math"
	"runtime"
	"slices"
	"strings"
	"testing"
	"weak"

	"spyglass/api"
	"spyglass/queue"
)

// thing is one of which only the rank counts in an order; the name tells it from others of that rank.
type thing struct {
	rank int
	name string
}

// orders is orders of things, right ones all.
func orders() map[string]func(a, b thing) int {
	return map[string]func(a, b thing) int{
		"up":      func(a, b thing) int { return cmp.Compare(a.rank, b.rank) },
		"down":    func(a, b thing) int { return b.rank - a.rank },
		"far":     func(a, b thing) int { return cmp.Compare(a.rank, b.rank) * math.MaxInt },
		"odd":     func(a, b thing) int { return a.rank%2 - b.rank%2 },
		"as far":  func(a, b thing) int { return 0 },
		"by name": func(a, b thing) int { return strings.Compare(a.name, b.name) },
		// the least number has no other way round
		"least": func(a, b thing) int {
			switch {
			case a.rank < b.rank:
				return math.MinInt
			case a.rank > b.rank:
				return math.MaxInt
			}
			return 0
		},
	}
}

// fools is what may be handed in as an order, but is none.
func fools() map[string]func(a, b thing) int {
	n := 0
	return map[string]func(a, b thing) int{
		"ahead":     func(a, b thing) int { return -1 },
		"behind":    func(a, b thing) int { return 1 },
		"in turn":   func(a, b thing) int { n++; return n%3 - 1 },
		"round":     func(a, b thing) int { return (a.rank-b.rank+4)%3 - 1 },
		"panics":    func(a, b thing) int { panic("no order") },
		"sometimes": func(a, b thing) int { return 1 / (a.rank - b.rank) },
	}
}

// made is a queue by an order, which New must answer.
func made[T any](t *testing.T, order func(a, b T) int) *queue.Queue[T] {
	t.Helper()
	q, e := queue.New(order)
	if q == nil || e != api.OK || q.Len() != 0 {
		t.Fatal(q, e)
	}
	return q
}

// ahead is, by other means, the place of the thing of a list that leaves it next.
func ahead[T any](order func(a, b T) int, l []T) int {
	at := 0
	for i := range l {
		if order(l[at], l[i]) > 0 {
			at = i
		}
	}
	return at
}

// holdNext holds Len, Peek and, if it is to be taken, Take against the list of what is in, and answers what is in still.
func holdNext(t *testing.T, q *queue.Queue[thing], order func(a, b thing) int, in []thing, take bool) []thing {
	t.Helper()
	var want thing
	wrong, at := api.ErrNone, -1
	if len(in) > 0 {
		at = ahead(order, in)
		want, wrong = in[at], api.OK
	}
	for range 2 {
		if x, e := q.Peek(); x != want || e != wrong || q.Len() != len(in) {
			t.Fatalf("Peek of %v: %v, %v, and %v are in", in, x, e, q.Len())
		}
	}
	if !take {
		return in
	}
	if x, e := q.Take(); x != want || e != wrong {
		t.Fatalf("Take of %v: %v, %v", in, x, e)
	}
	if at >= 0 {
		in = slices.Delete(slices.Clone(in), at, at+1)
	}
	if q.Len() != len(in) {
		t.Fatalf("%v are left of %v", q.Len(), in)
	}
	return in
}

// holdCalls holds a row of calls against a list: number 0 takes, another one puts a thing of that rank.
func holdCalls(t *testing.T, order func(a, b thing) int, calls []int) {
	t.Helper()
	q := made(t, order)
	var in []thing
	for i, c := range calls {
		if c == 0 {
			in = holdNext(t, q, order, in, true)
			continue
		}
		x := thing{c, string(rune('a' + i))}
		if e := q.Put(x); e != api.OK {
			t.Fatal(e)
		}
		in = holdNext(t, q, order, append(in, x), false)
	}
	for range len(in) + 2 {
		in = holdNext(t, q, order, in, true)
	}
}

func TestP6_1_New(t *testing.T) {
	q, e := queue.New(func(a, b int) int { return a - b })
	if q == nil || e != api.OK || q.Len() != 0 {
		t.Error(q, e)
	}
	if q, e := queue.New[int](nil); q != nil || e != api.ErrNil {
		t.Error(q, e)
	}
	if q, e := queue.New[thing](nil); q != nil || e != api.ErrNil {
		t.Error(q, e)
	}
	var none func(a, b string) int
	if q, e := queue.New(none); q != nil || e != api.ErrNil {
		t.Error(q, e)
	}
}

func TestP6_1_Nil(t *testing.T) {
	var q *queue.Queue[thing]
	for range 2 {
		if e := q.Put(thing{1, "a"}); e != api.ErrNil {
			t.Error(e)
		}
		if x, e := q.Take(); x != (thing{}) || e != api.ErrNil {
			t.Error(x, e)
		}
		if x, e := q.Peek(); x != (thing{}) || e != api.ErrNil {
			t.Error(x, e)
		}
		if n := q.Len(); n != 0 {
			t.Error(n)
		}
	}
}

func TestP6_1_None(t *testing.T) {
	q := made(t, orders()["up"])
	for range 3 {
		if x, e := q.Take(); x != (thing{}) || e != api.ErrNone || q.Len() != 0 {
			t.Error(x, e, q.Len())
		}
		if x, e := q.Peek(); x != (thing{}) || e != api.ErrNone || q.Len() != 0 {
			t.Error(x, e, q.Len())
		}
		if e := q.Put(thing{1, "a"}); e != api.OK || q.Len() != 1 {
			t.Error(e, q.Len())
		}
		if x, e := q.Take(); x != (thing{1, "a"}) || e != api.OK || q.Len() != 0 {
			t.Error(x, e, q.Len())
		}
	}
}

func TestP6_1_Calls(t *testing.T) {
	for _, c := range []struct {
		order string
		calls []int
	}{
		{"up", []int{3, 1, 2}},
		{"up", []int{3, 1, 3, 2, 1, 0, 0, 0, 3, 1}},
		{"up", []int{1, 1, 1, 0, 1, 0, 1, 0, 1}},
		{"up", []int{0, 1, 0, 0, 2, 1, 0, 0, 0}},
		{"up", []int{math.MaxInt, math.MinInt, 1, math.MinInt, math.MaxInt}},
		{"down", []int{3, 1, 2}},
		{"down", []int{1, 2, 1, 2, 0, 3, 0, 2, 1}},
		{"far", []int{2, 1, 2, 1, 3, 0, 1}},
		{"least", []int{2, 1, 2, 1, 3, 0, 1}},
		{"odd", []int{1, 2, 3, 4, 5, 6, 0, 0, 8, 7}},
		{"as far", []int{1, 2, 3, 2, 1, 0, 0, 4, 1, 0, 1}},
		{"by name", []int{5, 4, 3, 2, 1, 0, 7, 0, 8}},
	} {
		holdCalls(t, orders()[c.order], c.calls)
	}
}

// All rows of calls of up to seven, of three ranks.
func TestP6_1_CallsAll(t *testing.T) {
	order := orders()["up"]
	for n := range 8 {
		calls := make([]int, n)
		for more := true; more; more = next(calls, 4) {
			holdCalls(t, order, calls)
		}
	}
	for name, order := range orders() {
		calls := make([]int, 5)
		for more := true; more; more = next(calls, 5) {
			holdCalls(t, order, calls)
		}
		if t.Failed() {
			t.Fatal(name)
		}
	}
}

// next is the next row of numbers below a bound, if there is one more.
func next(l []int, bound int) bool {
	for i := range l {
		if l[i]++; l[i] < bound {
			return true
		}
		l[i] = 0
	}
	return false
}

// What is put may be of any type, and be nothing.
func TestP6_1_Types(t *testing.T) {
	texts := made(t, strings.Compare)
	for _, s := range []string{"b", "", "a", "ba"} {
		texts.Put(s)
	}
	for _, want := range []string{"", "a", "b", "ba"} {
		if s, e := texts.Take(); s != want || e != api.OK {
			t.Errorf("%q, %v", s, e)
		}
	}
	lists := made(t, slices.Compare[[]int])
	lists.Put([]int{1, 2})
	lists.Put(nil)
	lists.Put([]int{1})
	for n := range 3 {
		if l, e := lists.Take(); len(l) != n || e != api.OK {
			t.Error(l, e)
		}
	}
	wraps := made(t, func(a, b any) int { return 0 })
	for _, x := range []any{nil, 1, nil, "a"} {
		if e := wraps.Put(x); e != api.OK {
			t.Error(e)
		}
	}
	for _, want := range []any{nil, 1, nil, "a"} {
		if x, e := wraps.Take(); x != want || e != api.OK {
			t.Error(x, e)
		}
	}
	within := made(t, func(a, b *queue.Queue[string]) int { return a.Len() - b.Len() })
	texts.Put("c")
	within.Put(texts)
	within.Put(nil)
	if q, e := within.Take(); q != nil || e != api.OK {
		t.Error(q, e)
	}
	if q, e := within.Take(); q != texts || e != api.OK {
		t.Error(q, e)
	}
}

// Two queues have nothing in common, and what one answers hangs on its own calls alone.
func TestP6_1_Apart(t *testing.T) {
	a, b := made(t, orders()["up"]), made(t, orders()["down"])
	var inA, inB []thing
	for i := range 20 {
		x := thing{i * 7 % 5, string(rune('a' + i))}
		a.Put(x)
		b.Put(x)
		inA = holdNext(t, a, orders()["up"], append(inA, x), i%3 == 0)
		inB = holdNext(t, b, orders()["down"], append(inB, x), i%4 == 0)
	}
}

// What is taken is not kept.
func TestP6_1_Gone(t *testing.T) {
	q := made(t, func(a, b *thing) int { return cmp.Compare(a.rank, b.rank) })
	gone := func() (l []weak.Pointer[thing]) {
		for i := range 10 {
			x := &thing{i * 3 % 10, strings.Repeat("x", i)}
			q.Put(x)
			l = append(l, weak.Make(x))
		}
		for range 10 {
			q.Take()
		}
		return l
	}()
	runtime.GC()
	for _, x := range gone {
		if x.Value() != nil {
			t.Error(x.Value())
		}
	}
	runtime.KeepAlive(q)
}

// The order may be no order, and yet calls end, and things neither come from nowhere nor get lost.
func TestP6_1_Fools(t *testing.T) {
	for name, order := range fools() {
		q := made(t, order)
		in := map[thing]int{}
		for i := range 100 {
			x := thing{i * 7 % 10, string(rune('a' + i))}
			if e := q.Put(x); e != api.OK {
				t.Error(name, e)
			}
			in[x]++
			if i%3 == 0 {
				y, e := q.Take()
				if in[y]--; e != api.OK {
					t.Error(name, e)
				}
			}
		}
		for range 66 {
			y, e := q.Peek()
			x, f := q.Take()
			if in[x]--; x != y || e != api.OK || f != api.OK {
				t.Error(name, x, y, e, f)
			}
		}
		for x, n := range in {
			if n != 0 {
				t.Error(name, x, n)
			}
		}
		if x, e := q.Take(); x != (thing{}) || e != api.ErrNone || q.Len() != 0 {
			t.Error(name, x, e, q.Len())
		}
	}
}

// What is put is taken, each once, in order, of many too.
func TestP6_3_Taken(t *testing.T) {
	for name, order := range orders() {
		for _, n := range []int{0, 1, 2, 3, 100, 1<<15 + 1} {
			q := made(t, order)
			var want []thing
			for i := range n {
				// Every rank comes up again and again, in no order.
				x := thing{i * 7919 % 1009, string(rune('a' + i*31%26))}
				want = append(want, x)
				q.Put(x)
			}
			slices.SortStableFunc(want, order)
			for i, x := range want {
				if y, e := q.Take(); y != x || e != api.OK || q.Len() != n-1-i {
					t.Fatal(name, i, x, y, e)
				}
			}
			if x, e := q.Take(); x != (thing{}) || e != api.ErrNone {
				t.Error(name, x, e)
			}
		}
	}
}
