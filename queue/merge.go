package queue

import (
	"cmp"
	"slices"

	"spyglass/api"
)

// rest is what is left of a list, a thing at least, and which one of the lists it is of.
type rest[T any] struct {
	things []T
	list   int
}

// Merge is the things of lists that are in order, in order.
func Merge[T any](order func(a, b T) int, lists ...[]T) ([]T, api.Errno) {
	if order == nil {
		return nil, api.ErrNil
	}
	order = calm(order)
	falls := func(l []T) bool { return !rises(order, l) }
	if slices.ContainsFunc(lists, falls) {
		return nil, api.ErrOrder
	}
	// The next one of all is the first one of some rest.
	rests := empty(func(a, b rest[T]) int {
		return cmp.Or(order(a.things[0], b.things[0]), cmp.Compare(a.list, b.list))
	})
	for i, l := range lists {
		if len(l) > 0 {
			rests.Put(rest[T]{l, i})
		}
	}
	return left(rests), api.OK
}

// rises tells whether no thing of a list is behind the next one.
func rises[T any](order func(a, b T) int, l []T) bool {
	for i := 1; i < len(l); i++ {
		if order(l[i-1], l[i]) > 0 {
			return false
		}
	}
	return true
}

// left is the things of rests, as they leave them.
func left[T any](rests *Queue[rest[T]]) []T {
	var all []T
leave:
	for {
		r, e := rests.Take()
		switch {
		case e != api.OK:
			break leave
		case len(r.things) > 1:
			rests.Put(rest[T]{r.things[1:], r.list})
		}
		all = append(all, r.things[0])
	}
	return all
}
