package queue

// thing is one that was put, and how many were put ahead of it: of those that are as far, none else tells which came first.
type thing[T any] struct {
	x    T
	turn int
}

// pile is things as container/heap wants them.
type pile[T any] struct {
	things []thing[T]
	ahead  func(a, b thing[T]) bool
}

// Len is how many there are.
func (p *pile[T]) Len() int { return len(p.things) }

// Less tells whether one is ahead of another.
func (p *pile[T]) Less(i, j int) bool { return p.ahead(p.things[i], p.things[j]) }

// Swap puts two in each other's place.
func (p *pile[T]) Swap(i, j int) { p.things[i], p.things[j] = p.things[j], p.things[i] }

// Push puts one behind the last one.
func (p *pile[T]) Push(x any) { p.things = append(p.things, x.(thing[T])) }

// Pop takes the last one.
func (p *pile[T]) Pop() any {
	last := p.Len() - 1
	x := p.things[last]
	// What is taken is not kept.
	clear(p.things[last:])
	p.things = p.things[:last]
	return x
}
