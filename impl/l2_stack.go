package impl

// stack is a row of items of which the last one is taken first.
type stack[T any] struct{ items []T }

func (s *stack[T]) height() int { return len(s.items) }

func (s *stack[T]) push(items ...T) { s.items = append(s.items, items...) }

// pop takes the last item; there must be one.
func (s *stack[T]) pop() T {
	last := s.items[len(s.items)-1]
	s.cut(len(s.items) - 1)
	return last
}

// top is the last item; the zero value when there is none.
func (s *stack[T]) top() T {
	var last T
	if len(s.items) > 0 {
		last = s.items[len(s.items)-1]
	}
	return last
}

// cut drops all items above a height.
func (s *stack[T]) cut(height int) {
	clear(s.items[height:])
	s.items = s.items[:height]
}
