package shape

// stack is a list whose last item is the top.
type stack[T any] struct {
	items []T
}

func (s *stack[T]) push(x T) {
	s.items = append(s.items, x)
}

// drop is asked only where there is a top.
func (s *stack[T]) drop() {
	s.items = s.items[:len(s.items)-1]
}

func (s *stack[T]) size() int {
	return len(s.items)
}

// top answers nil if there is none.
func (s *stack[T]) top() *T {
	return s.first(func(T) bool { return true })
}

// first answers the one nearest to the top that is wanted; nil, if there is
// none.
func (s *stack[T]) first(wanted func(T) bool) *T {
	for i := len(s.items) - 1; i >= 0; i-- {
		if wanted(s.items[i]) {
			return &s.items[i]
		}
	}
	return nil
}

// each goes from the lowest item to the top.
func (s *stack[T]) each(visit func(T)) {
	for _, x := range s.items {
		visit(x)
	}
}
