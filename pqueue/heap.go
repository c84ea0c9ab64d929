package pqueue

// heap keeps the least of its elements in front. below is their order.
type heap[T any] struct {
	below func(a, b T) bool
	list  []T // no element is below the one at half its place
}

func (h *heap[T]) size() int { return len(h.list) }

// front is the least element; there must be one.
func (h *heap[T]) front() T { return h.list[0] }

func (h *heap[T]) push(x T) {
	h.list = append(h.list, x)
	for i := len(h.list) - 1; i > 0; {
		up := (i - 1) / 2
		if !h.below(h.list[i], h.list[up]) {
			return
		}
		h.list[i], h.list[up] = h.list[up], h.list[i]
		i = up
	}
}

// pop takes the front out.
func (h *heap[T]) pop() T {
	x := h.list[0]
	end := len(h.list) - 1
	h.list[0] = h.list[end]
	h.list = h.list[:end]
	h.sink()
	return x
}

// sink brings the front, which may have risen, to its place.
func (h *heap[T]) sink() {
	for i := 0; ; {
		least := i
		for child := 2*i + 1; child <= 2*i+2 && child < len(h.list); child++ {
			if h.below(h.list[child], h.list[least]) {
				least = child
			}
		}
		if least == i {
			return
		}
		h.list[i], h.list[least] = h.list[least], h.list[i]
		i = least
	}
}
