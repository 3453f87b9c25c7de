package pending

// place is a vector of a device.
type place struct {
	device int
	vector int
}

// row is a heap of places, by device, then by vector; its methods are those that container/heap asks for.
type row []place

// Len is how many places there are.
func (r row) Len() int {
	return len(r)
}

// Less tells whether place i comes ahead of place j.
func (r row) Less(i int, j int) bool {
	if r[i].device != r[j].device {
		return r[i].device < r[j].device
	}
	return r[i].vector < r[j].vector
}

// Swap puts two places each where the other one was.
func (r row) Swap(i int, j int) {
	r[i], r[j] = r[j], r[i]
}

// Push puts a place behind the others.
func (r *row) Push(x any) {
	*r = append(*r, x.(place))
}

// Pop takes the last place away.
func (r *row) Pop() any {
	last := len(*r) - 1
	p := (*r)[last]
	*r = (*r)[:last]
	return p
}
