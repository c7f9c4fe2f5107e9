package replay

import "lattice/api"

// waiting is a record that waits for its worker.
type waiting struct {
	api.Record
	point int // the last LSN ahead of it at which a point may be consistent
}

// queue are the records that wait for a worker, in a row behind some that it has done.
type queue struct {
	row  []waiting
	done int
}

// waits is how many wait.
func (q *queue) waits() int { return len(q.row) - q.done }

// first is the first that waits.
func (q *queue) first() (waiting, bool) {
	if q.waits() == 0 {
		return waiting{}, false
	}
	return q.row[q.done], true
}

// add has a record wait behind all others.
func (q *queue) add(x waiting) { q.row = append(q.row, x) }

// cut takes the first away. Where no more wait than are done, the row is cut at its front, and without room behind it: the next one that is added has those that wait move to memory of their own, so that what is done is let go. For fewer that are done it would not be worth the moving.
func (q *queue) cut() {
	q.row[q.done] = waiting{}
	q.done++
	if q.waits() <= q.done {
		q.row, q.done = q.row[q.done:len(q.row):len(q.row)], 0
	}
}
