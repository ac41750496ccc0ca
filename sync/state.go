package sync

import (
	"iter"
	"slices"
)

// nobody is the owner of a mutex that is no thread's.
const nobody = -1

// condition is a queue of the threads that wait at it.
type condition struct{ queue[int] }

// channel is a queue of the values in it.
type channel struct {
	queue[int64]
	room int
	sent int // how many ever were: values are numbered by it
}

func (c *channel) full() bool { return len(c.rest) >= c.room }

// send tells the value's number.
func (c *channel) send(v int64) int {
	c.put(v)
	c.sent++
	return c.sent - 1
}

// recv tells the value and its number; false, if there is none.
func (c *channel) recv() (int64, int, bool) {
	number := c.sent - len(c.rest)
	v, ok := c.take()
	if !ok {
		return 0, 0, false
	}
	return v, number, true
}

// state is what a Sync has; what it lists it shares.
type state struct {
	made   bool  // by New, or Copy: one of nothing at all is another thing than none
	owners []int // of the mutexes
	conds  []condition
	chans  []channel
}

// has tells an empty state, where there is no Sync.
func (s *Sync) has() state {
	if s == nil {
		return state{}
	}
	return s.state
}

// waiting goes over all threads that wait, at whichever condition.
func (s state) waiting() iter.Seq[int] {
	return func(yield func(int) bool) {
		for _, c := range s.conds {
			for _, t := range c.rest {
				if !yield(t) {
					return
				}
			}
		}
	}
}

func (s state) waits(t int) bool {
	for other := range s.waiting() {
		if other == t {
			return true
		}
	}
	return false
}

func (s state) copied() state {
	s.owners, s.conds, s.chans = slices.Clone(s.owners), slices.Clone(s.conds), slices.Clone(s.chans)
	for i := range s.conds {
		s.conds[i].part()
	}
	for i := range s.chans {
		s.chans[i].part()
	}
	return s
}

func (s state) same(other state) bool {
	return s.made == other.made && slices.Equal(s.owners, other.owners) &&
		slices.EqualFunc(s.conds, other.conds, func(c, d condition) bool { return c.same(d.queue) }) &&
		slices.EqualFunc(s.chans, other.chans, func(c, d channel) bool {
			return c.room == d.room && c.sent == d.sent && c.same(d.queue)
		})
}
