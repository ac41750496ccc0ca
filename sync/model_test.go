package sync_test

import (
	"slices"
	"testing"

	"warp/api"
	"warp/sync"
)

// model says by other means what a Sync must say: it keeps what was done alone, and asks that for all that stands.
type model struct {
	mutexes, conds int
	rooms          []int
	done           []call // Lock, Unlock, Send, Recv that were done; Wait, and Wake, of each thread apart
}

func (m *model) did(name string, n, x int) { m.done = append(m.done, call{name, n, x}) }

// first tells the first of errors that holds.
func first(errors ...api.Errno) api.Errno {
	for _, e := range errors {
		if e != api.OK {
			return e
		}
	}
	return api.OK
}

func unless(holds bool, e api.Errno) api.Errno {
	if holds {
		return api.OK
	}
	return e
}

func inRange(n, of int) api.Errno { return unless(0 <= n && n < of, api.ErrRange) }

func aThread(t int) api.Errno { return unless(0 <= t && t <= 7, api.ErrArg) }

func (m *model) owner(n int) int {
	owner := -1
	for _, c := range m.done {
		if c.n == n && c.name == "Lock" {
			owner = c.x
		} else if c.n == n && c.name == "Unlock" {
			owner = -1
		}
	}
	return owner
}

// waits tells those who wait at a condition; -1 is each.
func (m *model) waits(n int) []int {
	var l []int
	for i, c := range m.done {
		if c.name == "Wait" && (n == -1 || c.n == n) && !slices.Contains(m.done[i:], call{"Wake", c.n, c.x}) {
			l = append(l, c.x)
		}
	}
	return l
}

// counts tells how often something was done to a channel, and with what.
func (m *model) counts(name string, n int) []int64 {
	var l []int64
	for _, c := range m.done {
		if c.name == name && c.n == n {
			l = append(l, int64(c.x))
		}
	}
	return l
}

func (m *model) values(n int) []int64 { return m.counts("Send", n)[len(m.counts("Recv", n)):] }

func (m *model) Owner(n int) (int, api.Errno) {
	if e := inRange(n, m.mutexes); e != api.OK {
		return 0, e
	}
	return m.owner(n), api.OK
}

func (m *model) Lock(n, t int) (bool, api.Errno) {
	if e := first(inRange(n, m.mutexes), aThread(t)); e != api.OK {
		return false, e
	}
	if m.owner(n) != -1 {
		return false, api.OK
	}
	m.did("Lock", n, t)
	return true, api.OK
}

func (m *model) Unlock(n, t int) api.Errno {
	e := first(inRange(n, m.mutexes), aThread(t), unless(m.owner(n) == t, api.ErrOwner))
	if e == api.OK {
		m.did("Unlock", n, t)
	}
	return e
}

func (m *model) Wait(n, t int) api.Errno {
	e := first(inRange(n, m.conds), aThread(t), unless(!slices.Contains(m.waits(-1), t), api.ErrWaits))
	if e == api.OK {
		m.did("Wait", n, t)
	}
	return e
}

func (m *model) Waits(n int) ([]int, api.Errno) {
	if e := inRange(n, m.conds); e != api.OK {
		return nil, e
	}
	return m.waits(n), api.OK
}

func (m *model) Signal(n int) (int, bool, api.Errno) {
	if e := inRange(n, m.conds); e != api.OK {
		return 0, false, e
	}
	l := m.waits(n)
	if len(l) == 0 {
		return 0, false, api.OK
	}
	m.did("Wake", n, l[0])
	return l[0], true, api.OK
}

func (m *model) All(n int) ([]int, api.Errno) {
	if e := inRange(n, m.conds); e != api.OK {
		return nil, e
	}
	l := m.waits(n)
	for _, t := range l {
		m.did("Wake", n, t)
	}
	return l, api.OK
}

func (m *model) Send(n int, v int64) (int, bool, api.Errno) {
	if e := first(inRange(n, len(m.rooms)), unless(least <= v && v <= greatest, api.ErrArg)); e != api.OK {
		return 0, false, e
	}
	if len(m.values(n)) == m.rooms[n] {
		return 0, false, api.OK
	}
	m.did("Send", n, int(v))
	return len(m.counts("Send", n)) - 1, true, api.OK
}

func (m *model) Recv(n int) (int64, int, bool, api.Errno) {
	if e := inRange(n, len(m.rooms)); e != api.OK {
		return 0, 0, false, e
	}
	l := m.values(n)
	if len(l) == 0 {
		return 0, 0, false, api.OK
	}
	m.did("Recv", n, 0)
	return l[0], len(m.counts("Recv", n)) - 1, true, api.OK
}

func (m *model) Values(n int) ([]int64, api.Errno) {
	if e := inRange(n, len(m.rooms)); e != api.OK {
		return nil, e
	}
	return m.values(n), api.OK
}

func (m *model) Room(n int) (int, api.Errno) {
	if e := inRange(n, len(m.rooms)); e != api.OK {
		return 0, e
	}
	return m.rooms[n], api.OK
}

// stands tells all that can be asked of a face.
func stands(f face, things int) []string {
	var l []string
	for n := range things {
		for _, name := range []string{"Owner", "Waits", "Values", "Room"} {
			l = append(l, name+" "+answer(f, call{name, n, 0}))
		}
	}
	return l
}

// P4.5: all short lists of calls, each on a copy of what stands ahead of it.
func TestAllShortListsOfCalls(t *testing.T) {
	var alphabet []call
	for _, c := range []call{{"Lock", 0, 0}, {"Lock", 0, 1}, {"Unlock", 0, 0}, {"Unlock", 0, 1}, {"Wait", 0, 0}, {"Wait", 0, 1}, {"Signal", 0, 0}, {"All", 0, 0}, {"Send", 0, 5}, {"Send", 0, 6}, {"Recv", 0, 0}} {
		alphabet = append(alphabet, c)
		if c.name == "Wait" || c.name == "Signal" {
			c.n = 1
			alphabet = append(alphabet, c)
		}
	}
	var from func(s *sync.Sync, done []call, left int)
	from = func(s *sync.Sync, done []call, left int) {
		before := stands(s, 2)
		for _, c := range alphabet {
			// The models of two lists share no memory that is written.
			m := &model{mutexes: 1, conds: 2, rooms: []int{2}, done: slices.Clip(done)}
			next := s.Copy()
			if got, want := answer(next, c), answer(m, c); got != want {
				t.Fatalf("%v behind %v: %s; want %s", c, done, got, want)
			}
			if got, want := stands(next, 2), stands(m, 2); !slices.Equal(got, want) {
				t.Fatalf("%v behind %v: %v; want %v", c, done, got, want)
			}
			if left > 1 {
				from(next, m.done, left-1)
			}
		}
		if !slices.Equal(stands(s, 2), before) {
			t.Fatalf("behind %v: what a copy did is seen", done)
		}
	}
	from(made(t, 1, 2, 2), nil, 4)
}

// P4.5: many long lists of calls, among them wrong ones.
func TestManyLongListsOfCalls(t *testing.T) {
	seed := uint64(1)
	below := func(n int) int {
		seed = seed*6364136223846793005 + 1442695040888963407
		return int(seed>>33) % n
	}
	all := names()
	for range 150 {
		m := &model{mutexes: below(4), conds: below(4)}
		for range below(4) {
			m.rooms = append(m.rooms, 1+below(16))
		}
		s := made(t, m.mutexes, m.conds, m.rooms...)
		threads := 2 + below(9)
		for i := range 300 {
			c := call{all[below(len(all))], below(5) - below(2), below(threads) - below(2)}
			if c.name == "Send" && below(4) == 0 {
				c.x = []int{least, greatest, least - 1, greatest + 1, minInt, maxInt}[below(6)]
			}
			if got, want := answer(s, c), answer(m, c); got != want {
				t.Fatalf("call %d, %v: %s; want %s", i, c, got, want)
			}
			if below(10) == 0 {
				s = s.Copy()
			}
		}
		if got, want := stands(s, 4), stands(m, 4); !slices.Equal(got, want) {
			t.Fatalf("%v; want %v", got, want)
		}
	}
}

// P4.5: however many there were, they are received once each, in order, by numbers that rise by one.
func TestNumbersRiseByOne(t *testing.T) {
	s := made(t, 0, 0, 3, 16)
	for q, step := range []int{2, 11} {
		sent, received := 0, 0
		for received < 50000 {
			for i := range step {
				number, ok, e := s.Send(q, int64(sent*7-100))
				if !ok || number != sent || e != api.OK {
					t.Fatalf("Send %d of %d: %d, %v, %v", i, sent, number, ok, e)
				}
				sent++
			}
			for range step {
				v, number, ok, e := s.Recv(q)
				if !ok || number != received || v != int64(received*7-100) || e != api.OK {
					t.Fatalf("Recv %d: %d, %d, %v, %v", received, v, number, ok, e)
				}
				received++
			}
		}
		if l, _ := s.Values(q); len(l) != 0 {
			t.Errorf("%v is left", l)
		}
	}
}
