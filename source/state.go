package source

import (
	"slices"

	"warp/api"
	"warp/sync"
)

// nobody is the owner of a mutex that is no thread's.
const nobody = -1

// program is what all states of a program share, and none changes.
type program struct {
	api.Prog
	firsts []int // of each array its first cell's number
	deeds  map[api.StmtKind]func(*step, *api.Stmt)
}

// state is what a State has.
type state struct {
	program *program // nil where there is no state
	cells   []int64
	sync    *sync.Sync
	threads []thread
	trap    api.Outcome // zero, till there is one
}

// begun tells the state of a program ahead of its first step.
func begun(p api.Prog) state {
	own := &program{Prog: p, deeds: deeds()}
	n := len(p.Vars)
	for _, cells := range p.Arrays {
		own.firsts = append(own.firsts, n)
		n += cells
	}
	s := state{program: own, cells: make([]int64, n)}
	copy(s.cells, p.Vars)
	// Layer 4 takes all numbers that layer 3 takes.
	s.sync, _ = sync.New(p.Mutexes, p.Conds, p.Chans...)
	s.spawn(p.Main)
	return s
}

// has tells an empty state, where there is no State.
func (s *State) has() *state {
	if s == nil {
		return new(state)
	}
	return &s.state
}

func (s *state) made() bool { return s.program != nil }

func (s *state) there(thread int) bool { return 0 <= thread && thread < len(s.threads) }

// spawn makes a thread of a declaration, and tells its number.
func (s *state) spawn(decl int) int {
	of := s.program.Threads[decl]
	t := thread{decl: decl, how: api.ThreadGoes, locals: make([]int64, of.Locals), todo: with(nil, of.Body)}
	t.settle()
	s.threads = append(s.threads, t)
	return len(s.threads) - 1
}

// owner tells whose a mutex is.
func (s *state) owner(mutex int) int {
	owner, _ := s.sync.Owner(mutex)
	return owner
}

// inside tells how many values are in a channel, and for how many it is.
func (s *state) inside(channel int) (int, int) {
	values, _ := s.sync.Values(channel)
	room, _ := s.sync.Room(channel)
	return len(values), room
}

func (s *state) can() []int {
	if s.trap.Kind != api.RunNone {
		return nil
	}
	var l []int
	for n := range s.threads {
		if s.goes(n) {
			l = append(l, n)
		}
	}
	return l
}

// goes tells whether a thread can go on.
func (s *state) goes(n int) bool {
	t := &s.threads[n]
	switch t.how {
	case api.ThreadWakes:
		return s.owner(t.next().Other) == nobody
	case api.ThreadGoes:
		return s.may(n, t.next())
	}
	return false
}

// may tells whether a thread that goes can do a statement.
func (s *state) may(n int, next *api.Stmt) bool {
	switch next.Kind {
	case api.StmtLock:
		owner := s.owner(next.Slot)
		return owner == nobody || owner == n
	case api.StmtSend:
		values, room := s.inside(next.Slot)
		return values < room
	case api.StmtRecv:
		values, _ := s.inside(next.Slot)
		return values > 0
	case api.StmtJoin:
		lives := func(n int) bool { return s.threads[n].lives() }
		return !slices.ContainsFunc(s.threads[n].spawned, lives)
	}
	return true
}

func (s *state) outcome() api.Outcome {
	switch {
	case !s.made():
		return api.Outcome{}
	case s.trap.Kind != api.RunNone:
		return s.trap
	case len(s.can()) > 0:
		return api.Outcome{Kind: api.RunGoes}
	case slices.ContainsFunc(s.threads, thread.lives):
		return api.Outcome{Kind: api.RunStuck}
	}
	return api.Outcome{Kind: api.RunDone}
}

func (s *state) copied() state {
	other := *s
	other.cells, other.sync, other.threads = slices.Clone(s.cells), s.sync.Copy(), slices.Clone(s.threads)
	for i := range other.threads {
		t := &other.threads[i]
		// What is left to do may be shared, as it grows by copies.
		t.locals, t.spawned = slices.Clone(t.locals), slices.Clone(t.spawned)
	}
	return other
}

func (s *state) same(other *state) bool {
	// Of no state there is no Sync, of each other one there is.
	return sync.Same(s.sync, other.sync) && s.trap == other.trap && slices.Equal(s.cells, other.cells) &&
		slices.EqualFunc(s.threads, other.threads, thread.same)
}
