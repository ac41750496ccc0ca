package source

import "warp/api"

// step is a thread's step under way, on a copy of the state.
type step struct {
	state
	number int // the thread's
	event  api.Event
}

// deeds tells what each statement does.
func deeds() map[api.StmtKind]func(*step, *api.Stmt) {
	return map[api.StmtKind]func(*step, *api.Stmt){
		api.StmtLet:    (*step).set,
		api.StmtSet:    (*step).set,
		api.StmtPut:    (*step).put,
		api.StmtIf:     (*step).branch,
		api.StmtWhile:  (*step).loop,
		api.StmtLock:   (*step).lock,
		api.StmtUnlock: (*step).unlock,
		api.StmtWait:   (*step).wait,
		api.StmtSignal: (*step).signal,
		api.StmtAll:    (*step).all,
		api.StmtSend:   (*step).send,
		api.StmtRecv:   (*step).recv,
		api.StmtSpawn:  (*step).spawned,
		api.StmtJoin:   (*step).join,
		api.StmtPrint:  (*step).print,
	}
}

func (s *step) thread() *thread { return &s.threads[s.number] }

func (s *step) next() *api.Stmt { return s.thread().next() }

func (s *step) do() {
	if next := s.next(); s.thread().how == api.ThreadWakes {
		s.wake(next)
	} else {
		s.program.deeds[next.Kind](s, next)
	}
	t := s.thread()
	if t.settle(); !t.lives() {
		s.orders(api.SyncEnd, 0, 0)
	}
}

// past leaves the statement behind.
func (s *step) past() {
	t := s.thread()
	t.todo = t.todo.past()
}

// into goes into a block.
func (s *step) into(block []api.Stmt) {
	t := s.thread()
	t.todo = with(t.todo, block)
}

func (s *step) orders(kind api.SyncKind, slot, other int) {
	s.event.Syncs = append(s.event.Syncs, api.SyncEvent{Kind: kind, Slot: slot, Other: other})
}

func (s *step) read(cell int) int64 {
	v := s.cells[cell]
	s.event.Accesses = append(s.event.Accesses, api.Access{Cell: cell, Value: v})
	return v
}

func (s *step) write(cell int, v int64) {
	s.cells[cell] = v
	s.event.Accesses = append(s.event.Accesses, api.Access{Cell: cell, Write: true, Value: v})
}

// give gives a local, a variable, a value.
func (s *step) give(slot int, local bool, v int64) {
	if local {
		s.thread().locals[slot] = v
		return
	}
	s.write(slot, v)
}

func (s *step) set(next *api.Stmt) {
	s.give(next.Slot, next.Local, s.worth(&next.Expr))
	s.past()
}

func (s *step) put(next *api.Stmt) {
	index := s.worth(&next.Index)
	v := s.worth(&next.Expr)
	s.write(s.cell(next.Slot, index), v)
	s.past()
}

func (s *step) branch(next *api.Stmt) {
	s.event.Value = s.worth(&next.Expr)
	s.past()
	if s.event.Value != 0 {
		s.into(next.Body)
	} else {
		s.into(next.Else)
	}
}

func (s *step) loop(next *api.Stmt) {
	s.event.Value = s.worth(&next.Expr)
	if s.event.Value != 0 {
		// The while stays next behind its body.
		s.into(next.Body)
	} else {
		s.past()
	}
}

// take makes a mutex the thread's; where that can't be it is the thread's already, as it could not go on if it were another's.
func (s *step) take(mutex int) {
	if ok, _ := s.sync.Lock(mutex, s.number); !ok {
		panic(api.TrapOwner)
	}
	s.orders(api.SyncLock, mutex, 0)
}

func (s *step) leave(mutex int) {
	if s.sync.Unlock(mutex, s.number) != api.OK {
		panic(api.TrapOwner)
	}
	s.orders(api.SyncUnlock, mutex, 0)
}

func (s *step) lock(next *api.Stmt) {
	s.take(next.Slot)
	s.past()
}

func (s *step) unlock(next *api.Stmt) {
	s.leave(next.Slot)
	s.past()
}

func (s *step) wait(next *api.Stmt) {
	s.leave(next.Other)
	s.sync.Wait(next.Slot, s.number)
	// Its statement stays next: the step of one that wakes is of it, too.
	s.thread().how = api.ThreadWaits
}

func (s *step) wake(next *api.Stmt) {
	s.event.Woke = true
	s.take(next.Other)
	s.thread().how = api.ThreadGoes
	s.past()
}

// wakes lets threads that waited for a condition wake.
func (s *step) wakes(cond int, threads ...int) {
	for _, n := range threads {
		s.threads[n].how = api.ThreadWakes
		s.orders(api.SyncSignal, cond, n)
	}
	s.past()
}

func (s *step) signal(next *api.Stmt) {
	if n, ok, _ := s.sync.Signal(next.Slot); ok {
		s.wakes(next.Slot, n)
	} else {
		s.wakes(next.Slot)
	}
}

func (s *step) all(next *api.Stmt) {
	threads, _ := s.sync.All(next.Slot)
	s.wakes(next.Slot, threads...)
}

func (s *step) send(next *api.Stmt) {
	number, _, _ := s.sync.Send(next.Slot, s.worth(&next.Expr))
	s.orders(api.SyncSend, next.Slot, number)
	s.past()
}

func (s *step) recv(next *api.Stmt) {
	v, number, _, _ := s.sync.Recv(next.Slot)
	s.give(next.Other, next.Local, v)
	s.orders(api.SyncRecv, next.Slot, number)
	s.past()
}

func (s *step) spawned(next *api.Stmt) {
	if len(s.threads) == api.MaxThreads {
		panic(api.TrapThreads)
	}
	n := s.spawn(next.Slot)
	s.thread().spawned = append(s.thread().spawned, n)
	s.orders(api.SyncSpawn, 0, n)
	s.past()
}

func (s *step) join(*api.Stmt) {
	for _, n := range s.thread().spawned {
		s.orders(api.SyncJoin, 0, n)
	}
	s.past()
}

func (s *step) print(next *api.Stmt) {
	s.event.Out = s.worth(&next.Expr)
	s.event.Told = true
	s.past()
}
