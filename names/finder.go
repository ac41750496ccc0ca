package names

import (
	"slices"

	"warp/api"
)

// flaw is what may not be, and its place.
type flaw struct {
	api.Errno
	api.Pos
}

// thing is what a name is.
type thing struct {
	kind api.DeclKind
	slot int
}

// finder finds the names of declarations that layer 2 takes.
type finder struct {
	api.Prog
	names  map[string]thing
	wants  map[api.StmtKind]want
	thread *api.Thread // the one that is gone through
	locals []string    // those that are there, by their slots
	cells  int         // of all arrays
	place  api.Pos     // of the declaration, the statement that is looked at
	// found are the parts of the statement's expressions: to find them once is enough, in however many places they stand.
	found map[list[api.Expr]][]api.Expr
}

func newFinder() *finder {
	return &finder{names: map[string]thing{}, wants: wants(), found: map[list[api.Expr]][]api.Expr{}}
}

func (f *finder) refuse(e api.Errno) { panic(flaw{e, f.place}) }

func (f *finder) program(l []api.Decl) {
	for _, d := range l {
		f.place = d.Pos
		f.declare(d)
	}
	main, ok := f.names["main"]
	if !ok || main.kind != api.DeclThread {
		panic(flaw{Errno: api.ErrMain})
	}
	f.Main = main.slot
	for i := range f.Threads {
		f.thread = &f.Threads[i]
		f.thread.Body = f.block(f.thread.Body)
	}
}

func (f *finder) declare(d api.Decl) {
	f.fresh(d.Name)
	if len(f.names) == api.MaxNames {
		f.refuse(api.ErrBound)
	}
	t := thing{kind: d.Kind}
	switch d.Kind {
	case api.DeclVar:
		// Layer 2 takes no other numbers than those that a variable may have.
		f.Vars = append(f.Vars, d.Num)
		t.slot = slotOf(&f.Names.Vars, d.Name)
	case api.DeclArray:
		n := f.upTo(api.MaxCells-f.cells, d.Num)
		f.cells += n
		f.Arrays = append(f.Arrays, n)
		t.slot = slotOf(&f.Names.Arrays, d.Name)
	case api.DeclMutex:
		f.Mutexes++
		t.slot = slotOf(&f.Names.Mutexes, d.Name)
	case api.DeclCond:
		f.Conds++
		t.slot = slotOf(&f.Names.Conds, d.Name)
	case api.DeclChan:
		f.Chans = append(f.Chans, f.upTo(api.MaxRoom, d.Num))
		t.slot = slotOf(&f.Names.Chans, d.Name)
	case api.DeclThread:
		t.slot = len(f.Threads)
		f.Threads = append(f.Threads, api.Thread{Name: d.Name, Body: d.Body})
	}
	f.names[d.Name] = t
}

// slotOf puts a name behind those of its kind.
func slotOf(names *[]string, name string) int {
	*names = append(*names, name)
	return len(*names) - 1
}

// fresh refuses a name that is there already.
func (f *finder) fresh(name string) {
	if _, ok := f.names[name]; ok {
		f.refuse(api.ErrTwice)
	}
}

// upTo refuses a number that is not from 1 to most.
func (f *finder) upTo(most int, n int64) int {
	if n < 1 || n > int64(most) {
		f.refuse(api.ErrBound)
	}
	return int(n)
}

// block finds the names in a block, and leaves it: its locals are not there behind it.
func (f *finder) block(l []api.Stmt) []api.Stmt {
	around := len(f.locals)
	defer func() {
		for _, name := range f.locals[around:] {
			delete(f.names, name)
		}
		f.locals = f.locals[:around]
	}()
	var out []api.Stmt
	for _, s := range l {
		out = append(out, f.stmt(s))
	}
	return out
}

func (f *finder) stmt(s api.Stmt) api.Stmt {
	f.place = s.Pos
	if f.Stmts == api.MaxStmts {
		f.refuse(api.ErrBound)
	}
	s.ID, s.Slot, s.Other, s.Local = f.Stmts, 0, 0, false
	f.Stmts++
	// What names are may have changed since the statement ahead.
	clear(f.found)
	s.Index, s.Expr = f.expr(s.Index), f.expr(s.Expr)
	want := f.wants[s.Kind]
	if s.Kind == api.StmtLet {
		s.Slot, s.Local = f.let(s.Name), true
	}
	if len(want.name) > 0 {
		name := f.find(s.Name, want.name)
		s.Slot, s.Local = name.slot, name.kind == local
	}
	if len(want.with) > 0 {
		with := f.find(s.With, want.with)
		s.Other, s.Local = with.slot, with.kind == local
	}
	s.Body = f.block(s.Body)
	s.Else = f.block(s.Else)
	return s
}

// let makes a local, and tells its slot.
func (f *finder) let(name string) int {
	f.fresh(name)
	slot := len(f.locals)
	if slot == api.MaxLocals {
		f.refuse(api.ErrBound)
	}
	f.names[name] = thing{local, slot}
	f.locals = append(f.locals, name)
	f.thread.Locals = max(f.thread.Locals, len(f.locals))
	return slot
}

// find tells what a name is, if it is one of these.
func (f *finder) find(name string, of kinds) thing {
	t, ok := f.names[name]
	if !ok {
		f.refuse(api.ErrUnknown)
	}
	if !slices.Contains(of, t.kind) {
		f.refuse(api.ErrKind)
	}
	return t
}

func (f *finder) expr(e api.Expr) api.Expr {
	e.Slot, e.Local = 0, false
	switch e.Kind {
	case api.ExprName:
		t := f.find(e.Name, values())
		e.Slot, e.Local = t.slot, t.kind == local
	case api.ExprCell:
		e.Slot = f.find(e.Name, arrays()).slot
	}
	e.Args = f.args(e.Args)
	return e
}

func (f *finder) args(l []api.Expr) []api.Expr {
	if len(l) == 0 {
		return nil
	}
	if out, ok := f.found[listOf(l)]; ok {
		return out
	}
	var out []api.Expr
	for _, e := range l {
		out = append(out, f.expr(e))
	}
	f.found[listOf(l)] = out
	return out
}
