package source

import (
	"slices"
	"strconv"

	"warp/api"
	"warp/names"
)

// proved tells another program with the same, if it is one that layer 3 tells of some declarations.
// Names are not asked: each thing is named anew, by its slot, and layer 3 must find just the slots that are given.
func proved(p api.Prog) (api.Prog, bool) {
	counts := []int64{int64(p.Mutexes), int64(p.Conds), int64(len(p.Vars)), int64(len(p.Arrays)), int64(len(p.Chans)), int64(len(p.Threads))}
	if !within(0, api.MaxNames, counts...) || !within(least, greatest, p.Vars...) {
		return api.Prog{}, false
	}
	n := &namer{main: p.Main, args: map[parts][]api.Expr{}}
	found, _, e := names.Find(n.decls(p))
	if e != api.OK || found.Stmts != p.Stmts || !slices.EqualFunc(found.Threads, p.Threads, sameThread) {
		return api.Prog{}, false
	}
	found.Vars = slices.Clone(p.Vars)
	return found, true
}

func sameThread(a, b api.Thread) bool { return a.Locals == b.Locals && alike(a.Body, b.Body) }

// parts are a list of parts of an expression, by where it lies.
type parts struct {
	first *api.Expr
	long  int
}

// namer makes declarations of a program.
type namer struct {
	main  int // the place of the thread that is called so
	stmts int // how many were named
	// args are those that were named: to name them once is enough, in however many places they stand.
	args map[parts][]api.Expr
}

// named is the name of the thing of a kind that has a slot; where there is no such slot, nothing has that name, or it is none.
func named(kind string, slot int) string { return kind + strconv.Itoa(slot) }

// valued is the name of a local, of a variable.
func valued(slot int, local bool) string {
	if local {
		return named("l", slot)
	}
	return named("v", slot)
}

func (n *namer) decls(p api.Prog) []api.Decl {
	var l []api.Decl
	add := func(kind api.DeclKind, name string, num int) {
		l = append(l, api.Decl{Kind: kind, Name: name, Num: int64(num)})
	}
	for i := range p.Vars {
		// What variables begin with was asked ahead: layer 2 takes one value less than there are.
		add(api.DeclVar, named("v", i), 0)
	}
	for i, cells := range p.Arrays {
		add(api.DeclArray, named("a", i), cells)
	}
	for i := range p.Mutexes {
		add(api.DeclMutex, named("m", i), 0)
	}
	for i := range p.Conds {
		add(api.DeclCond, named("c", i), 0)
	}
	for i, room := range p.Chans {
		add(api.DeclChan, named("q", i), room)
	}
	for i, t := range p.Threads {
		l = append(l, api.Decl{Kind: api.DeclThread, Name: n.thread(i), Body: n.block(t.Body)})
	}
	return l
}

func (n *namer) thread(slot int) string {
	if slot == n.main {
		return "main"
	}
	return named("t", slot)
}

// block cuts off what is too much, as it may have no end: a statement that is none stands for it, which layer 3 refuses.
func (n *namer) block(l []api.Stmt) []api.Stmt {
	var out []api.Stmt
	for _, s := range l {
		if n.stmts++; n.stmts > api.MaxStmts {
			return []api.Stmt{{}}
		}
		out = append(out, n.stmt(s))
	}
	return out
}

func (n *namer) stmt(s api.Stmt) api.Stmt {
	s.Pos, s.Name, s.With = api.Pos{}, "", ""
	switch s.Kind {
	case api.StmtLet, api.StmtSet:
		s.Name = valued(s.Slot, s.Local)
	case api.StmtPut:
		s.Name = named("a", s.Slot)
	case api.StmtLock, api.StmtUnlock:
		s.Name = named("m", s.Slot)
	case api.StmtWait:
		s.Name, s.With = named("c", s.Slot), named("m", s.Other)
	case api.StmtSignal, api.StmtAll:
		s.Name = named("c", s.Slot)
	case api.StmtSend:
		s.Name = named("q", s.Slot)
	case api.StmtRecv:
		s.Name, s.With = named("q", s.Slot), valued(s.Other, s.Local)
	case api.StmtSpawn:
		s.Name = n.thread(s.Slot)
	}
	s.Index, s.Expr = n.expr(s.Index, 1), n.expr(s.Expr, 1)
	s.Body, s.Else = n.block(s.Body), n.block(s.Else)
	return s
}

func (n *namer) expr(e api.Expr, deep int) api.Expr {
	e.Name = ""
	switch e.Kind {
	case api.ExprName:
		e.Name = valued(e.Slot, e.Local)
	case api.ExprCell:
		e.Name = named("a", e.Slot)
	}
	e.Args = n.inner(e.Args, deep+1)
	return e
}

// inner cuts off what is too deep, or too much, as block does.
func (n *namer) inner(l []api.Expr, deep int) []api.Expr {
	if len(l) == 0 {
		return nil
	}
	if len(l) > 2 || deep > api.MaxDepth {
		return []api.Expr{{}}
	}
	key := parts{&l[0], len(l)}
	if out, ok := n.args[key]; ok {
		return out
	}
	var out []api.Expr
	for _, e := range l {
		out = append(out, n.expr(e, deep))
	}
	n.args[key] = out
	return out
}
