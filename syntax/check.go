package syntax

import (
	"warp/api"
	"warp/lex"
)

// level is a list, and how deep it stands.
type level[T any] struct {
	list[T]
	depth int
}

// checker keeps what it looked at: once is enough, in however many places it stands.
type checker struct {
	args   marks[level[api.Expr]]
	blocks marks[level[api.Stmt]]
}

func newChecker() checker {
	return checker{marks[level[api.Expr]]{}, marks[level[api.Stmt]]{}}
}

func (c checker) decl(d api.Decl) bool {
	if !lex.Name(d.Name) {
		return false
	}
	switch d.Kind {
	case api.DeclVar:
		return -maxNum <= d.Num && d.Num <= maxNum && len(d.Body) == 0
	case api.DeclArray, api.DeclChan:
		return 0 <= d.Num && d.Num <= maxNum && len(d.Body) == 0
	case api.DeclMutex, api.DeclCond:
		return d.Num == 0 && len(d.Body) == 0
	case api.DeclThread:
		return d.Num == 0 && c.block(d.Body, true, 1)
	}
	return false
}

// block: where the kind names none, it must be empty.
func (c checker) block(l []api.Stmt, named bool, depth int) bool {
	return len(l) == 0 || named && depth <= api.MaxDepth && every(c.blocks, l, depth, c.stmt)
}

func (c checker) stmt(s api.Stmt, depth int) bool {
	if s.Kind <= api.StmtNone || int(s.Kind) >= len(stmtShapes) {
		return false
	}
	shape := stmtShapes[s.Kind]
	return fits(s.Name, shape.name) && fits(s.With, shape.with) &&
		c.part(s.Index, shape.index) && c.part(s.Expr, shape.expr) &&
		c.block(s.Body, shape.body, depth+1) && c.block(s.Else, shape.other, depth+1)
}

// part: where the kind names none, it must be zero.
func (c checker) part(e api.Expr, named bool) bool {
	if named {
		return c.expr(e, 1)
	}
	return e.Kind == api.ExprNone && e.Num == 0 && e.Name == "" && e.Op == api.OpNone && len(e.Args) == 0
}

// expr: the depth here is counted from the outside; the deepest part has that of the whole.
func (c checker) expr(e api.Expr, depth int) bool {
	if depth > api.MaxDepth || e.Kind <= api.ExprNone || int(e.Kind) >= len(exprShapes) {
		return false
	}
	shape := exprShapes[e.Kind]
	if e.Num < 0 || e.Num > maxNum || e.Num != 0 && !shape.num || len(e.Args) != shape.args {
		return false
	}
	return fits(e.Name, shape.name) && joins(e.Op, shape.op) && every(c.args, e.Args, depth+1, c.expr)
}

// fits: where the kind names none, it must be empty.
func fits(name string, named bool) bool {
	if named {
		return lex.Name(name)
	}
	return name == ""
}

// joins: where the kind names none, it must be none.
func joins(op api.Op, named bool) bool {
	if named {
		_, rank := byOp(op)
		return rank >= 0
	}
	return op == api.OpNone
}

func every[T any](done marks[level[T]], l []T, depth int, may func(T, int) bool) bool {
	if len(l) == 0 || !done.add(level[T]{listOf(l), depth}) {
		return true
	}
	for _, x := range l {
		if !may(x, depth) {
			return false
		}
	}
	return true
}
