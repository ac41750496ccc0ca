package syntax

import (
	"iter"

	"warp/api"
)

// over goes over a block's statements, and over those in them.
func over(block []api.Stmt, depth int) iter.Seq2[int, api.Stmt] {
	return func(yield func(int, api.Stmt) bool) {
		for _, s := range block {
			told := s
			newCopier().stmt(&told)
			if !yield(depth, told) {
				return
			}
			for _, inner := range [...][]api.Stmt{s.Body, s.Else} {
				for deeper, t := range over(inner, depth+1) {
					if !yield(deeper, t) {
						return
					}
				}
			}
		}
	}
}

// copier copies trees; it keeps the lists that it stands in, as one that stands in itself has no end: there it is left out.
type copier struct {
	args   marks[list[api.Expr]]
	blocks marks[list[api.Stmt]]
}

func newCopier() copier {
	return copier{marks[list[api.Expr]]{}, marks[list[api.Stmt]]{}}
}

func (c copier) block(l []api.Stmt) []api.Stmt { return copied(c.blocks, l, c.stmt) }

// stmt gives a statement parts of its own, in the place of those that it shares.
func (c copier) stmt(s *api.Stmt) {
	c.expr(&s.Index)
	c.expr(&s.Expr)
	s.Body, s.Else = c.block(s.Body), c.block(s.Else)
}

func (c copier) expr(e *api.Expr) { e.Args = copied(c.args, e.Args, c.expr) }

func copied[T any](around marks[list[T]], l []T, own func(*T)) []T {
	if len(l) == 0 || !around.add(listOf(l)) {
		return nil
	}
	out := make([]T, len(l))
	copy(out, l)
	for i := range out {
		own(&out[i])
	}
	delete(around, listOf(l))
	return out
}
