package names

import (
	"iter"
	"slices"

	"warp/api"
)

// list tells which list one is, by where its things lie: one may stand in many places, or in itself.
type list[T any] struct {
	first *T
	long  int
}

// listOf is of a list that is not empty.
func listOf[T any](l []T) list[T] { return list[T]{&l[0], len(l)} }

type lists[T any] map[list[T]]struct{}

func (m lists[T]) has(l []T) bool {
	_, ok := m[listOf(l)]
	return ok
}

func (m lists[T]) add(l []T) { m[listOf(l)] = struct{}{} }

// over goes over all statements, each ahead of what is in it, with the place of its thread.
// A block is gone into once: where it stands again there is nothing new, and one that stands in itself has no end.
func over(threads []api.Thread) iter.Seq2[int, *api.Stmt] {
	return func(yield func(int, *api.Stmt) bool) {
		gone := lists[api.Stmt]{}
		// Blocks that were begun stand here, not in calls: one may stand in more of them than calls can.
		var rest [][]api.Stmt
		into := func(l []api.Stmt) {
			if len(l) > 0 && !gone.has(l) {
				gone.add(l)
				rest = append(rest, l)
			}
		}
		for i, t := range threads {
			for into(t.Body); len(rest) > 0; {
				last := len(rest) - 1
				s := &rest[last][0]
				if rest[last] = rest[last][1:]; len(rest[last]) == 0 {
					rest = rest[:last]
				}
				if !yield(i, s) {
					return
				}
				into(s.Else)
				into(s.Body)
			}
		}
	}
}

// copier gives trees memory of their own.
type copier struct {
	// What is still to be done stands here, not in calls: a tree may be deeper than calls can be.
	todo []func()
	// The lists around the one that is copied: one that stands in itself has no end, so there it is left out.
	args   lists[api.Expr]
	blocks lists[api.Stmt]
}

// copied tells another block with the same.
func copied(block []api.Stmt) []api.Stmt {
	c := &copier{args: lists[api.Expr]{}, blocks: lists[api.Stmt]{}}
	own(c, c.blocks, &block, c.stmt)
	for len(c.todo) > 0 {
		last := len(c.todo) - 1
		do := c.todo[last]
		c.todo = c.todo[:last]
		do()
	}
	return block
}

func (c *copier) later(do func()) { c.todo = append(c.todo, do) }

func (c *copier) stmt(s *api.Stmt) {
	c.expr(&s.Index)
	c.expr(&s.Expr)
	own(c, c.blocks, &s.Body, c.stmt)
	own(c, c.blocks, &s.Else, c.stmt)
}

func (c *copier) expr(e *api.Expr) { own(c, c.args, &e.Args, c.expr) }

// own puts a list of its own in the place of one that is shared.
func own[T any](c *copier, around lists[T], place *[]T, inner func(*T)) {
	l := *place
	*place = nil
	if len(l) == 0 {
		return
	}
	c.later(func() {
		if around.has(l) {
			return
		}
		around.add(l)
		c.later(func() { delete(around, listOf(l)) })
		*place = slices.Clone(l)
		for i := range *place {
			inner(&(*place)[i])
		}
	})
}
