package source

import (
	"slices"

	"warp/api"
)

// thread is one that was spawned.
type thread struct {
	decl    int
	how     api.ThreadState
	locals  []int64
	todo    todo
	spawned []int
}

// todo is what is left to do: the rests of blocks, the one in which the thread is last; none of them is empty.
type todo [][]api.Stmt

// with tells what is left to do with a block ahead of all else.
// It is a list of its own: other states go on from the one that it grows from.
func with(rest todo, block []api.Stmt) todo {
	if len(block) == 0 {
		return rest
	}
	grown := make(todo, len(rest)+1)
	copy(grown, rest)
	grown[len(rest)] = block
	return grown
}

// past tells what is left to do behind what is next.
func (l todo) past() todo {
	last := len(l) - 1
	return with(l[:last], l[last][1:])
}

// stmts tells what is left to do, in the order in which it comes.
func (l todo) stmts() []api.Stmt {
	var all []api.Stmt
	for _, block := range slices.Backward(l) {
		all = append(all, block...)
	}
	return all
}

// next tells the statement that is next, of one that is not ended.
func (t *thread) next() *api.Stmt { return &t.todo[len(t.todo)-1][0] }

// settle ends a thread that has nothing left to do.
func (t *thread) settle() {
	if len(t.todo) == 0 {
		t.how = api.ThreadEnded
	}
}

func (t thread) lives() bool { return t.how != api.ThreadEnded }

func (t *thread) view() api.ThreadView {
	v := api.ThreadView{Decl: t.decl, State: t.how, Locals: slices.Clone(t.locals), Next: -1, Spawned: slices.Clone(t.spawned)}
	if t.lives() {
		v.Next = t.next().ID
	}
	return v
}

func (t thread) same(other thread) bool {
	return t.decl == other.decl && t.how == other.how && slices.Equal(t.locals, other.locals) &&
		slices.Equal(t.spawned, other.spawned) && alike(t.todo.stmts(), other.todo.stmts())
}
