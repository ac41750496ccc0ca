package ops

import (
	"iter"

	"warp/api"
)

const (
	least    = -1 << 31
	greatest = 1<<31 - 1
	// mostIns is how many instructions a thread has at most; their lines go as far, their places begin at 0.
	mostIns = 1 << 16
)

// within tells whether numbers are all from one to another.
func within[N int | int64](from, to N, numbers ...N) bool {
	for _, n := range numbers {
		if n < from || n > to {
			return false
		}
	}
	return true
}

func mayBe(m api.Module) bool {
	// How many there are is asked ahead of what they are: lists that are too long are not gone over.
	if !within(0, api.MaxNames, len(m.Vars), len(m.Arrays), len(m.Chans), m.Mutexes, m.Conds, len(m.Threads)) {
		return false
	}
	if !within(least, greatest, m.Vars...) || !within(0, api.MaxCells, m.Arrays...) || !within(1, api.MaxRoom, m.Chans...) {
		return false
	}
	for _, t := range m.Threads {
		if !mayBeCode(t) {
			return false
		}
	}
	return true
}

func mayBeCode(t api.Code) bool {
	if !within(1, api.MaxName, len(t.Name)) || !within(0, api.MaxLocals, t.Locals) || len(t.Ins) > mostIns || len(t.Lines) != len(t.Ins) {
		return false
	}
	for i, line := range lined(t) {
		if !mayBeIns(i) || !within(0, mostIns, line) {
			return false
		}
	}
	return true
}

// lined goes over a thread's instructions, each with its line, of which there must be as many.
func lined(t api.Code) iter.Seq2[api.Ins, int] {
	return func(yield func(api.Ins, int) bool) {
		for n, i := range t.Ins {
			if !yield(i, t.Lines[n]) {
				return
			}
		}
	}
}

func mayBeIns(i api.Ins) bool {
	s := shapeOf(i.Code)
	return s.name != "" && fits(s.has(partA), 0, mostIns-1, i.A) && fits(s.has(partB), 0, mostIns-1, i.B) && fits(s.has(partNum), least, greatest, i.Num)
}

// fits asks a part that the Code names for its bounds, another one for 0.
func fits[N int | int64](named bool, from, to, n N) bool {
	if !named {
		return n == 0
	}
	return within(from, to, n)
}
