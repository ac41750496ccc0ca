package source

import "warp/api"

// A value is from least to greatest.
const (
	least    = -1 << 31
	greatest = 1<<31 - 1
)

// worth tells what an expression is worth; what is read on the way is told in the event.
func (s *step) worth(e *api.Expr) int64 {
	switch e.Kind {
	case api.ExprNum:
		return e.Num
	case api.ExprName:
		if e.Local {
			return s.thread().locals[e.Slot]
		}
		return s.read(e.Slot)
	case api.ExprCell:
		return s.read(s.cell(e.Slot, s.worth(&e.Args[0])))
	case api.ExprNeg:
		return value(-s.worth(&e.Args[0]))
	case api.ExprNot:
		return truth(s.worth(&e.Args[0]) == 0)
	}
	left := s.worth(&e.Args[0])
	// Where the left one tells all, the right one is not worked out.
	switch {
	case e.Op == api.OpOr && left != 0:
		return 1
	case e.Op == api.OpAnd && left == 0:
		return 0
	}
	return made(e.Op, left, s.worth(&e.Args[1]))
}

// cell tells the number of an array's cell.
func (s *step) cell(array int, index int64) int {
	if index < 0 || index >= int64(s.program.Arrays[array]) {
		panic(api.TrapIndex)
	}
	return s.program.firsts[array] + int(index)
}

// made tells what two values make, the left one of which did not tell all.
func made(op api.Op, left, right int64) int64 {
	switch op {
	case api.OpOr, api.OpAnd:
		return truth(right != 0)
	case api.OpEq:
		return truth(left == right)
	case api.OpNe:
		return truth(left != right)
	case api.OpLt:
		return truth(left < right)
	case api.OpLe:
		return truth(left <= right)
	case api.OpAdd:
		return value(left + right)
	case api.OpSub:
		return value(left - right)
	case api.OpMul:
		return value(left * right)
	}
	if right == 0 {
		panic(api.TrapZero)
	}
	if op == api.OpDiv {
		return value(left / right)
	}
	return left % right
}

// value refuses what is made and is no value.
func value(v int64) int64 {
	if !within(least, greatest, v) {
		panic(api.TrapRange)
	}
	return v
}

func truth(is bool) int64 {
	if is {
		return 1
	}
	return 0
}

// within tells whether numbers are all from one to another.
func within(from, to int64, numbers ...int64) bool {
	for _, n := range numbers {
		if n < from || n > to {
			return false
		}
	}
	return true
}

// place tells which of n things a pick picks.
func place(pick, n int) int { return (pick%n + n) % n }
