package syntax

import "warp/api"

// maxNum is the greatest number that a text can tell.
const maxNum = 1<<31 - 1

// declWords are the keywords of declarations, by their kinds.
var declWords = []string{
	api.DeclVar:    "var",
	api.DeclArray:  "array",
	api.DeclMutex:  "mutex",
	api.DeclCond:   "cond",
	api.DeclChan:   "chan",
	api.DeclThread: "thread",
}

// stmtShape is a statement's keyword, and what its kind names.
type stmtShape struct {
	word                                 string
	name, with, expr, index, body, other bool
}

var stmtShapes = [...]stmtShape{
	api.StmtLet:    {word: "let", name: true, expr: true},
	api.StmtSet:    {name: true, expr: true},
	api.StmtPut:    {name: true, index: true, expr: true},
	api.StmtIf:     {word: "if", expr: true, body: true, other: true},
	api.StmtWhile:  {word: "while", expr: true, body: true},
	api.StmtLock:   {word: "lock", name: true},
	api.StmtUnlock: {word: "unlock", name: true},
	api.StmtWait:   {word: "wait", name: true, with: true},
	api.StmtSignal: {word: "signal", name: true},
	api.StmtAll:    {word: "all", name: true},
	api.StmtSend:   {word: "send", name: true, expr: true},
	api.StmtRecv:   {word: "recv", name: true, with: true},
	api.StmtSpawn:  {word: "spawn", name: true},
	api.StmtJoin:   {word: "join"},
	api.StmtPrint:  {word: "print", expr: true},
}

// exprShape is what an expression's kind names, and of how many Args.
type exprShape struct {
	num, name, op bool
	args          int
}

var exprShapes = [...]exprShape{
	api.ExprNum:  {num: true},
	api.ExprName: {name: true},
	api.ExprCell: {name: true, args: 1},
	api.ExprNeg:  {args: 1},
	api.ExprNot:  {args: 1},
	api.ExprBin:  {op: true, args: 2},
}

// Ranks of expressions: one of a higher rank stands in one of a lower rank without parentheses.
const (
	orRank = iota
	andRank
	compareRank
	sumRank
	productRank
	aheadRank
)

type operator struct {
	op   api.Op
	sign string
}

// ranks are the operators that stand between two.
var ranks = [...][]operator{
	orRank:      {{api.OpOr, "||"}},
	andRank:     {{api.OpAnd, "&&"}},
	compareRank: {{api.OpEq, "=="}, {api.OpNe, "!="}, {api.OpLt, "<"}, {api.OpLe, "<="}},
	sumRank:     {{api.OpAdd, "+"}, {api.OpSub, "-"}},
	productRank: {{api.OpMul, "*"}, {api.OpDiv, "/"}, {api.OpMod, "%"}},
}

// find tells the operator that fits, and its rank; -1 if none does.
func find(fits func(operator) bool) (operator, int) {
	for rank, list := range ranks {
		for _, o := range list {
			if fits(o) {
				return o, rank
			}
		}
	}
	return operator{}, -1
}

func bySign(sign string) (operator, int) {
	return find(func(o operator) bool { return o.sign == sign })
}

func byOp(op api.Op) (operator, int) {
	return find(func(o operator) bool { return o.op == op })
}
