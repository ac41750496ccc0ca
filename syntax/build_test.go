package syntax_test

import (
	"fmt"
	"testing"

	"warp/api"
	"warp/syntax"
)

// Short makers of trees, for all tests of the package.

func num(n int64) api.Expr  { return api.Expr{Kind: api.ExprNum, Num: n} }
func nam(s string) api.Expr { return api.Expr{Kind: api.ExprName, Name: s} }
func cell(s string, index api.Expr) api.Expr {
	return api.Expr{Kind: api.ExprCell, Name: s, Args: list(index)}
}
func neg(e api.Expr) api.Expr { return api.Expr{Kind: api.ExprNeg, Args: list(e)} }
func not(e api.Expr) api.Expr { return api.Expr{Kind: api.ExprNot, Args: list(e)} }
func bin(op api.Op, a, b api.Expr) api.Expr {
	return api.Expr{Kind: api.ExprBin, Op: op, Args: list(a, b)}
}
func list(l ...api.Expr) []api.Expr { return l }
func body(l ...api.Stmt) []api.Stmt { return l }
func at(line, col int) api.Pos      { return api.Pos{Line: line, Col: col} }
func print(e api.Expr) api.Stmt     { return api.Stmt{Kind: api.StmtPrint, Expr: e} }
func join() api.Stmt                { return api.Stmt{Kind: api.StmtJoin} }
func while(e api.Expr, l ...api.Stmt) api.Stmt {
	return api.Stmt{Kind: api.StmtWhile, Expr: e, Body: l}
}
func when(e api.Expr, l, other []api.Stmt) api.Stmt {
	return api.Stmt{Kind: api.StmtIf, Expr: e, Body: l, Else: other}
}
func thread(l ...api.Stmt) api.Decl { return api.Decl{Kind: api.DeclThread, Name: "t", Body: l} }
func program(l ...api.Stmt) []api.Decl {
	return []api.Decl{thread(l...)}
}

// dump tells each field of a tree; of lists that are nil and such as are empty it tells the same.
func dump(x any) string { return fmt.Sprintf("%+v", x) }

func parse(t *testing.T, text string) []api.Decl {
	t.Helper()
	l, place, e := syntax.Parse(text)
	if e != api.OK || place != (api.Pos{}) {
		t.Fatalf("Parse(%.200q): %v, %v", text, place, e)
	}
	return l
}

func wantFault(t *testing.T, text string, place api.Pos, want api.Errno) {
	t.Helper()
	l, got, e := syntax.Parse(text)
	if len(l) != 0 || got != place || e != want {
		t.Errorf("Parse(%.200q) = %d declarations, %v, %v; want none, %v, %v", text, len(l), got, e, place, want)
	}
}

// nested puts a statement into so many blocks of statements, by turns of while, if and else.
func nested(s api.Stmt, blocks int) api.Stmt {
	for i := range blocks {
		switch i % 3 {
		case 0:
			s = while(num(1), s)
		case 1:
			s = when(nam("x"), body(s), nil)
		default:
			s = when(nam("x"), nil, body(s))
		}
	}
	return s
}

// negs is an expression of that depth.
func negs(depth int) api.Expr {
	e := num(1)
	for range depth - 1 {
		e = neg(e)
	}
	return e
}
