package source

import (
	"slices"

	"warp/api"
)

// alike tells whether statements are the same but for names and places.
func alike(a, b []api.Stmt) bool { return slices.EqualFunc(a, b, alikeStmt) }

func alikeStmt(a, b api.Stmt) bool {
	return a.Kind == b.Kind && a.ID == b.ID && a.Slot == b.Slot && a.Other == b.Other && a.Local == b.Local &&
		alikeExpr(a.Index, b.Index) && alikeExpr(a.Expr, b.Expr) && alike(a.Body, b.Body) && alike(a.Else, b.Else)
}

func alikeExpr(a, b api.Expr) bool {
	return a.Kind == b.Kind && a.Num == b.Num && a.Slot == b.Slot && a.Local == b.Local && a.Op == b.Op &&
		slices.EqualFunc(a.Args, b.Args, alikeExpr)
}
