package syntax

import (
	"slices"

	"warp/api"
)

// compare holds two programs against each other, tree by tree.
func compare(a, b []api.Decl) bool {
	args, blocks := marks[[2]list[api.Expr]]{}, marks[[2]list[api.Stmt]]{}
	var expr func(x, y *api.Expr) bool
	expr = func(x, y *api.Expr) bool {
		return x.Kind == y.Kind && x.Num == y.Num && x.Name == y.Name && x.Op == y.Op &&
			alike(args, x.Args, y.Args, expr)
	}
	var stmt func(x, y *api.Stmt) bool
	stmt = func(x, y *api.Stmt) bool {
		return x.Kind == y.Kind && x.Name == y.Name && x.With == y.With &&
			expr(&x.Index, &y.Index) && expr(&x.Expr, &y.Expr) &&
			alike(blocks, x.Body, y.Body, stmt) && alike(blocks, x.Else, y.Else, stmt)
	}
	return slices.EqualFunc(a, b, func(x, y api.Decl) bool {
		return x.Kind == y.Kind && x.Name == y.Name && x.Num == y.Num && alike(blocks, x.Body, y.Body, stmt)
	})
}

// alike takes two lists that it was handed before as the same: if they are not, that was found or will be.
func alike[T any](done marks[[2]list[T]], a, b []T, same func(x, y *T) bool) bool {
	if len(a) != len(b) {
		return false
	}
	if len(a) == 0 || !done.add([2]list[T]{listOf(a), listOf(b)}) {
		return true
	}
	for i := range a {
		if !same(&a[i], &b[i]) {
			return false
		}
	}
	return true
}
