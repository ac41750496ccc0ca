package syntax

import "warp/api"

// tree is an expression with its depth: to ask for that anew at each part would take too long where many stand in one another.
type tree struct {
	api.Expr
	depth int
}

// expr reads an expression of the statement at that place.
func (r *reader) expr(at api.Pos) api.Expr {
	t := r.ranked(orRank)
	r.bound(t.depth, at)
	return t.Expr
}

// ranked reads an expression of that rank or a higher one.
func (r *reader) ranked(least int) tree {
	left, most := r.unary(), productRank
	for {
		o, rank := bySign(r.next().Text)
		if rank < least || rank > most {
			return left
		}
		r.drop()
		right := r.ranked(rank + 1)
		left = tree{
			api.Expr{Kind: api.ExprBin, Op: o.op, Args: []api.Expr{left.Expr, right.Expr}},
			1 + max(left.depth, right.depth),
		}
		// Signs of higher ranks went to the right part.
		most = rank
		if rank == compareRank {
			// What compares is not compared again.
			most--
		}
	}
}

func (r *reader) unary() tree {
	switch r.next().Text {
	case "-":
		return r.ahead(api.ExprNeg)
	case "!":
		return r.ahead(api.ExprNot)
	}
	return r.whole()
}

func (r *reader) ahead(kind api.ExprKind) tree {
	r.drop()
	part := r.unary()
	return tree{api.Expr{Kind: kind, Args: []api.Expr{part.Expr}}, 1 + part.depth}
}

func (r *reader) whole() tree {
	switch first := r.next(); {
	case first.Kind == api.TokNumber:
		return tree{api.Expr{Kind: api.ExprNum, Num: r.number()}, 1}
	case first.Kind == api.TokName:
		return r.named()
	case first.Text == "(":
		r.drop()
		t := r.ranked(orRank)
		r.take(")")
		return t
	default:
		panic(stray{first.Pos})
	}
}

func (r *reader) named() tree {
	name := r.name()
	if !r.sees("[") {
		return tree{api.Expr{Kind: api.ExprName, Name: name}, 1}
	}
	r.drop()
	index := r.ranked(orRank)
	r.take("]")
	return tree{api.Expr{Kind: api.ExprCell, Name: name, Args: []api.Expr{index.Expr}}, 1 + index.depth}
}
