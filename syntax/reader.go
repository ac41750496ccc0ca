package syntax

import (
	"slices"

	"warp/api"
)

// reader reads a program of its words.
type reader struct {
	words
	kinds map[string]func(*reader, *api.Stmt)
	depth int     // of the block that is read
	deep  api.Pos // where the first statement is that is too deep; zero as long as there is none
}

// kinds are the statements that begin with a keyword: each reads what stands behind it.
func kinds() map[string]func(*reader, *api.Stmt) {
	return map[string]func(*reader, *api.Stmt){
		"let":    (*reader).let,
		"if":     (*reader).branch,
		"while":  (*reader).loop,
		"lock":   plain(api.StmtLock),
		"unlock": plain(api.StmtUnlock),
		"wait":   plain(api.StmtWait),
		"signal": plain(api.StmtSignal),
		"all":    plain(api.StmtAll),
		"send":   plain(api.StmtSend),
		"recv":   plain(api.StmtRecv),
		"spawn":  plain(api.StmtSpawn),
		"join":   plain(api.StmtJoin),
		"print":  plain(api.StmtPrint),
	}
}

func (r *reader) program() []api.Decl {
	var l []api.Decl
	for len(r.rest) > 0 {
		l = append(l, r.decl())
	}
	return l
}

func (r *reader) decl() api.Decl {
	first := r.next()
	kind := api.DeclKind(slices.Index(declWords, first.Text))
	if kind <= api.DeclNone {
		panic(stray{first.Pos})
	}
	r.drop()
	d := api.Decl{Kind: kind, Pos: first.Pos, Name: r.name()}
	switch kind {
	case api.DeclVar:
		r.take("=")
		d.Num = r.signed()
	case api.DeclArray, api.DeclChan:
		d.Num = r.number()
	case api.DeclThread:
		d.Body = r.block()
		return d
	}
	r.take(";")
	return d
}

func (r *reader) signed() int64 {
	if r.sees("-") {
		r.drop()
		return -r.number()
	}
	return r.number()
}

func (r *reader) block() []api.Stmt {
	r.take("{")
	r.depth++
	var l []api.Stmt
	for !r.sees("}") {
		l = append(l, r.stmt())
	}
	r.drop()
	r.depth--
	return l
}

func (r *reader) stmt() api.Stmt {
	first := r.next()
	s := api.Stmt{Pos: first.Pos}
	read, ok := r.kinds[first.Text]
	switch {
	case first.Kind == api.TokName:
		s.Name, read = first.Text, (*reader).assign
	case !ok:
		panic(stray{first.Pos})
	}
	r.bound(r.depth, s.Pos)
	r.drop()
	read(r, &s)
	return s
}

// bound keeps where the first statement is that is too deep: it is no fault as long as a word may still be one.
func (r *reader) bound(depth int, at api.Pos) {
	if depth > api.MaxDepth && r.deep == (api.Pos{}) {
		r.deep = at
	}
}

func (r *reader) let(s *api.Stmt) {
	s.Kind, s.Name = api.StmtLet, r.name()
	r.worth(s)
}

func (r *reader) assign(s *api.Stmt) {
	s.Kind = api.StmtSet
	if r.sees("[") {
		r.drop()
		s.Kind, s.Index = api.StmtPut, r.expr(s.Pos)
		r.take("]")
	}
	r.worth(s)
}

// worth reads what stands behind what is set.
func (r *reader) worth(s *api.Stmt) {
	r.take("=")
	s.Expr = r.expr(s.Pos)
	r.take(";")
}

func (r *reader) branch(s *api.Stmt) {
	s.Kind, s.Expr = api.StmtIf, r.expr(s.Pos)
	s.Body = r.block()
	if r.sees("else") {
		r.drop()
		s.Else = r.block()
	}
}

func (r *reader) loop(s *api.Stmt) {
	s.Kind, s.Expr = api.StmtWhile, r.expr(s.Pos)
	s.Body = r.block()
}

// plain reads what the kind names, one behind the other.
func plain(kind api.StmtKind) func(*reader, *api.Stmt) {
	return func(r *reader, s *api.Stmt) {
		s.Kind = kind
		shape := stmtShapes[kind]
		if shape.name {
			s.Name = r.name()
		}
		if shape.with {
			s.With = r.name()
		}
		if shape.expr {
			s.Expr = r.expr(s.Pos)
		}
		r.take(";")
	}
}
