package syntax

import (
	"strconv"
	"strings"

	"warp/api"
)

// writer writes what may be.
type writer struct{ strings.Builder }

func (w *writer) write(texts ...string) {
	for _, s := range texts {
		w.WriteString(s)
	}
}

func (w *writer) decl(d api.Decl) {
	w.write(declWords[d.Kind], " ", d.Name)
	switch d.Kind {
	case api.DeclVar:
		w.write(" = ", strconv.FormatInt(d.Num, 10))
	case api.DeclArray, api.DeclChan:
		w.write(" ", strconv.FormatInt(d.Num, 10))
	case api.DeclThread:
		w.block(d.Body, 0)
		w.write("\n")
		return
	}
	w.write(";\n")
}

// block writes from the blank ahead of { to }, of which the line has so many bytes 9 ahead.
func (w *writer) block(l []api.Stmt, tabs int) {
	w.write(" {\n")
	for _, s := range l {
		w.stmt(s, tabs+1)
	}
	w.indent(tabs)
	w.write("}")
}

func (w *writer) indent(tabs int) {
	for range tabs {
		w.WriteByte('\t')
	}
}

func (w *writer) stmt(s api.Stmt, tabs int) {
	w.indent(tabs)
	switch s.Kind {
	case api.StmtLet:
		w.write("let ", s.Name)
		w.worth(s.Expr)
	case api.StmtSet:
		w.write(s.Name)
		w.worth(s.Expr)
	case api.StmtPut:
		w.cell(s.Name, s.Index)
		w.worth(s.Expr)
	case api.StmtIf, api.StmtWhile:
		w.guarded(s, tabs)
		return
	default:
		w.plain(s)
	}
	w.write(";\n")
}

func (w *writer) worth(e api.Expr) {
	w.write(" = ")
	w.expr(e, orRank)
}

func (w *writer) guarded(s api.Stmt, tabs int) {
	w.write(stmtShapes[s.Kind].word, " ")
	w.expr(s.Expr, orRank)
	w.block(s.Body, tabs)
	if len(s.Else) > 0 {
		w.write(" else")
		w.block(s.Else, tabs)
	}
	w.write("\n")
}

func (w *writer) plain(s api.Stmt) {
	shape := stmtShapes[s.Kind]
	w.write(shape.word)
	if shape.name {
		w.write(" ", s.Name)
	}
	if shape.with {
		w.write(" ", s.With)
	}
	if shape.expr {
		w.write(" ")
		w.expr(s.Expr, orRank)
	}
}

func (w *writer) cell(name string, index api.Expr) {
	w.write(name, "[")
	w.expr(index, orRank)
	w.write("]")
}

// expr writes an expression where one of that rank, or a higher one, may stand.
func (w *writer) expr(e api.Expr, least int) {
	if rankOf(e) < least {
		w.write("(")
		defer w.write(")")
	}
	switch e.Kind {
	case api.ExprNum:
		w.write(strconv.FormatInt(e.Num, 10))
	case api.ExprName:
		w.write(e.Name)
	case api.ExprCell:
		w.cell(e.Name, e.Args[0])
	case api.ExprNeg:
		w.write("-")
		w.expr(e.Args[0], aheadRank)
	case api.ExprNot:
		w.write("!")
		w.expr(e.Args[0], aheadRank)
	case api.ExprBin:
		w.between(e)
	}
}

func (w *writer) between(e api.Expr) {
	o, rank := byOp(e.Op)
	left := rank
	if rank == compareRank {
		// What compares is not compared again, on neither side.
		left++
	}
	w.expr(e.Args[0], left)
	w.write(" ", o.sign, " ")
	w.expr(e.Args[1], rank+1)
}

// rankOf: what stands alone, or behind a sign, may stand wherever an expression may.
func rankOf(e api.Expr) int {
	if e.Kind == api.ExprBin {
		_, rank := byOp(e.Op)
		return rank
	}
	return aheadRank
}
