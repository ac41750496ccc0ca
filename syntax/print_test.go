package syntax_test

import (
	"math"
	"strings"
	"testing"

	"warp/api"
	"warp/syntax"
)

// P2.2

func wantText(t *testing.T, l []api.Decl, want string) {
	t.Helper()
	before := dump(l)
	if e := syntax.Check(l); e != api.OK {
		t.Errorf("Check of %q: %v", want, e)
	}
	if got, e := syntax.Print(l); got != want || e != api.OK {
		t.Errorf("Print = %q, %v; want %q", got, e, want)
	}
	if after := dump(l); after != before {
		t.Errorf("of %q what was handed in is %s; it was %s", want, after, before)
	}
}

func wantNone(t *testing.T, why string, l []api.Decl) {
	t.Helper()
	if e := syntax.Check(l); e != api.ErrArg {
		t.Errorf("%s: Check = %v", why, e)
	}
	if got, e := syntax.Print(l); got != "" || e != api.ErrArg {
		t.Errorf("%s: Print = %q, %v", why, got, e)
	}
}

func wantExpr(t *testing.T, e api.Expr, want string) {
	t.Helper()
	if got, err := syntax.Expr(e); got != want || err != api.OK {
		t.Errorf("Expr(%+v) = %q, %v; want %q", e, got, err, want)
	}
	wantText(t, program(print(e)), "thread t {\n\tprint "+want+";\n}\n")
}

func TestPrintTellsTheChaptersExamples(t *testing.T) {
	wantText(t, parse(t, "var x=-3;thread main{print(x+1)*2;}"), "var x = -3;\nthread main {\n\tprint (x + 1) * 2;\n}\n")
	for text, want := range map[string]string{"1-2-3": "1 - 2 - 3", "1-(2-3)": "1 - (2 - 3)", "-(-1)": "--1", "!a==b": "!a == b"} {
		wantExpr(t, exprOf(t, text), want)
	}
}

func TestPrintTellsEachDeclaration(t *testing.T) {
	wantText(t, nil, "")
	wantText(t, []api.Decl{}, "")
	wantText(t, []api.Decl{
		{Kind: api.DeclVar, Name: "x", Num: 3}, {Kind: api.DeclVar, Name: "y", Num: -3}, {Kind: api.DeclVar, Name: "z"},
		{Kind: api.DeclVar, Name: "x", Num: 1<<31 - 1}, {Kind: api.DeclVar, Name: "x", Num: -(1<<31 - 1)},
		{Kind: api.DeclArray, Name: "a"}, {Kind: api.DeclArray, Name: "a", Num: 1<<31 - 1},
		{Kind: api.DeclMutex, Name: "m"}, {Kind: api.DeclCond, Name: "c"}, {Kind: api.DeclChan, Name: "q", Num: 2},
		{Kind: api.DeclThread, Name: "t"}, {Kind: api.DeclThread, Name: "main", Body: body(join()), Pos: at(-4, 1<<40)},
	}, "var x = 3;\nvar y = -3;\nvar z = 0;\nvar x = 2147483647;\nvar x = -2147483647;\narray a 0;\narray a 2147483647;\nmutex m;\ncond c;\nchan q 2;\nthread t {\n}\nthread main {\n\tjoin;\n}\n")
}

func TestPrintTellsEachStatement(t *testing.T) {
	for text, want := range map[string]string{
		"let y = 1;":              "\tlet y = 1;\n",
		"y = x;":                  "\ty = x;\n",
		"a[x] = 1;":               "\ta[x] = 1;\n",
		"a[a[1]] = a[x];":         "\ta[a[1]] = a[x];\n",
		"if x { }":                "\tif x {\n\t}\n",
		"if x { } else { }":       "\tif x {\n\t}\n",
		"if x { join; }":          "\tif x {\n\t\tjoin;\n\t}\n",
		"if x { } else { join; }": "\tif x {\n\t} else {\n\t\tjoin;\n\t}\n",
		"if x { join; } else { print 1; print x; }": "\tif x {\n\t\tjoin;\n\t} else {\n\t\tprint 1;\n\t\tprint x;\n\t}\n",
		"if x { if 1 { } else { join; } }":          "\tif x {\n\t\tif 1 {\n\t\t} else {\n\t\t\tjoin;\n\t\t}\n\t}\n",
		"if x { if 1 { } } else { join; }":          "\tif x {\n\t\tif 1 {\n\t\t}\n\t} else {\n\t\tjoin;\n\t}\n",
		"while x { }":                               "\twhile x {\n\t}\n",
		"while 1 { join; while x { } }":             "\twhile 1 {\n\t\tjoin;\n\t\twhile x {\n\t\t}\n\t}\n",
		"lock m;":                                   "\tlock m;\n",
		"unlock m;":                                 "\tunlock m;\n",
		"wait c m;":                                 "\twait c m;\n",
		"signal c;":                                 "\tsignal c;\n",
		"all c;":                                    "\tall c;\n",
		"send q x;":                                 "\tsend q x;\n",
		"send q -1;":                                "\tsend q -1;\n",
		"recv q x;":                                 "\trecv q x;\n",
		"spawn t;":                                  "\tspawn t;\n",
		"join;":                                     "\tjoin;\n",
		"print x;":                                  "\tprint x;\n",
		"print (1);":                                "\tprint 1;\n",
	} {
		s, ok := statements()[text]
		if !ok {
			t.Fatalf("no statement %q", text)
		}
		wantText(t, program(s, s), "thread t {\n"+want+want+"}\n")
		deeper := "\t" + strings.ReplaceAll(strings.TrimSuffix(want, "\n"), "\n", "\n\t") + "\n"
		wantText(t, program(while(nam("x"), s)), "thread t {\n\twhile x {\n"+deeper+"\t}\n}\n")
	}
	if len(statements()) != 25 {
		t.Errorf("%d statements", len(statements()))
	}
}

func TestExprTellsEachExpression(t *testing.T) {
	a, b := nam("a"), nam("b")
	for want, e := range map[string]api.Expr{
		"0":                             num(0),
		"2147483647":                    num(1<<31 - 1),
		"a":                             a,
		"abcdefghijklmnop":              nam("abcdefghijklmnop"),
		"a[0]":                          cell("a", num(0)),
		"a[b[-1]]":                      cell("a", cell("b", neg(num(1)))),
		"a[a || b] && b":                bin(api.OpAnd, cell("a", bin(api.OpOr, a, b)), b),
		"-a":                            neg(a),
		"!-!a":                          not(neg(not(a))),
		"-a[1]":                         neg(cell("a", num(1))),
		"-(a + 1)":                      neg(bin(api.OpAdd, a, num(1))),
		"!(a == b)":                     not(bin(api.OpEq, a, b)),
		"!(a * b)":                      not(bin(api.OpMul, a, b)),
		"a - -b":                        bin(api.OpSub, a, neg(b)),
		"-a * !b":                       bin(api.OpMul, neg(a), not(b)),
		"(a || b) && a":                 bin(api.OpAnd, bin(api.OpOr, a, b), a),
		"a || b && a":                   bin(api.OpOr, a, bin(api.OpAnd, b, a)),
		"a && (b && a)":                 bin(api.OpAnd, a, bin(api.OpAnd, b, a)),
		"a && b && a":                   bin(api.OpAnd, bin(api.OpAnd, a, b), a),
		"(a == b) == a":                 bin(api.OpEq, bin(api.OpEq, a, b), a),
		"a < (b <= a)":                  bin(api.OpLt, a, bin(api.OpLe, b, a)),
		"a + b < a % b":                 bin(api.OpLt, bin(api.OpAdd, a, b), bin(api.OpMod, a, b)),
		"(a < b) + (a || b) * -(a - b)": bin(api.OpAdd, bin(api.OpLt, a, b), bin(api.OpMul, bin(api.OpOr, a, b), neg(bin(api.OpSub, a, b)))),
	} {
		wantExpr(t, e, want)
	}
}

func TestExprSetsParenthesesJustWhereTheTreeAsks(t *testing.T) {
	a, b, c := nam("a"), nam("b"), nam("c")
	for _, p := range grouping {
		wantExpr(t, bin(p.op, neg(a), not(b)), "-a "+p.sign+" !b")
		wantExpr(t, neg(bin(p.op, a, b)), "-(a "+p.sign+" b)")
		wantExpr(t, not(bin(p.op, a, b)), "!(a "+p.sign+" b)")
		wantExpr(t, cell("a", bin(p.op, a, b)), "a[a "+p.sign+" b]")
		for _, q := range grouping {
			left, right := "a "+q.sign+" b", "b "+q.sign+" c"
			if q.rank < p.rank || q.rank == p.rank && p.rank == 3 {
				left = "(" + left + ")"
			}
			if q.rank <= p.rank {
				right = "(" + right + ")"
			}
			wantExpr(t, bin(p.op, bin(q.op, a, b), c), left+" "+p.sign+" c")
			wantExpr(t, bin(p.op, a, bin(q.op, b, c)), "a "+p.sign+" "+right)
		}
	}
}

func TestCheckTakesNoDeclarationThatMayNotBe(t *testing.T) {
	for _, k := range []api.DeclKind{api.DeclNone, -1, api.DeclThread + 1, math.MaxInt, math.MinInt} {
		wantNone(t, "a kind", []api.Decl{{Kind: k, Name: "x"}})
	}
	wantNone(t, "the second one", []api.Decl{{Kind: api.DeclMutex, Name: "m"}, {}})
	for k := api.DeclVar; k <= api.DeclThread; k++ {
		good := api.Decl{Kind: k, Name: "x", Pos: at(-1, 7)}
		if e := syntax.Check([]api.Decl{good}); e != api.OK {
			t.Errorf("kind %d: %v", k, e)
		}
		for _, name := range badNames() {
			bad := good
			bad.Name = name
			wantNone(t, "a name", []api.Decl{bad})
		}
		numbers := map[int64]bool{0: true, 1: false, -1: false, 1<<31 - 1: false, -(1<<31 - 1): false, 1 << 31: false, -1 << 31: false, math.MaxInt64: false, math.MinInt64: false}
		if k == api.DeclVar || k == api.DeclArray || k == api.DeclChan {
			numbers[1], numbers[1<<31-1] = true, true
		}
		if k == api.DeclVar {
			numbers[-1], numbers[-(1<<31-1)] = true, true
		}
		for n, fits := range numbers {
			d := good
			d.Num = n
			if fits && syntax.Check([]api.Decl{d}) != api.OK {
				t.Errorf("kind %d with %d", k, n)
			} else if !fits {
				wantNone(t, "a number", []api.Decl{d})
			}
		}
		if k != api.DeclThread {
			bad := good
			bad.Body = body(join())
			wantNone(t, "a body", []api.Decl{bad})
			good.Body = []api.Stmt{}
			if syntax.Check([]api.Decl{good}) != api.OK {
				t.Errorf("kind %d: an empty body is none", k)
			}
		}
	}
}

func badNames() []string {
	return []string{"", "X", "1", "1x", "a b", "a-b", "if", "var", "join", "abcdefghijklmnopq", "\xff", "x\n", "x;", "x = 1; y", strings.Repeat("x", 1<<16)}
}

func TestCheckTakesNoStatementThatMayNotBe(t *testing.T) {
	for _, k := range []api.StmtKind{api.StmtNone, -1, api.StmtPrint + 1, math.MaxInt, math.MinInt} {
		wantNone(t, "a kind", program(api.Stmt{Kind: k}))
		wantNone(t, "a kind", program(join(), api.Stmt{Kind: k, Name: "x", Expr: num(1)}))
	}
	names := map[api.StmtKind]string{ // of each kind the fields that it names: n, w, i, e, b, o
		api.StmtLet: "ne", api.StmtSet: "ne", api.StmtPut: "nie", api.StmtIf: "ebo", api.StmtWhile: "eb", api.StmtLock: "n", api.StmtUnlock: "n", api.StmtWait: "nw",
		api.StmtSignal: "n", api.StmtAll: "n", api.StmtSend: "ne", api.StmtRecv: "nw", api.StmtSpawn: "n", api.StmtJoin: "", api.StmtPrint: "e",
	}
	for k, fields := range names {
		has := func(f string) bool { return strings.Contains(fields, f) }
		full := api.Stmt{Kind: k}
		if has("n") {
			full.Name = "x"
		}
		if has("w") {
			full.With = "y"
		}
		if has("i") {
			full.Index = num(1)
		}
		if has("e") {
			full.Expr = num(2)
		}
		check := func(why string, may bool, change func(*api.Stmt)) {
			t.Helper()
			s := full
			change(&s)
			for _, l := range [][]api.Decl{program(s), program(join(), while(num(1), s)), program(when(num(1), nil, body(s)))} {
				if !may {
					wantNone(t, why, l)
				} else if e := syntax.Check(l); e != api.OK {
					t.Errorf("kind %d, %s: %v", k, why, e)
				}
			}
		}
		check("as it must be", true, func(s *api.Stmt) {})
		check("what is found later", true, func(s *api.Stmt) { s.ID, s.Slot, s.Other, s.Local, s.Pos = -1, 1<<40, -7, true, at(0, -5) })
		check("empty lists", true, func(s *api.Stmt) {
			s.Body, s.Else, s.Index.Args, s.Expr.Args = []api.Stmt{}, []api.Stmt{}, []api.Expr{}, []api.Expr{}
		})
		check("a body", has("b"), func(s *api.Stmt) { s.Body = body(join()) })
		check("an else", has("o"), func(s *api.Stmt) { s.Else = body(join()) })
		check("a bad body", false, func(s *api.Stmt) { s.Body = body(join(), api.Stmt{}) })
		check("a bad else", false, func(s *api.Stmt) { s.Else = body(api.Stmt{}) })
		check("a name", has("n"), func(s *api.Stmt) { s.Name = "z" })
		check("a with", has("w"), func(s *api.Stmt) { s.With = "z" })
		for _, name := range badNames() {
			check("a name", name == "" && !has("n"), func(s *api.Stmt) { s.Name = name })
			check("a with", name == "" && !has("w"), func(s *api.Stmt) { s.With = name })
		}
		check("no index", !has("i"), func(s *api.Stmt) { s.Index = api.Expr{} })
		check("no expression", !has("e"), func(s *api.Stmt) { s.Expr = api.Expr{} })
		for _, e := range []api.Expr{num(0), nam("x"), cell("a", num(1)), negs(api.MaxDepth)} {
			check("an index", has("i"), func(s *api.Stmt) { s.Index = e })
			check("an expression", has("e"), func(s *api.Stmt) { s.Expr = e })
		}
		bad := append(badExprs(), api.Expr{Num: 1}, api.Expr{Name: "x"}, api.Expr{Op: api.OpAdd}, api.Expr{Op: -1}, api.Expr{Args: list(num(1))})
		for _, e := range bad {
			check("a bad index", false, func(s *api.Stmt) { s.Index = e })
			check("a bad expression", false, func(s *api.Stmt) { s.Expr = e })
		}
	}
}

// badExprs are such as no statement may have.
func badExprs() []api.Expr {
	l := []api.Expr{
		{Kind: -1}, {Kind: api.ExprBin + 1}, {Kind: math.MaxInt}, {Kind: math.MinInt},
		{Kind: api.ExprNone, Args: list(num(1))},
		num(-1), num(1 << 31), num(math.MaxInt64), num(math.MinInt64),
		{Kind: api.ExprNum, Name: "x"}, {Kind: api.ExprNum, Op: api.OpAdd}, {Kind: api.ExprNum, Args: list(num(1))},
		{Kind: api.ExprName}, {Kind: api.ExprName, Name: "x", Num: 1}, {Kind: api.ExprName, Name: "x", Op: api.OpMod}, {Kind: api.ExprName, Name: "x", Args: list(num(1))},
		{Kind: api.ExprCell, Name: "a"}, {Kind: api.ExprCell, Name: "a", Args: list(num(1), num(1))}, {Kind: api.ExprCell, Args: list(num(1))},
		{Kind: api.ExprCell, Name: "a", Num: -1, Args: list(num(1))}, {Kind: api.ExprCell, Name: "a", Op: 99, Args: list(num(1))}, cell("a", api.Expr{}),
		neg(api.Expr{}), not(api.Expr{}), neg(num(-1)), bin(api.OpAdd, num(1), api.Expr{}), bin(api.OpAdd, api.Expr{}, num(1)),
		bin(api.OpNone, num(1), num(2)), bin(-1, num(1), num(2)), bin(api.OpMod+1, num(1), num(2)), bin(math.MaxInt, num(1), num(2)),
		{Kind: api.ExprBin, Op: api.OpAdd}, {Kind: api.ExprBin, Op: api.OpAdd, Args: list(num(1))}, {Kind: api.ExprBin, Op: api.OpAdd, Args: list(num(1), num(2), num(3))},
		{Kind: api.ExprBin, Op: api.OpAdd, Num: 1, Args: list(num(1), num(2))}, {Kind: api.ExprBin, Op: api.OpAdd, Name: "x", Args: list(num(1), num(2))},
		negs(api.MaxDepth + 1), bin(api.OpOr, num(1), negs(api.MaxDepth)), cell("a", negs(api.MaxDepth)), negs(100000),
	}
	for _, k := range []api.ExprKind{api.ExprNeg, api.ExprNot} {
		l = append(l, api.Expr{Kind: k}, api.Expr{Kind: k, Args: list(num(1), num(2))}, api.Expr{Kind: k, Num: 1, Args: list(num(1))},
			api.Expr{Kind: k, Name: "x", Args: list(num(1))}, api.Expr{Kind: k, Op: api.OpSub, Args: list(num(1))})
	}
	for _, name := range badNames() {
		l = append(l, nam(name), cell(name, num(1)))
	}
	return l
}

func TestExprTakesNoneThatMayNotBe(t *testing.T) {
	for _, e := range append(badExprs(), api.Expr{}) {
		for _, x := range []api.Expr{e, not(e), cell("a", e), bin(api.OpLt, num(1), e), bin(api.OpLt, e, num(1))} {
			if got, err := syntax.Expr(x); got != "" || err != api.ErrArg {
				t.Errorf("Expr(%.200s) = %.40q, %v", dump(x), got, err)
			}
		}
	}
}

func TestWhatIsFoundLaterIsNotAsked(t *testing.T) {
	e := bin(api.OpAdd, api.Expr{Kind: api.ExprName, Name: "x", Slot: -1, Local: true}, api.Expr{Kind: api.ExprNum, Num: 1, Slot: 1 << 40})
	e.Slot, e.Local = 7, true
	wantExpr(t, e, "x + 1")
}

func TestCheckBoundsDepth(t *testing.T) {
	for _, s := range []api.Stmt{join(), print(num(1)), while(num(1)), when(num(1), nil, nil)} {
		if e := syntax.Check(program(nested(s, api.MaxDepth-1))); e != api.OK {
			t.Errorf("a statement in a block of MaxDepth: %v", e)
		}
		for _, n := range []int{api.MaxDepth, api.MaxDepth + 1, 2 * api.MaxDepth, 100000} {
			wantNone(t, "a block too deep", program(nested(s, n)))
			wantNone(t, "a block too deep", program(join(), nested(s, n)))
		}
	}
	if e := syntax.Check(program(nested(print(negs(api.MaxDepth)), api.MaxDepth-1))); e != api.OK {
		t.Errorf("the deepest expression in the deepest block: %v", e)
	}
	wantNone(t, "an expression too deep", program(print(negs(api.MaxDepth+1))))
	if got, e := syntax.Expr(negs(api.MaxDepth)); got != strings.Repeat("-", api.MaxDepth-1)+"1" || e != api.OK {
		t.Errorf("%q, %v", got, e)
	}
	a := num(1)
	for range api.MaxDepth - 1 {
		a = bin(api.OpAdd, a, num(1))
	}
	wantExpr(t, a, "1"+strings.Repeat(" + 1", api.MaxDepth-1))
	wantNone(t, "an expression too deep", program(print(bin(api.OpAdd, a, num(1)))))
}

func TestCheckEndsWhereTreesStandInThemselves(t *testing.T) {
	args := list(num(1), num(1))
	args[0] = api.Expr{Kind: api.ExprBin, Op: api.OpAdd, Args: args}
	args[1] = args[0]
	if _, e := syntax.Expr(args[0]); e != api.ErrArg {
		t.Errorf("an expression in itself: %v", e)
	}
	wantNone(t, "an expression in itself", program(print(args[0])))
	l := body(join(), join(), join())
	l[1] = when(num(1), l, l)
	wantNone(t, "a block in itself", program(l...))
}

// Trees may be handed in that share their parts: what is asked of them is soon said all the same.
func TestCheckEndsWhereTreesShareTheirParts(t *testing.T) {
	e, s := nam("x"), print(num(1))
	for range api.MaxDepth - 1 {
		e, s = bin(api.OpAdd, e, e), when(nam("x"), body(s, s), body(s, s, s))
	}
	shared := program(print(e), s)
	if e := syntax.Check(shared); e != api.OK {
		t.Errorf("Check = %v", e)
	}
	wantNone(t, "too deep", program(print(bin(api.OpAdd, e, e))))
	wantNone(t, "too deep", program(while(num(1), s, s)))
	if !syntax.Same(shared, shared) {
		t.Error("the same are the same")
	}
	// A part that is not too deep in one place may be so in another one.
	deep := body(nested(join(), 3))
	wantNone(t, "too deep", program(when(num(1), deep, nil), nested(when(num(1), deep, nil), api.MaxDepth-4)))
	args := list(negs(3))
	ahead := api.Expr{Kind: api.ExprNeg, Args: args}
	below := ahead
	for range api.MaxDepth - 3 {
		below = neg(below)
	}
	wantNone(t, "too deep", program(print(bin(api.OpAdd, ahead, below))))
}
