package syntax_test

import (
	"strings"
	"testing"

	"warp/api"
	"warp/syntax"
)

// P2.1

func wantProgram(t *testing.T, text string, want ...api.Decl) {
	t.Helper()
	if got := parse(t, text); dump(got) != dump(want) {
		t.Errorf("Parse(%q) =\n%+v; want\n%+v", text, got, want)
	}
}

func TestParseTellsTheChaptersExamples(t *testing.T) {
	wantProgram(t, "var x=-3;thread main{print(x+1)*2;}",
		api.Decl{Kind: api.DeclVar, Pos: at(1, 1), Name: "x", Num: -3},
		api.Decl{Kind: api.DeclThread, Pos: at(1, 10), Name: "main", Body: body(
			api.Stmt{Kind: api.StmtPrint, Pos: at(1, 22), Expr: bin(api.OpMul, bin(api.OpAdd, nam("x"), num(1)), num(2))})})
	wantFault(t, "var x 3;", at(1, 7), api.ErrSyntax)
	wantFault(t, "thread t { print a < b < c;", at(1, 24), api.ErrSyntax)
}

func TestParseOfNothingTellsNoDeclarations(t *testing.T) {
	for _, s := range []string{"", " \n\t", "# var x = 1;"} {
		if l := parse(t, s); len(l) != 0 {
			t.Errorf("Parse(%q) = %v", s, l)
		}
	}
}

func TestParseTellsEachDeclaration(t *testing.T) {
	wantProgram(t, "var x = 3;\n var y = - 4;var z=-0;\narray a 0;array b 2147483647; mutex m ;\ncond c;\n\nchan q 2; thread t { } thread main{}",
		api.Decl{Kind: api.DeclVar, Pos: at(1, 1), Name: "x", Num: 3},
		api.Decl{Kind: api.DeclVar, Pos: at(2, 2), Name: "y", Num: -4},
		api.Decl{Kind: api.DeclVar, Pos: at(2, 14), Name: "z"},
		api.Decl{Kind: api.DeclArray, Pos: at(3, 1), Name: "a"},
		api.Decl{Kind: api.DeclArray, Pos: at(3, 11), Name: "b", Num: 1<<31 - 1},
		api.Decl{Kind: api.DeclMutex, Pos: at(3, 31), Name: "m"},
		api.Decl{Kind: api.DeclCond, Pos: at(4, 1), Name: "c"},
		api.Decl{Kind: api.DeclChan, Pos: at(6, 1), Name: "q", Num: 2},
		api.Decl{Kind: api.DeclThread, Pos: at(6, 11), Name: "t"},
		api.Decl{Kind: api.DeclThread, Pos: at(6, 24), Name: "main"})
	wantProgram(t, "var x = -2147483647; var x = 2147483647;",
		api.Decl{Kind: api.DeclVar, Pos: at(1, 1), Name: "x", Num: -(1<<31 - 1)},
		api.Decl{Kind: api.DeclVar, Pos: at(1, 22), Name: "x", Num: 1<<31 - 1})
}

// statements has a text for each kind, and the statement that it is.
func statements() map[string]api.Stmt {
	one, x := num(1), nam("x")
	return map[string]api.Stmt{
		"let y = 1;":              {Kind: api.StmtLet, Name: "y", Expr: one},
		"y = x;":                  {Kind: api.StmtSet, Name: "y", Expr: x},
		"a[x] = 1;":               {Kind: api.StmtPut, Name: "a", Index: x, Expr: one},
		"a[a[1]] = a[x];":         {Kind: api.StmtPut, Name: "a", Index: cell("a", one), Expr: cell("a", x)},
		"if x { }":                {Kind: api.StmtIf, Expr: x},
		"if x { } else { }":       {Kind: api.StmtIf, Expr: x},
		"if x { join; }":          when(x, body(join()), nil),
		"if x { } else { join; }": when(x, nil, body(join())),
		"if x { join; } else { print 1; print x; }": when(x, body(join()), body(print(one), print(x))),
		"if x { if 1 { } else { join; } }":          when(x, body(when(one, nil, body(join()))), nil),
		"if x { if 1 { } } else { join; }":          when(x, body(when(one, nil, nil)), body(join())),
		"while x { }":                               while(x),
		"while 1 { join; while x { } }":             while(one, join(), while(x)),
		"lock m;":                                   {Kind: api.StmtLock, Name: "m"},
		"unlock m;":                                 {Kind: api.StmtUnlock, Name: "m"},
		"wait c m;":                                 {Kind: api.StmtWait, Name: "c", With: "m"},
		"signal c;":                                 {Kind: api.StmtSignal, Name: "c"},
		"all c;":                                    {Kind: api.StmtAll, Name: "c"},
		"send q x;":                                 {Kind: api.StmtSend, Name: "q", Expr: x},
		"send q -1;":                                {Kind: api.StmtSend, Name: "q", Expr: neg(one)},
		"recv q x;":                                 {Kind: api.StmtRecv, Name: "q", With: "x"},
		"spawn t;":                                  {Kind: api.StmtSpawn, Name: "t"},
		"join;":                                     join(),
		"print x;":                                  print(x),
		"print (1);":                                print(one),
	}
}

func withoutPlaces(l []api.Stmt) []api.Stmt {
	for i := range l {
		l[i].Pos = api.Pos{}
		withoutPlaces(l[i].Body)
		withoutPlaces(l[i].Else)
	}
	return l
}

func TestParseTellsEachStatement(t *testing.T) {
	seen := map[api.StmtKind]bool{}
	for text, want := range statements() {
		for _, s := range []string{text, strings.ReplaceAll(text, " ", "\n\t"), strings.ReplaceAll(text, " ", " #\n")} {
			l := parse(t, "thread t {"+s+s+"}")
			if got, want := dump(withoutPlaces(l[0].Body)), dump(body(want, want)); got != want {
				t.Errorf("%q is %s; want %s", s, got, want)
			}
		}
		seen[want.Kind] = true
	}
	if len(seen) != int(api.StmtPrint) {
		t.Errorf("only these kinds: %v", seen)
	}
}

func TestParseTellsPlacesOfStatements(t *testing.T) {
	l := parse(t, "var n = 0;\n thread t {\n  if n {\n\tx = 1; a[1] = 2;\n  } else { join; }\n while 1 {\n}}")
	want := []api.Pos{at(3, 3), at(4, 2), at(4, 9), at(5, 12), at(6, 2)}
	var got []api.Pos
	for _, s := range syntax.Stmts(l[1]) {
		got = append(got, s.Pos)
	}
	if dump(got) != dump(want) || l[1].Pos != at(2, 2) {
		t.Errorf("%v; want %v", got, want)
	}
}

func exprOf(t *testing.T, text string) api.Expr {
	t.Helper()
	l := parse(t, "thread t { print "+text+"; }")
	return l[0].Body[0].Expr
}

func TestParseTellsEachExpression(t *testing.T) {
	a, b, c := nam("a"), nam("b"), nam("c")
	for text, want := range map[string]api.Expr{
		"0":                   num(0),
		"2147483647":          num(1<<31 - 1),
		"a":                   a,
		"(a)":                 a,
		"((((7))))":           num(7),
		"a[0]":                cell("a", num(0)),
		"a[b[c]]":             cell("a", cell("b", c)),
		"a[b + 1]":            cell("a", bin(api.OpAdd, b, num(1))),
		"-1":                  neg(num(1)),
		"--1":                 neg(neg(num(1))),
		"!!-!a":               not(not(neg(not(a)))),
		"-a[b]":               neg(cell("a", b)),
		"-(a)[b]":             {},
		"-a * b":              bin(api.OpMul, neg(a), b),
		"-(a * b)":            neg(bin(api.OpMul, a, b)),
		"!a == b":             bin(api.OpEq, not(a), b),
		"!(a == b)":           not(bin(api.OpEq, a, b)),
		"a - -b":              bin(api.OpSub, a, neg(b)),
		"a--b":                bin(api.OpSub, a, neg(b)),
		"1-2-3":               bin(api.OpSub, bin(api.OpSub, num(1), num(2)), num(3)),
		"1-(2-3)":             bin(api.OpSub, num(1), bin(api.OpSub, num(2), num(3))),
		"a || b && c":         bin(api.OpOr, a, bin(api.OpAnd, b, c)),
		"a && b || c":         bin(api.OpOr, bin(api.OpAnd, a, b), c),
		"a == b + c * -a":     bin(api.OpEq, a, bin(api.OpAdd, b, bin(api.OpMul, c, neg(a)))),
		"a * b + c < a && !b": bin(api.OpAnd, bin(api.OpLt, bin(api.OpAdd, bin(api.OpMul, a, b), c), a), not(b)),
		"(a < b) < c":         bin(api.OpLt, bin(api.OpLt, a, b), c),
		"a < (b < c)":         bin(api.OpLt, a, bin(api.OpLt, b, c)),
	} {
		if want.Kind == api.ExprNone {
			wantFault(t, "thread t { print "+text+"; }", at(1, 18+strings.Index(text, "[")), api.ErrSyntax)
		} else if got := exprOf(t, text); dump(got) != dump(want) {
			t.Errorf("%s is %+v; want %+v", text, got, want)
		}
	}
}

// grouping is the document's grammar once more: signs and how strongly they bind.
var grouping = []struct {
	sign string
	op   api.Op
	rank int
}{
	{"||", api.OpOr, 1}, {"&&", api.OpAnd, 2}, {"==", api.OpEq, 3}, {"!=", api.OpNe, 3}, {"<", api.OpLt, 3}, {"<=", api.OpLe, 3},
	{"+", api.OpAdd, 4}, {"-", api.OpSub, 4}, {"*", api.OpMul, 5}, {"/", api.OpDiv, 5}, {"%", api.OpMod, 5},
}

func TestParseGroupsEachTwoOperators(t *testing.T) {
	a, b, c := nam("a"), nam("b"), nam("c")
	for _, p := range grouping {
		if got, want := exprOf(t, "-a"+p.sign+"!b"), bin(p.op, neg(a), not(b)); dump(got) != dump(want) {
			t.Errorf("%s: %+v", p.sign, got)
		}
		for _, q := range grouping {
			text := "a " + p.sign + " b " + q.sign + " c"
			want := bin(q.op, bin(p.op, a, b), c)
			if p.rank < q.rank {
				want = bin(p.op, a, bin(q.op, b, c))
			}
			if p.rank == 3 && q.rank == 3 {
				wantFault(t, "thread t { print "+text+"; }", at(1, 22+len(p.sign)+1), api.ErrSyntax)
			} else if got := exprOf(t, text); dump(got) != dump(want) {
				t.Errorf("%s is %+v; want %+v", text, got, want)
			}
		}
	}
}

func TestParseTellsTheFirstWordThatCantStandThere(t *testing.T) {
	// The word at fault stands between two bytes ~, which are taken out.
	for _, s := range []string{
		"~x~", "~3~", "~;~", "~}~", "~let~ y = 1;", "~print~ 1;", "~else~", "var x = 1; ~;~", "var x = 1;\n~x~", "var x = 1; ~{~ }",
		"var ~3~ = 1;", "var ~var~ = 1;", "var x ~3~;", "var x ~==~ 1;", "var x = ~;~", "var x = ~y~;", "var x = - ~-~ 1;", "var x = -~x~;", "var x = 1 ~+~ 1;", "var x = ~(~1);", "var x = ~!~1;", "var x ~;~",
		"array a ~-~4;", "array a ~;~", "array a ~=~ 4;", "array a 4 ~4~;", "array a ~[~4];", "mutex ~;~", "mutex m ~=~ 1;", "mutex m ~1~;", "cond ~thread~;", "cond c ~c~;", "chan q ~;~", "chan q 2 ~}~", "chan q ~-~1;",
		"thread ~{~ }", "thread t ~;~", "thread t { } ~;~", "thread t { } ~}~", "thread ~1~ { }",
		"thread t { ~{~ } }", "thread t { ~;~ }", "thread t { ~1~ = 2; }", "thread t { ~var~ x = 1; }", "thread t { ~thread~ u { } }", "thread t { ~else~ { } }", "thread t { ~(~x) = 1; }", "thread t { ~mutex~ m; }",
		"thread t { let ~1~ = 1; }", "thread t { let y ~;~ }", "thread t { let y ~[~1] = 2; }", "thread t { let y = ~;~ }", "thread t { let ~if~ = 1; }",
		"thread t { x ~;~ }", "thread t { x ~+~ 1; }", "thread t { x ~==~ 1; }", "thread t { x = ~=~ 1; }", "thread t { x = 1 ~}~", "thread t { x = ~let~; }",
		"thread t { a[~]~ = 1; }", "thread t { a[1 ~=~ 2; }", "thread t { a[1] ~;~ }", "thread t { a[1]~[~2] = 1; }", "thread t { a[1 ~}~ 2] = 1; }", "thread t { a[1] ~==~ 1; }",
		"thread t { if ~{~ } }", "thread t { if x ~;~ }", "thread t { if x { } else ~if~ y { } }", "thread t { if x { } else ~;~ }", "thread t { if x { } else { } ~else~ { } }", "thread t { if x { } ~;~ }", "thread t { if x ~else~ { } }",
		"thread t { while ~{~ } }", "thread t { while x { } ~else~ { } }", "thread t { while x ~join~; }",
		"thread t { lock ~;~ }", "thread t { lock m ~m~; }", "thread t { lock ~1~; }", "thread t { unlock ~;~ }", "thread t { unlock m ~1~; }", "thread t { wait c ~;~ }", "thread t { wait ~;~ }", "thread t { wait c m ~m~; }", "thread t { wait c ~1~; }",
		"thread t { signal ~;~ }", "thread t { signal c ~m~; }", "thread t { all ~;~ }", "thread t { all c ~1~; }", "thread t { send ~;~ }", "thread t { send q ~;~ }", "thread t { send ~1~ 1; }", "thread t { send q 1 ~2~; }",
		"thread t { recv q ~;~ }", "thread t { recv q ~1~; }", "thread t { recv q a~[~1]; }", "thread t { spawn ~;~ }", "thread t { spawn t ~1~; }", "thread t { join ~x~; }", "thread t { join ~}~", "thread t { print ~;~ }", "thread t { print 1 ~2~; }",
		"thread t { print x ~y~; }", "thread t { print (1 ~;~ }", "thread t { print 1 ~)~; }", "thread t { print (~)~; }", "thread t { print a[~]~; }", "thread t { print a[1 ~)~; }", "thread t { print 1 + ~;~ }", "thread t { print ~+~ 1; }", "thread t { print 1 ~!~ 2; }",
		"thread t { print !~;~ }", "thread t { print -~)~; }", "thread t { print 1 * ~/~ 2; }", "thread t { print 1 ~=~ 2; }", "thread t { print 1~[~2]; }", "thread t { print (x)~[~2]; }", "thread t { print a == b ~!=~ c; }", "thread t { print a < b + c ~<=~ d; }", "thread t { print a && b < c ~<~ d; }", "thread t { print -a < b ~==~ c || d; }",
		"thread t { print ~while~; }", "thread t { print 1 && ~||~ 2; }", "var x = 1;\n\tvar y\n\t~2~;",
	} {
		text := strings.ReplaceAll(s, "~", "")
		ahead := s[:strings.Index(s, "~")]
		place := at(1+strings.Count(ahead, "\n"), len(ahead)-strings.LastIndex(ahead, "\n"))
		wantFault(t, text, place, api.ErrSyntax)
		wantFault(t, text+" x y z", place, api.ErrSyntax)
		wantFault(t, "\n#\n"+text, at(place.Line+2, place.Col), api.ErrSyntax)
	}
}

func TestParseTellsTheEndWhereWordsEndTooSoon(t *testing.T) {
	whole := "var x = -1; array a 4; mutex m; cond c; chan q 2; thread t { let y = a[1] + -2 * (x || !y); x = 1; a[2] = 3; if y { lock m; } else { unlock m; } " +
		"while x { wait c m; signal c; all c; } send q 1; recv q x; spawn t; join; print x; }"
	parse(t, whole)
	words := strings.Fields(whole)
	text := ""
	for i, w := range words[:len(words)-1] {
		text += w + " "
		done := i < 14 && strings.HasSuffix(w, ";")
		for _, end := range []string{"", " ", "\n", "#\n\n", " # x", "\n\t"} {
			all := text + end
			if done {
				parse(t, all)
				continue
			}
			wantFault(t, all, at(1+strings.Count(all, "\n"), len(all)-strings.LastIndex(all, "\n")), api.ErrSyntax)
		}
	}
}

func TestParseTellsLayerOnesErrorsFirst(t *testing.T) {
	wantFault(t, "var x 3; &", at(1, 10), api.ErrByte)
	wantFault(t, "} } abcdefghijklmnopq", at(1, 5), api.ErrName)
	wantFault(t, "var x = -2147483648;", at(1, 10), api.ErrNumber)
	wantFault(t, "var x = 1\n;;; 07", at(2, 5), api.ErrNumber)
	deep := "thread t { print " + strings.Repeat("-", api.MaxDepth) + "1; "
	wantFault(t, deep+"~", at(1, 1+len(deep)), api.ErrByte)
	wantFault(t, "}"+strings.Repeat(" ", api.MaxText), api.Pos{}, api.ErrLong)
	wantFault(t, deep+strings.Repeat("&", api.MaxText), api.Pos{}, api.ErrLong)
}

func TestParseBoundsTexts(t *testing.T) {
	text := "thread main { print 7; }"
	pad := strings.Repeat(" ", api.MaxText-len(text))
	for _, s := range []string{text + pad, pad + text, text + "#" + pad[1:]} {
		if l := parse(t, s); len(l) != 1 || len(l[0].Body) != 1 {
			t.Errorf("a text of MaxText bytes: %+v", l)
		}
		wantFault(t, s+" ", api.Pos{}, api.ErrLong)
	}
	wantFault(t, text+pad[1:]+"}", at(1, api.MaxText), api.ErrSyntax)
}

// deepExprs are texts of expressions of that depth, each deep in another way.
func deepExprs(depth int) []string {
	n := depth - 1
	return []string{
		strings.Repeat("-", n) + "1",
		strings.Repeat("!", n) + "x",
		strings.Repeat("a[", n) + "1" + strings.Repeat("]", n),
		"1" + strings.Repeat(" + x", n),
		"1" + strings.Repeat(" && x", n),
		strings.Repeat("(1 - ", n) + "1" + strings.Repeat(")", n),
		strings.Repeat("(1 < ", n) + "1" + strings.Repeat(")", n),
		"1 * -(2 || " + strings.Repeat("-", n-3) + "x)",
		strings.Repeat("((((-", n) + "1" + strings.Repeat("))))", n),
	}
}

func TestParseBoundsTheDepthOfExpressions(t *testing.T) {
	for i, good := range deepExprs(api.MaxDepth) {
		bad := deepExprs(api.MaxDepth + 1)[i]
		for _, s := range []string{"print ~;", "let y = ~;", "x = ~;", "a[~] = 1;", "a[1] = ~;", "a[~] = ~;", "send q ~;", "if ~ { }", "if ~ { } else { join; }", "while ~ { print 1; }"} {
			parse(t, "thread t { join; "+strings.ReplaceAll(s, "~", good)+" }")
			wantFault(t, "thread t { join; "+strings.ReplaceAll(s, "~", bad)+" }", at(1, 18), api.ErrDeep)
			wantFault(t, "thread t { join; if x {\n"+strings.ReplaceAll(s, "~", bad)+" } }", at(2, 1), api.ErrDeep)
		}
	}
	for _, n := range []int{1, api.MaxDepth, 1000, 30000} {
		parse(t, "thread t { print "+strings.Repeat("(", n)+"1"+strings.Repeat(")", n)+"; }")
	}
}

// blocks is a thread with a statement in a block of that depth; the statement is at the place that is told.
func blocks(depth int, statement string) (string, api.Pos) {
	open := "thread t {"
	for i := range depth - 1 {
		open += []string{" while 1 {", " if x {", " if x { } else {"}[i%3]
	}
	return open + " " + statement + strings.Repeat(" }", depth), at(1, len(open)+2)
}

func TestParseBoundsTheDepthOfBlocks(t *testing.T) {
	for _, s := range []string{"join;", "x = 1;", "a[1] = 2;", "if x { }", "if x { } else { }", "while 1 { }", "print 1;"} {
		good, _ := blocks(api.MaxDepth, s)
		parse(t, good)
		for depth := api.MaxDepth + 1; depth < api.MaxDepth+4; depth++ {
			bad, _ := blocks(depth, s)
			_, place := blocks(api.MaxDepth+1, s)
			// The first one that is too deep stands around those that are deeper.
			wantFault(t, bad, place, api.ErrDeep)
		}
	}
	empty, _ := blocks(api.MaxDepth+1, "")
	parse(t, empty)
	deepest, _ := blocks(api.MaxDepth, "print "+deepExprs(api.MaxDepth)[0]+";")
	parse(t, deepest)
	// The depth is that of the block, not of how many there were.
	parse(t, "thread t { "+strings.Repeat("if x { } else { } ", 100)+"}"+strings.Repeat("thread u { if x { } }", 100))
}

func TestParseTellsTheFirstStatementThatIsTooDeep(t *testing.T) {
	bad := deepExprs(api.MaxDepth + 1)[0]
	wantFault(t, "thread t { print "+bad+"; print "+bad+"; }", at(1, 12), api.ErrDeep)
	wantFault(t, "thread t { while "+bad+" { print "+bad+"; } }", at(1, 12), api.ErrDeep)
	wantFault(t, "thread t { join; }\nthread u { while 1 {\n print "+bad+"; }\n print "+bad+"; }", at(3, 2), api.ErrDeep)
	wantFault(t, "thread t { if 1 { join; } else {\nprint "+bad+"; } print "+bad+"; }", at(2, 1), api.ErrDeep)
	// A word that can't stand there counts ahead of it, wherever it is.
	wantFault(t, "thread t { print "+bad+"; }\n x", at(2, 2), api.ErrSyntax)
	wantFault(t, "thread t { print "+bad+"; ", at(1, 26+len(bad)-6), api.ErrSyntax)
	deep, _ := blocks(api.MaxDepth+1, "join;")
	wantFault(t, deep+"}", at(1, len(deep)+1), api.ErrSyntax)
}

func TestParseEndsAtTextsThatAreDeepAsCanBe(t *testing.T) {
	n := api.MaxText - 100
	for _, s := range []string{"(", "-", "!", "a[", "(1+", "-("} {
		text := "thread t { print " + strings.Repeat(s, n/len(s))
		wantFault(t, text, at(1, len(text)+1), api.ErrSyntax)
	}
	text := "thread t { " + strings.Repeat("if 1{", n/5)
	wantFault(t, text, at(1, len(text)+1), api.ErrSyntax)
	wantFault(t, "thread t { "+strings.Repeat("while 1{", 7000)+strings.Repeat("}", 7001), at(1, 12+8*api.MaxDepth), api.ErrDeep)
	wantFault(t, "thread t { print 1"+strings.Repeat("+1", n/2)+"; }", at(1, 12), api.ErrDeep)
	wantFault(t, "thread t { print "+strings.Repeat("-", n)+"1; }", at(1, 12), api.ErrDeep)
}

func TestParseTakesAnyBytes(t *testing.T) {
	wantFault(t, "\xff", at(1, 1), api.ErrByte)
	wantFault(t, "var \xc3\xa9 = 1;", at(1, 5), api.ErrByte)
	wantFault(t, "var x\x00", at(1, 6), api.ErrByte)
	wantProgram(t, "#\xff\xfe\nmutex m;", api.Decl{Kind: api.DeclMutex, Pos: at(2, 1), Name: "m"})
}

func TestParseAnswersAnew(t *testing.T) {
	text := "var x = 1; thread t { if x { print a[x] + 1; } else { join; } }"
	first := parse(t, text)
	want := dump(parse(t, text))
	first[0].Name = "y"
	first[1].Body[0].Else[0].Kind = api.StmtPrint
	first[1].Body[0].Body[0].Expr.Args[0].Args[0].Name = "z"
	if got := dump(parse(t, text)); got != want {
		t.Errorf("%s; want %s", got, want)
	}
}
