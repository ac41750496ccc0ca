package syntax_test

import (
	"iter"
	"strconv"
	"testing"

	"warp/api"
	"warp/syntax"
)

// P2.3

type told struct {
	depth int
	stmt  string
}

func all(seq iter.Seq2[int, api.Stmt]) []told {
	var l []told
	for depth, s := range seq {
		l = append(l, told{depth, dump(s)})
	}
	return l
}

func let(name string) api.Stmt { return api.Stmt{Kind: api.StmtLet, Name: name, Expr: num(1)} }

// tangle has statements of all depths up to 4, and in which order Stmts must tell them.
func tangle() (api.Decl, []told) {
	f := while(num(1), let("g"))
	d := when(nam("d"), body(let("e"), f), body(let("h")))
	i := when(nam("i"), nil, body(let("j"), while(num(2))))
	l := body(let("a"), while(nam("b"), let("c"), d), i, let("k"))
	tell := func(depth int, s api.Stmt) told { return told{depth, dump(s)} }
	return thread(l...), []told{
		tell(1, l[0]), tell(1, l[1]), tell(2, let("c")), tell(2, d), tell(3, let("e")), tell(3, f), tell(4, let("g")), tell(3, let("h")),
		tell(1, i), tell(2, let("j")), tell(2, while(num(2))), tell(1, l[3]),
	}
}

func TestStmtsGoesOverAll(t *testing.T) {
	d, want := tangle()
	seq := syntax.Stmts(d)
	for range 3 {
		if got := all(seq); dump(got) != dump(want) {
			t.Fatalf("%v; want %v", got, want)
		}
	}
	for range syntax.Stmts(api.Decl{}) {
		t.Error("a declaration of nothing has no statements")
	}
	for range syntax.Stmts(thread()) {
		t.Error("a thread without statements has none")
	}
}

func TestStmtsMayBeLeft(t *testing.T) {
	d, want := tangle()
	seq := syntax.Stmts(d)
	for n := 1; n <= len(want); n++ {
		var got []told
		for depth, s := range seq {
			if got = append(got, told{depth, dump(s)}); len(got) == n {
				break
			}
		}
		if dump(got) != dump(want[:n]) {
			t.Fatalf("the first %d: %v", n, got)
		}
	}
	// One may be gone over while another one is.
	n := 0
	for range seq {
		n += len(all(seq))
	}
	if n != len(want)*len(want) {
		t.Errorf("%d", n)
	}
}

func TestStmtsKeepsNothingAndSharesNothing(t *testing.T) {
	d, want := tangle()
	seq := syntax.Stmts(d)
	spoil := func(l []api.Stmt) {
		for i := range l {
			for j := range l[i].Body {
				l[i].Body[j].Body, l[i].Body[j].Kind = nil, api.StmtJoin
			}
			for j := range l[i].Else {
				l[i].Else[j] = join()
			}
			l[i] = join()
		}
	}
	spoil(d.Body)
	if got := all(seq); dump(got) != dump(want) {
		t.Fatalf("behind a change of what was handed in: %v; want %v", got, want)
	}
	var got []told
	for depth, s := range seq {
		got = append(got, told{depth, dump(s)})
		spoil(s.Body)
		spoil(s.Else)
	}
	if dump(got) != dump(want) || dump(all(seq)) != dump(want) {
		t.Fatalf("behind a change of what was told: %v; want %v", got, want)
	}
	args := list(num(1), num(2))
	x := api.Stmt{Kind: api.StmtPut, Name: "a", Index: bin(api.OpAdd, args[0], args[1]), Expr: api.Expr{Kind: api.ExprBin, Op: api.OpAdd, Args: args}}
	shared := thread(when(num(1), body(x), body(x)))
	before := dump(shared)
	for _, s := range syntax.Stmts(shared) {
		if s.Kind == api.StmtIf {
			s.Body[0].Expr.Args[0] = num(7)
			if dump(s.Else[0]) != dump(x) {
				t.Errorf("an answer shares memory within itself: %+v", s)
			}
		}
		if s.Kind == api.StmtPut {
			s.Expr.Args[1], s.Index.Args[0] = num(8), num(9)
		}
	}
	if dump(shared) != before {
		t.Errorf("what was handed in is %+v; it was %s", shared, before)
	}
}

func TestStmtsOfDeepOnes(t *testing.T) {
	const deep = 300
	n := 0
	for depth, s := range syntax.Stmts(thread(nested(join(), deep))) {
		if n++; depth != n || (s.Kind == api.StmtJoin) != (n == deep+1) {
			t.Fatalf("%d: depth %d, kind %d", n, depth, s.Kind)
		}
	}
	if n != deep+1 {
		t.Errorf("%d statements", n)
	}
	l := body(join(), join(), print(num(1)))
	l[1] = when(num(1), l, l)
	args := list(num(1))
	args[0] = neg(num(1))
	args[0].Args = args
	l[2].Expr = args[0]
	if got := all(syntax.Stmts(thread(l...))); len(got) != 3 {
		t.Errorf("a block in itself: %v", got)
	}
}

func wantSame(t *testing.T, why string, a, b []api.Decl, want bool) {
	t.Helper()
	before := dump(a) + dump(b)
	if syntax.Same(a, b) != want || syntax.Same(b, a) != want {
		t.Errorf("%s: not %v", why, want)
	}
	if dump(a)+dump(b) != before {
		t.Errorf("%s: what was handed in was changed", why)
	}
}

func rich(t *testing.T) []api.Decl {
	return parse(t, "var x = 1; array a 4; mutex m; cond c; chan q 2; thread main { let y = a[1] + -x; if !y { wait c m; a[x] = y; } else { recv q y; while x { join; } } } thread t { print 1; }")
}

func TestSameTellsTheSame(t *testing.T) {
	wantSame(t, "nothing", nil, nil, true)
	wantSame(t, "nothing", nil, []api.Decl{}, true)
	wantSame(t, "nothing and something", nil, rich(t), false)
	wantSame(t, "zeros", []api.Decl{{}}, []api.Decl{{Body: []api.Stmt{}}}, true)
	wantSame(t, "nothing and a zero", nil, []api.Decl{{}}, false)
	wantSame(t, "one and two", rich(t)[:1], rich(t)[:2], false)
	wantSame(t, "itself", rich(t), rich(t), true)
	l := rich(t)
	wantSame(t, "itself", l, l, true)
	l[0], l[1] = l[1], l[0]
	wantSame(t, "in another order", l, rich(t), false)
	wantSame(t, "other words", parse(t, "thread t { if (x) { } else { } print (1+2)+3; }"), parse(t, "#\nthread t{if x{}print 1+2+3;}"), true)
	wantSame(t, "other groups", parse(t, "thread t { print 1+(2+3); }"), parse(t, "thread t { print 1+2+3; }"), false)
}

func TestSameAsksNoPlacesAndNothingFoundLater(t *testing.T) {
	l := rich(t)
	for i := range l {
		l[i].Pos = at(i, -i)
	}
	n := 0
	var later func(s *api.Stmt)
	laterExpr := func(e *api.Expr) {
		e.Slot, e.Local = n, true
		for i := range e.Args {
			e.Args[i].Slot, e.Args[i].Local = n, true
		}
	}
	later = func(s *api.Stmt) {
		n++
		s.Pos, s.ID, s.Slot, s.Other, s.Local = at(n, n), n, n, -n, true
		laterExpr(&s.Expr)
		laterExpr(&s.Index)
		for i := range s.Body {
			later(&s.Body[i])
		}
		for i := range s.Else {
			later(&s.Else[i])
		}
	}
	for i := range l {
		for j := range l[i].Body {
			later(&l[i].Body[j])
		}
	}
	if n < 8 {
		t.Fatalf("only %d statements", n)
	}
	wantSame(t, "places, and what is found later", l, rich(t), true)
}

func TestSameAsksAllElse(t *testing.T) {
	stmt := func(l []api.Decl) *api.Stmt { return &l[5].Body[1].Body[1] } // a[x] = y
	for i, change := range []func(l []api.Decl){
		func(l []api.Decl) { l[0].Kind = api.DeclArray },
		func(l []api.Decl) { l[0].Name = "z" },
		func(l []api.Decl) { l[0].Num = -1 },
		func(l []api.Decl) { l[0].Body = body(join()) },
		func(l []api.Decl) { l[4].Num++ },
		func(l []api.Decl) { l[6].Body = nil },
		func(l []api.Decl) { l[6].Body = append(l[6].Body, join()) },
		func(l []api.Decl) { l[6].Body[0].Expr.Num++ },
		func(l []api.Decl) { stmt(l).Kind = api.StmtSet },
		func(l []api.Decl) { stmt(l).Name = "b" },
		func(l []api.Decl) { stmt(l).With = "b" },
		func(l []api.Decl) { stmt(l).Expr.Kind = api.ExprNum },
		func(l []api.Decl) { stmt(l).Expr.Num = 1 },
		func(l []api.Decl) { stmt(l).Expr.Name = "x" },
		func(l []api.Decl) { stmt(l).Expr.Op = api.OpAdd },
		func(l []api.Decl) { stmt(l).Expr.Args = list(num(1)) },
		func(l []api.Decl) { stmt(l).Index.Name = "y" },
		func(l []api.Decl) { stmt(l).Index = num(1) },
		func(l []api.Decl) { stmt(l).Body = body(join()) },
		func(l []api.Decl) { stmt(l).Else = body(join()) },
		func(l []api.Decl) { l[5].Body[1].Body[0].With = "n" },
		func(l []api.Decl) { l[5].Body[1].Else[1].Body[0].Kind = api.StmtNone },
		func(l []api.Decl) { l[5].Body[1].Else[1].Expr.Name = "y" },
		func(l []api.Decl) { l[5].Body[1].Else = l[5].Body[1].Else[:1] },
		func(l []api.Decl) { l[5].Body[1].Body, l[5].Body[1].Else = l[5].Body[1].Else, l[5].Body[1].Body },
		func(l []api.Decl) { l[5].Body[0].Expr.Op = api.OpSub },
		func(l []api.Decl) { l[5].Body[0].Expr.Args[0].Args[0].Num = 2 },
		func(l []api.Decl) { l[5].Body[0].Expr.Args[1].Kind = api.ExprNot },
		func(l []api.Decl) { l[5].Body[0], l[5].Body[1] = l[5].Body[1], l[5].Body[0] },
	} {
		l := rich(t)
		change(l)
		wantSame(t, "change "+strconv.Itoa(i), l, rich(t), false)
	}
}

func TestSameOfWhatMayNotBe(t *testing.T) {
	wantSame(t, "bad kinds", []api.Decl{{Kind: -1}}, []api.Decl{{Kind: -1}}, true)
	wantSame(t, "bad kinds", []api.Decl{{Kind: -1}}, []api.Decl{{Kind: -2}}, false)
	deep := func(e, s int) []api.Decl { return program(print(negs(e)), nested(join(), s)) }
	if !syntax.Same(deep(300000, 50000), deep(300000, 50000)) {
		t.Error("deep ones that are the same")
	}
	if syntax.Same(deep(300000, 50000), deep(300001, 50000)) || syntax.Same(deep(300000, 50000), deep(300000, 50001)) {
		t.Error("deep ones that are not the same")
	}
}

func TestSameEndsWhereTreesStandInThemselves(t *testing.T) {
	ring := func(n int64) []api.Decl {
		args := list(num(n), num(1))
		args[1] = api.Expr{Kind: api.ExprBin, Op: api.OpAdd, Args: args}
		l := body(print(args[1]), join(), join())
		l[1], l[2] = when(num(1), l, l), while(num(2), l...)
		return program(l...)
	}
	if !syntax.Same(ring(1), ring(1)) || syntax.Same(ring(1), ring(2)) || syntax.Same(ring(1), rich(t)) {
		t.Error("what stands in itself is the same where each part is")
	}
}

func TestSameOfTreesThatShareTheirParts(t *testing.T) {
	l, args := body(print(num(1))), list(num(1))
	shared := func() []api.Decl {
		return program(when(num(1), l, l), print(bin(api.OpAdd, api.Expr{Kind: api.ExprNeg, Args: args}, api.Expr{Kind: api.ExprNeg, Args: args})))
	}
	apart := func(first, second, third, fourth int64) []api.Decl {
		return program(when(num(1), body(print(num(first))), body(print(num(second)))), print(bin(api.OpAdd, neg(num(third)), neg(num(fourth)))))
	}
	wantSame(t, "each part", shared(), apart(1, 1, 1, 1), true)
	wantSame(t, "each part", shared(), shared(), true)
	wantSame(t, "not the first part", shared(), apart(2, 1, 1, 1), false)
	wantSame(t, "not the second part", shared(), apart(1, 2, 1, 1), false)
	wantSame(t, "not the third part", shared(), apart(1, 1, 2, 1), false)
	wantSame(t, "not the fourth part", shared(), apart(1, 1, 1, 2), false)
}
