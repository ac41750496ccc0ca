package names_test

import (
	"reflect"
	"testing"

	"warp/api"
	"warp/names"
)

// P3.1, of declarations that were made by hand.

func num(n int64) api.Expr { return api.Expr{Kind: api.ExprNum, Num: n} }

func thread(l ...api.Stmt) []api.Decl {
	return []api.Decl{{Kind: api.DeclThread, Pos: at(9, 9), Name: "main", Body: l}}
}

func TestFindRefusesWhatLayer2Refuses(t *testing.T) {
	self := []api.Stmt{{Kind: api.StmtWhile, Expr: num(1)}}
	self[0].Body = self
	deep := num(1)
	for range api.MaxDepth {
		deep = api.Expr{Kind: api.ExprNeg, Args: []api.Expr{deep}}
	}
	for i, l := range [][]api.Decl{
		{{}},
		{{Kind: -1, Name: "x"}},
		{{Kind: 7, Name: "x"}},
		{{Kind: api.DeclVar}},
		{{Kind: api.DeclVar, Name: "var"}},
		{{Kind: api.DeclVar, Name: "\xff"}},
		{{Kind: api.DeclVar, Name: "x", Num: -1 << 31}},
		{{Kind: api.DeclVar, Name: "x", Num: 1 << 31}},
		{{Kind: api.DeclArray, Name: "x", Num: -1}},
		{{Kind: api.DeclArray, Name: "x", Num: 1 << 62}},
		{{Kind: api.DeclChan, Name: "x", Num: -1 << 63}},
		{{Kind: api.DeclMutex, Name: "x", Num: 1}},
		thread(api.Stmt{}),
		thread(api.Stmt{Kind: 99}),
		thread(api.Stmt{Kind: api.StmtLock}),
		thread(api.Stmt{Kind: api.StmtJoin, Name: "x"}),
		thread(api.Stmt{Kind: api.StmtPrint}),
		thread(api.Stmt{Kind: api.StmtPrint, Expr: api.Expr{Kind: api.ExprBin, Op: 99, Args: []api.Expr{num(1), num(1)}}}),
		thread(api.Stmt{Kind: api.StmtPrint, Expr: deep}),
		thread(self...),
	} {
		// It is told ahead of all flaws, wherever they are.
		twice := []api.Decl{{Kind: api.DeclVar, Pos: at(1, 1), Name: "v"}, {Kind: api.DeclVar, Pos: at(1, 2), Name: "v"}}
		for _, l := range [][]api.Decl{l, append(twice, l...)} {
			if p, place, e := names.Find(l); e != api.ErrArg || place != (api.Pos{}) || !reflect.DeepEqual(p, api.Prog{}) {
				t.Errorf("%d: %v, %v, %v", i, p, place, e)
			}
		}
	}
	for _, l := range [][]api.Decl{nil, {}} {
		if p, place, e := names.Find(l); e != api.ErrMain || place != (api.Pos{}) || !reflect.DeepEqual(p, api.Prog{}) {
			t.Errorf("nothing: %v, %v, %v", p, place, e)
		}
	}
	if _, _, e := names.Find([]api.Decl{{Kind: api.DeclThread, Name: "main", Body: []api.Stmt{}}}); e != api.OK {
		t.Errorf("a body that is empty: %v", e)
	}
}

func TestPlacesAreTakenAsTheyAre(t *testing.T) {
	for _, place := range []api.Pos{{}, {Line: -1, Col: -1 << 62}, {Line: 1 << 62, Col: 7}} {
		l := thread(api.Stmt{Kind: api.StmtLock, Pos: place, Name: "m"})
		if _, got, e := names.Find(l); got != place || e != api.ErrUnknown {
			t.Errorf("%v, %v; want %v", got, e, place)
		}
		l = append(l, api.Decl{Kind: api.DeclMutex, Name: "main", Pos: place})
		if _, got, e := names.Find(l); got != place || e != api.ErrTwice {
			t.Errorf("%v, %v; want %v", got, e, place)
		}
	}
}

// What was found ahead, of another program perhaps, is found anew.
func TestFindAsksNothingThatIsFound(t *testing.T) {
	want := found(t, rich)
	l := parse(t, rich)
	n := 5
	for i := range l {
		each(l[i].Body, func(s *api.Stmt) {
			n++
			s.ID, s.Slot, s.Other, s.Local = -n, n, 3*n, true
			eachPart(s, func(e *api.Expr) { e.Slot, e.Local = -2*n, true })
		})
	}
	p, _, e := names.Find(l)
	if e != api.OK || dump(p) != dump(want) {
		t.Errorf("%v, %+v; want %+v", e, p, want)
	}
}

// roomy moves a list to where there is spare room behind it, in which something stands.
func roomy[T any](l []T, behind T) []T {
	return append(append(make([]T, 0, len(l)+1), l...), behind)[:len(l)]
}

func TestFindChangesNothingAndSharesNothing(t *testing.T) {
	l := parse(t, rich)
	for i := range l {
		each(l[i].Body, func(s *api.Stmt) {
			s.Body, s.Else = roomy(s.Body, api.Stmt{Name: "behind"}), roomy(s.Else, api.Stmt{Name: "behind"})
			eachPart(s, func(e *api.Expr) { e.Args = roomy(e.Args, num(77)) })
		})
		l[i].Body = roomy(l[i].Body, api.Stmt{Name: "behind"})
	}
	l = roomy(l, api.Decl{Name: "behind"})
	whole := func() string {
		text := dump(l[:cap(l)])
		for _, d := range l {
			text += dump(d.Body[:cap(d.Body)])
			each(d.Body, func(s *api.Stmt) {
				text += dump(s.Body[:cap(s.Body)]) + dump(s.Else[:cap(s.Else)])
				eachPart(s, func(e *api.Expr) { text += dump(e.Args[:cap(e.Args)]) })
			})
		}
		return text
	}
	before := whole()
	p, _, e := names.Find(l)
	if e != api.OK || dump(p) != dump(found(t, rich)) {
		t.Fatalf("%v, %+v", e, p)
	}
	wantApart(t, p, l)
	again, _, _ := names.Find(l)
	wantApart(t, p, again)
	if _, _, e := names.Find(append(l[:len(l):len(l)], l[0])); e != api.ErrTwice {
		t.Error(e)
	}
	if whole() != before {
		t.Errorf("what was handed in was changed")
	}
}

// One list may stand in many places of what is handed in; what is found is of each place its own.
func TestFindOfTreesThatShareTheirParts(t *testing.T) {
	y, args := api.Expr{Kind: api.ExprName, Name: "y"}, []api.Expr{{Kind: api.ExprName, Name: "y"}}
	minus := api.Expr{Kind: api.ExprNeg, Args: args}
	both := api.Expr{Kind: api.ExprBin, Op: api.OpAdd, Args: []api.Expr{minus, minus}}
	block := []api.Stmt{{Kind: api.StmtLet, Name: "y", Expr: num(1)}, {Kind: api.StmtPrint, Expr: both}}
	body := []api.Stmt{
		{Kind: api.StmtPrint, Expr: both},
		{Kind: api.StmtIf, Expr: num(1), Body: []api.Stmt{{Kind: api.StmtLet, Name: "z", Expr: y}, {Kind: api.StmtPut, Name: "a", Index: both, Expr: minus}}},
	}
	l := []api.Decl{
		{Kind: api.DeclVar, Name: "x"}, {Kind: api.DeclVar, Name: "y"}, {Kind: api.DeclArray, Name: "a", Num: 1},
		{Kind: api.DeclThread, Name: "main", Body: body}, {Kind: api.DeclThread, Name: "t", Body: body},
	}
	p, _, e := names.Find(l)
	if e != api.OK {
		t.Fatal(e)
	}
	wantSeen(t, p,
		"0 0 0 y=1 y=1", "1 0 0", "2 0 0l y=1", "3 0 0 y=1 y=1 y=1",
		"4 0 0 y=1 y=1", "5 0 0", "6 0 0l y=1", "7 0 0 y=1 y=1 y=1")
	wantApart(t, p, l)
	// Here the name is a local, and not of the same slot each time.
	l = []api.Decl{{Kind: api.DeclThread, Name: "main", Body: []api.Stmt{
		{Kind: api.StmtIf, Expr: num(1), Body: block, Else: []api.Stmt{
			{Kind: api.StmtLet, Name: "z", Expr: num(1)}, {Kind: api.StmtWhile, Expr: num(1), Body: block},
			{Kind: api.StmtLet, Name: "u", Expr: num(1)}, {Kind: api.StmtWhile, Expr: num(1), Body: block},
		}},
	}}}
	if p, _, e = names.Find(l); e != api.OK {
		t.Fatal(e)
	}
	wantSeen(t, p, "0 0 0",
		"1 0 0l", "2 0 0 y=0l y=0l",
		"3 0 0l", "4 0 0", "5 1 0l", "6 0 0 y=1l y=1l",
		"7 1 0l", "8 0 0", "9 2 0l", "10 0 0 y=2l y=2l")
	wantApart(t, p, l)
}

// doubled is a sum of two that are one and the same, and so on: its parts are very many, its lists few.
func doubled(deep int, last api.Expr) api.Expr {
	for range deep - 1 {
		last = api.Expr{Kind: api.ExprBin, Op: api.OpAdd, Args: []api.Expr{last, last}}
	}
	return last
}

func TestAFlawBehindVeryManyPartsIsFound(t *testing.T) {
	x := api.Expr{Kind: api.ExprName, Name: "x"}
	l := append(thread(), api.Decl{Kind: api.DeclVar, Name: "x"})
	for range api.MaxStmts - 1 {
		l[0].Body = append(l[0].Body, api.Stmt{Kind: api.StmtPrint, Expr: doubled(api.MaxDepth, x)})
	}
	l[0].Body = append(l[0].Body, api.Stmt{Kind: api.StmtLock, Name: "x", Pos: at(3, 4)})
	if _, place, e := names.Find(l); place != at(3, 4) || e != api.ErrKind {
		t.Errorf("%v, %v", place, e)
	}
	body := []api.Stmt{{Kind: api.StmtJoin, Pos: at(5, 6)}}
	for range api.MaxDepth - 1 {
		body = []api.Stmt{{Kind: api.StmtIf, Expr: num(1), Body: body, Else: body}}
	}
	if _, _, e := names.Find(thread(body...)); e != api.ErrBound {
		t.Errorf("%v", e)
	}
	l = append(thread(api.Stmt{Kind: api.StmtPrint, Expr: doubled(12, x)}), l[1])
	p, _, e := names.Find(l)
	if e != api.OK {
		t.Fatal(e)
	}
	wantApart(t, p, l)
}
