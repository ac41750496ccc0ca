package source_test

import (
	"fmt"
	"testing"

	"warp/api"
	"warp/names"
	"warp/source"
)

// P5.1: programs that were made by hand, those that may be and those that may not.

func num(n int64) api.Expr { return api.Expr{Kind: api.ExprNum, Num: n} }

func both(op api.Op, a, b api.Expr) api.Expr {
	return api.Expr{Kind: api.ExprBin, Op: op, Args: []api.Expr{a, b}}
}

// lone is a program of one thread, whose statements are numbered, but for those in them.
func lone(l ...api.Stmt) api.Prog {
	for i := range l {
		l[i].ID = i
	}
	return api.Prog{Threads: []api.Thread{{Name: "main", Body: l}}, Stmts: len(l)}
}

func wantMay(t *testing.T, what string, p api.Prog, may bool) {
	t.Helper()
	s, e := source.New(p)
	if may && (s == nil || e != api.OK) || !may && (s != nil || e != api.ErrArg) {
		t.Errorf("%s: %v, %v; may it be: %v", what, s, nameOf(e), may)
	}
}

const rich = `array b 2; var x = 1; mutex m; cond c; chan q 1; var y = 2; array a 3; mutex n; cond d; chan r 2;
thread t { let u = x; if u { let v = a[u]; u = v; x = u; } else { let w = 1; let v = w; recv r v; print -v + !y; } let z = 2; while z { recv q y; b[1 - x] = z; } }
thread main { spawn t; spawn main; lock n; wait d n; signal c; all d; unlock n; send r x && y; join; print 3; let u = 1; print u; }`

func TestWhatLayer3TellsMayBe(t *testing.T) {
	wantMay(t, "rich", found(t, rich), true)
	wantMay(t, "none", api.Prog{}, false)
	wantMay(t, "main alone", lone(), true)
	wantMay(t, "an empty body", api.Prog{Threads: []api.Thread{{Name: "main", Body: []api.Stmt{}}}, Vars: []int64{}, Arrays: []int{}, Chans: []int{}}, true)
}

// changed tells a rich program with one thing done to it.
func changed(t *testing.T, do func(p *api.Prog)) api.Prog {
	t.Helper()
	p := found(t, rich)
	do(&p)
	return p
}

func TestNumbersOfAProgram(t *testing.T) {
	for _, r := range []struct {
		what string
		may  bool
		do   func(p *api.Prog)
	}{
		{"the greatest value", true, func(p *api.Prog) { p.Vars[0] = 1<<31 - 1 }},
		{"the least value", true, func(p *api.Prog) { p.Vars[1] = -1 << 31 }},
		{"above it", false, func(p *api.Prog) { p.Vars[0] = 1 << 31 }},
		{"below it", false, func(p *api.Prog) { p.Vars[1] = -1<<31 - 1 }},
		{"far above it", false, func(p *api.Prog) { p.Vars[1] = maxInt }},
		{"far below it", false, func(p *api.Prog) { p.Vars[1] = minInt }},
		{"an array of none", false, func(p *api.Prog) { p.Arrays[0] = 0 }},
		{"an array below none", false, func(p *api.Prog) { p.Arrays[0] = -1 }},
		{"the most cells", true, func(p *api.Prog) { p.Arrays[1] = api.MaxCells - 2 }},
		{"one cell more", false, func(p *api.Prog) { p.Arrays[1] = api.MaxCells - 1 }},
		{"many cells", false, func(p *api.Prog) { p.Arrays[1] = maxInt }},
		{"cells that are none in all", false, func(p *api.Prog) { p.Arrays[0], p.Arrays[1] = minInt, minInt }},
		{"no room", false, func(p *api.Prog) { p.Chans[0] = 0 }},
		{"the greatest room", true, func(p *api.Prog) { p.Chans[0] = api.MaxRoom }},
		{"above it", false, func(p *api.Prog) { p.Chans[0] = api.MaxRoom + 1 }},
		{"below none", false, func(p *api.Prog) { p.Chans[1] = minInt }},
		{"more mutexes", true, func(p *api.Prog) { p.Mutexes = 54 }},
		{"more than there may be", false, func(p *api.Prog) { p.Mutexes = 55 }},
		{"fewer than are named", false, func(p *api.Prog) { p.Mutexes = 1 }},
		{"below none", false, func(p *api.Prog) { p.Mutexes = -1 }},
		{"far above", false, func(p *api.Prog) { p.Mutexes = maxInt }},
		{"far below", false, func(p *api.Prog) { p.Mutexes = minInt }},
		{"more conditions", true, func(p *api.Prog) { p.Conds = 54 }},
		{"more than there may be", false, func(p *api.Prog) { p.Conds = 55 }},
		{"below none", false, func(p *api.Prog) { p.Conds = -1 }},
		{"far above", false, func(p *api.Prog) { p.Conds = maxInt }},
		{"more variables", true, func(p *api.Prog) { p.Vars = append(p.Vars, make([]int64, 52)...) }},
		{"more than there may be", false, func(p *api.Prog) { p.Vars = append(p.Vars, make([]int64, 53)...) }},
		{"many", false, func(p *api.Prog) { p.Vars = append(p.Vars, make([]int64, 100000)...) }},
		{"more threads", true, func(p *api.Prog) { p.Threads = append(p.Threads, make([]api.Thread, 52)...) }},
		{"more than there may be", false, func(p *api.Prog) { p.Threads = append(p.Threads, make([]api.Thread, 53)...) }},
		{"another main, without names", true, func(p *api.Prog) { p.Main = 0; p.Threads[1].Body[1].Slot = 0 }},
		{"no main", false, func(p *api.Prog) { p.Main = 2 }},
		{"no main", false, func(p *api.Prog) { p.Main = -1 }},
		{"no main", false, func(p *api.Prog) { p.Main = maxInt }},
		{"no main, and who spawns it", false, func(p *api.Prog) { p.Main, p.Threads[1].Body[1].Slot = 7, 7 }},
		{"fewer statements", false, func(p *api.Prog) { p.Stmts-- }},
		{"more statements", false, func(p *api.Prog) { p.Stmts++ }},
		{"no statements", false, func(p *api.Prog) { p.Stmts = 0 }},
		{"more locals", false, func(p *api.Prog) { p.Threads[0].Locals++ }},
		{"fewer locals", false, func(p *api.Prog) { p.Threads[0].Locals-- }},
		{"many locals", false, func(p *api.Prog) { p.Threads[1].Locals = maxInt }},
		{"locals below none", false, func(p *api.Prog) { p.Threads[1].Locals = -1 }},
	} {
		wantMay(t, r.what, changed(t, r.do), r.may)
	}
}

// Names and places are not asked.
func TestNamesAndPlacesAreNotAsked(t *testing.T) {
	p := changed(t, func(p *api.Prog) {
		p.Names = api.Names{Vars: []string{"", "9"}}
		for i := range p.Threads {
			p.Threads[i].Name = "x"
		}
		each(*p, func(s *api.Stmt) {
			s.Name, s.With, s.Pos = "no name", "x", api.Pos{Line: -1, Col: maxInt}
			eachPart(s, func(e *api.Expr) { e.Name = "print" })
		})
	})
	wantMay(t, "other names", p, true)
	if !source.Same(begun(t, p), begun(t, found(t, rich))) {
		t.Error("names are asked")
	}
}

// Each slot, each number of a statement is asked.
func TestEachSlotIsAsked(t *testing.T) {
	n := 0
	each(found(t, rich), func(s *api.Stmt) { n++ })
	at := func(i int, do func(s *api.Stmt)) api.Prog {
		return changed(t, func(p *api.Prog) {
			j := 0
			each(*p, func(s *api.Stmt) {
				if j == i {
					do(s)
				}
				j++
			})
		})
	}
	for i := range n {
		for _, by := range []int{99, 1 << 40, maxInt, minInt, -1 << 40} {
			for what, do := range map[string]func(s *api.Stmt){
				"ID":    func(s *api.Stmt) { s.ID += by },
				"Slot":  func(s *api.Stmt) { s.Slot += by },
				"Other": func(s *api.Stmt) { s.Other += by },
			} {
				wantMay(t, fmt.Sprintf("statement %d, %s, %d", i, what, by), at(i, do), false)
			}
		}
		wantMay(t, fmt.Sprintf("statement %d, Kind 0", i), at(i, func(s *api.Stmt) { s.Kind = 0 }), false)
		wantMay(t, fmt.Sprintf("statement %d, Kind 16", i), at(i, func(s *api.Stmt) { s.Kind = 16 }), false)
		wantMay(t, fmt.Sprintf("statement %d, Kind -1", i), at(i, func(s *api.Stmt) { s.Kind = -1 }), false)
		wantMay(t, fmt.Sprintf("statement %d, ID one more", i), at(i, func(s *api.Stmt) { s.ID++ }), false)
		wantMay(t, fmt.Sprintf("statement %d, one more in it", i), at(i, func(s *api.Stmt) { s.Else = append(s.Else, api.Stmt{Kind: api.StmtJoin}) }), false)
		parts := 0
		at(i, func(s *api.Stmt) { eachPart(s, func(*api.Expr) { parts++ }) })
		for j := range parts {
			for what, do := range map[string]func(e *api.Expr){
				"Kind 0": func(e *api.Expr) { e.Kind = 0 }, "Kind 7": func(e *api.Expr) { e.Kind = 7 }, "Kind -1": func(e *api.Expr) { e.Kind = -1 },
				"Op 99": func(e *api.Expr) { e.Op = 99 }, "Op -1": func(e *api.Expr) { e.Op = -1 }, "Num -1": func(e *api.Expr) { e.Num = -1 }, "Num 2^31": func(e *api.Expr) { e.Num = 1 << 31 },
				"Slot 99": func(e *api.Expr) { e.Slot = 99 }, "Slot -1": func(e *api.Expr) { e.Slot = -1 }, "one more": func(e *api.Expr) { e.Args = append(e.Args, num(1)) },
				"three more": func(e *api.Expr) { e.Args = append(e.Args, num(1), num(1), num(1)) },
				"a local that is none, a variable that is none": func(e *api.Expr) { e.Local = !e.Local; e.Slot += 2 },
				"fewer": func(e *api.Expr) {
					if e.Args = e.Args[:max(len(e.Args)-1, 0)]; e.Kind == api.ExprNum || e.Kind == api.ExprName {
						e.Kind = 0
					}
				},
			} {
				k := 0
				wantMay(t, fmt.Sprintf("statement %d, part %d, %s", i, j, what), at(i, func(s *api.Stmt) {
					eachPart(s, func(e *api.Expr) {
						if k == j {
							do(e)
						}
						k++
					})
				}), false)
			}
		}
	}
}

// Slots of locals are just those that layer 3 says: how many are there ahead.
func TestSlotsOfLocals(t *testing.T) {
	let := func(slot int) api.Stmt {
		return api.Stmt{Kind: api.StmtLet, Expr: num(1), Slot: slot, Local: true}
	}
	with := func(locals int, p api.Prog) api.Prog {
		p.Threads[0].Locals = locals
		return p
	}
	block := func(id int, l ...api.Stmt) api.Stmt {
		for i := range l {
			l[i].ID = id + i
		}
		return api.Stmt{Kind: api.StmtIf, Expr: num(1), Body: l}
	}
	local := api.Stmt{Kind: api.StmtPrint, Expr: api.Expr{Kind: api.ExprName, Local: true}}
	numbered := func(p api.Prog) api.Prog {
		id := 0
		each(p, func(s *api.Stmt) { s.ID = id; id++ })
		p.Stmts = id
		return p
	}
	for _, r := range []struct {
		what string
		may  bool
		p    api.Prog
	}{
		{"two", true, with(2, lone(let(0), let(1)))},
		{"two of one slot", false, with(1, lone(let(0), let(0)))},
		{"a slot that is left out", false, with(2, lone(let(1)))},
		{"a slot below none", false, with(1, lone(let(-1)))},
		{"in other order", false, with(2, lone(let(1), let(0)))},
		{"again behind a block", true, with(2, numbered(lone(let(0), block(2, let(1)), let(1))))},
		{"not again behind a block", false, with(3, numbered(lone(let(0), block(2, let(1)), let(2))))},
		{"a local that is there", true, with(1, lone(let(0), local))},
		{"a local that is not there yet", false, with(1, lone(local, let(0)))},
		{"a local that is there no more", false, with(1, numbered(lone(block(1, let(0)), local)))},
		{"a let that is no local", false, with(0, api.Prog{Vars: []int64{1}, Threads: []api.Thread{{Body: []api.Stmt{{Kind: api.StmtLet, Expr: num(1)}}}}, Stmts: 1})},
	} {
		wantMay(t, r.what, r.p, r.may)
	}
	var most []api.Stmt
	for i := range api.MaxLocals {
		most = append(most, let(i))
	}
	wantMay(t, "the most locals", with(api.MaxLocals, lone(most...)), true)
	wantMay(t, "one more", with(api.MaxLocals+1, lone(append(most, let(api.MaxLocals))...)), false)
}

// Numbers of statements are those that layer 3 says: in order, each ahead of what is in it.
func TestNumbersOfStatements(t *testing.T) {
	join := func(id int) api.Stmt { return api.Stmt{Kind: api.StmtJoin, ID: id} }
	two := func(a, b api.Stmt) api.Prog {
		return api.Prog{Threads: []api.Thread{{Body: []api.Stmt{a}}, {Body: []api.Stmt{b}}}, Stmts: 2}
	}
	wantMay(t, "over all threads", two(join(0), join(1)), true)
	wantMay(t, "of each thread apart", two(join(0), join(0)), false)
	wantMay(t, "the second ahead", two(join(1), join(0)), false)
	wantMay(t, "from 1 on", two(join(1), join(2)), false)
	nested := func(of, body, other int) api.Prog {
		p := lone(api.Stmt{Kind: api.StmtIf, Expr: num(1), Body: []api.Stmt{join(body)}, Else: []api.Stmt{join(other)}})
		p.Threads[0].Body[0].ID, p.Stmts = of, 3
		return p
	}
	wantMay(t, "if, body, else", nested(0, 1, 2), true)
	wantMay(t, "if, else, body", nested(0, 2, 1), false)
	wantMay(t, "behind what is in it", nested(2, 0, 1), false)
	var l []api.Stmt
	for i := range api.MaxStmts {
		l = append(l, join(i))
	}
	wantMay(t, "the most statements", lone(l...), true)
	wantMay(t, "one more", lone(append(l, join(api.MaxStmts))...), false)
}

// What is too deep, or has no end.
func TestDepthsAndTreesWithoutEnd(t *testing.T) {
	deep := func(n int) api.Expr {
		e := num(1)
		for range n - 1 {
			e = api.Expr{Kind: api.ExprNot, Args: []api.Expr{e}}
		}
		return e
	}
	print := func(e api.Expr) api.Prog { return lone(api.Stmt{Kind: api.StmtPrint, Expr: e}) }
	blocks := func(n int) api.Prog {
		l := []api.Stmt{{Kind: api.StmtJoin, ID: n - 1}}
		for i := range n - 1 {
			l = []api.Stmt{{Kind: api.StmtWhile, ID: n - 2 - i, Expr: num(1), Body: l}}
		}
		return api.Prog{Threads: []api.Thread{{Body: l}}, Stmts: n}
	}
	wantMay(t, "the deepest expression", print(deep(api.MaxDepth)), true)
	wantMay(t, "one deeper", print(deep(api.MaxDepth+1)), false)
	wantMay(t, "far deeper", print(deep(1000000)), false)
	wantMay(t, "the deepest block", blocks(api.MaxDepth), true)
	wantMay(t, "one deeper", blocks(api.MaxDepth+1), false)
	wantMay(t, "far deeper", blocks(1000000), false)
	// In themselves.
	e := deep(2)
	e.Args[0] = e
	wantMay(t, "an expression in itself", print(e), false)
	e = both(api.OpAdd, num(1), num(1))
	e.Args[0], e.Args[1] = e, e
	wantMay(t, "twice in itself", print(e), false)
	l := []api.Stmt{{Kind: api.StmtIf, Expr: num(1)}}
	l[0].Body, l[0].Else = l, l
	wantMay(t, "a block in itself", api.Prog{Threads: []api.Thread{{Body: l}}, Stmts: 1}, false)
	wantMay(t, "a block in itself", api.Prog{Threads: []api.Thread{{Body: l}, {Body: l}}, Stmts: api.MaxStmts}, false)
	// Very many parts, of which a few lists are made; of one statement too many it is told all the same.
	e = num(1)
	for range api.MaxDepth - 1 {
		e = both(api.OpAdd, e, e)
	}
	var many []api.Stmt
	for range api.MaxStmts - 1 {
		many = append(many, api.Stmt{Kind: api.StmtPrint, Expr: e})
	}
	wantMay(t, "very many parts", lone(append(many, api.Stmt{Kind: api.StmtLock})...), false)
	// One list in many places may be, if it says the same there.
	e = both(api.OpMul, num(3), num(3))
	for range 3 {
		e = both(api.OpAdd, e, e)
	}
	s := begun(t, print(e))
	if got := play(t, s, 0); got != "0.0 told 72 end" {
		t.Error(got)
	}
}

// What a kind does not name must be zero, as layer 2 asks of declarations.
func TestWhatAKindDoesNotNameIsZero(t *testing.T) {
	for what, s := range map[string]api.Stmt{
		"a join with a slot":         {Kind: api.StmtJoin, Slot: 1},
		"a join with an other":       {Kind: api.StmtJoin, Other: 1},
		"a join that is local":       {Kind: api.StmtJoin, Local: true},
		"a join with an expression":  {Kind: api.StmtJoin, Expr: num(1)},
		"a join with a body":         {Kind: api.StmtJoin, Body: []api.Stmt{{Kind: api.StmtJoin, ID: 1}}},
		"a print without expression": {Kind: api.StmtPrint},
		"a print with an index":      {Kind: api.StmtPrint, Expr: num(1), Index: num(1)},
		"a number with a slot":       {Kind: api.StmtPrint, Expr: api.Expr{Kind: api.ExprNum, Slot: 1}},
		"a number that is local":     {Kind: api.StmtPrint, Expr: api.Expr{Kind: api.ExprNum, Local: true}},
		"a number with an Op":        {Kind: api.StmtPrint, Expr: api.Expr{Kind: api.ExprNum, Op: api.OpAdd}},
	} {
		p := lone(s)
		wantMay(t, what, p, false)
	}
	p := lone(api.Stmt{Kind: api.StmtJoin, Body: []api.Stmt{{Kind: api.StmtJoin, ID: 1}}})
	p.Stmts = 2
	wantMay(t, "a join with a body", p, false)
	wantMay(t, "a join", lone(api.Stmt{Kind: api.StmtJoin, Name: "x", With: "y"}), true)
}

// Programs that layer 3 finds in declarations made by hand.
func TestDeclarationsMadeByHand(t *testing.T) {
	p, _, e := names.Find([]api.Decl{{Kind: api.DeclThread, Name: "main", Pos: api.Pos{Line: -7}, Body: []api.Stmt{{Kind: api.StmtPrint, Expr: num(7)}}}})
	if e != api.OK {
		t.Fatal(e)
	}
	if got := play(t, begun(t, p), 0); got != "0.0 told 7 end" {
		t.Error(got)
	}
}
