package names_test

import (
	"reflect"
	"slices"
	"testing"

	"warp/api"
	"warp/names"
)

// P3.2

func TestStmtsAreToldByTheirIDs(t *testing.T) {
	p := found(t, rich)
	l := names.Stmts(p)
	if len(l) != p.Stmts {
		t.Fatalf("%d statements; want %d", len(l), p.Stmts)
	}
	for i, s := range l {
		if s.ID != i {
			t.Errorf("%d at %d", s.ID, i)
		}
	}
	main := p.Threads[1].Body
	for id, want := range map[int]api.Stmt{
		0: p.Threads[0].Body[0], 3: p.Threads[0].Body[3], 4: main[0], 5: main[1], 6: main[1].Body[0], 8: main[1].Body[2],
		9: main[1].Else[0], 11: main[1].Else[2], 12: main[2], 15: main[2].Body[2], 16: main[3], 19: main[6],
	} {
		if dump(l[id]) != dump(want) {
			t.Errorf("%d is %+v; want %+v", id, l[id], want)
		}
	}
	if len(l[5].Body) != 3 || len(l[5].Else) != 3 || len(l[12].Body) != 3 {
		t.Errorf("each is told with what is in it: %+v", l)
	}
	wantApart(t, l, p)
	wantApart(t, names.Stmts(p), l)
	if dump(p) != dump(found(t, rich)) {
		t.Error("what was handed in was changed")
	}
}

func TestStmtsOfNothing(t *testing.T) {
	for _, p := range []api.Prog{{}, {Threads: []api.Thread{}}, {Threads: make([]api.Thread, 3), Stmts: 5}, found(t, "thread main { }")} {
		if l := names.Stmts(p); len(l) != 0 {
			t.Errorf("%v", l)
		}
		if thread, ok := names.Thread(p, 0); thread != 0 || ok {
			t.Errorf("%d, %v", thread, ok)
		}
		if c := names.Copy(p); dump(c) != dump(p) {
			t.Errorf("%+v; want %+v", c, p)
		}
	}
}

// byHand has statements of any IDs, two of them twice.
func byHand() api.Prog {
	return api.Prog{Stmts: -1, Main: 99, Threads: []api.Thread{
		{Name: "", Locals: -3, Body: []api.Stmt{{ID: 7}, {ID: -2, Body: []api.Stmt{{ID: 1 << 62, Name: "first"}}, Else: []api.Stmt{{ID: 3}}}}},
		{},
		{Name: "\xff", Body: []api.Stmt{{ID: 1 << 62, Name: "second"}, {ID: 4, Kind: -5, Body: []api.Stmt{{ID: 5, Name: "first"}}, Else: []api.Stmt{{ID: -1 << 63}, {ID: 5, Name: "second"}}}}},
	}}
}

func TestStmtsOfProgramsMadeByHand(t *testing.T) {
	p := byHand()
	l := names.Stmts(p)
	var ids []int
	for _, s := range l {
		ids = append(ids, s.ID)
	}
	if !slices.Equal(ids, []int{-1 << 63, -2, 3, 4, 5, 5, 7, 1 << 62, 1 << 62}) || len(l[1].Body) != 1 ||
		l[4].Name != "first" || l[5].Name != "second" || l[7].Name != "first" || l[8].Name != "second" {
		t.Errorf("%v: %+v", ids, l)
	}
	for id, want := range map[int]int{7: 0, -2: 0, 1 << 62: 0, 3: 0, 4: 2, -1 << 63: 2, 5: 2} {
		if thread, ok := names.Thread(p, id); thread != want || !ok {
			t.Errorf("%d is in %d, %v; want %d", id, thread, ok, want)
		}
	}
	for _, id := range []int{0, 1, -1, 6, 1<<63 - 1} {
		if thread, ok := names.Thread(p, id); thread != 0 || ok {
			t.Errorf("%d is in %d, %v", id, thread, ok)
		}
	}
	if c := names.Copy(p); dump(c) != dump(p) || dump(p) != dump(byHand()) {
		t.Errorf("%+v; want %+v", c, p)
	}
}

// Of the same ID they are told in the order in which they stand.
func TestStmtsOfTheSameIDs(t *testing.T) {
	p := api.Prog{Threads: make([]api.Thread, 30)}
	for i := range p.Threads {
		for j := range 30 {
			p.Threads[i].Body = append(p.Threads[i].Body, api.Stmt{ID: -j % 7, Slot: 30*i + j})
		}
	}
	l := names.Stmts(p)
	for i, s := range l[1:] {
		if b := l[i]; b.ID > s.ID || b.ID == s.ID && b.Slot >= s.Slot {
			t.Fatalf("%d, %d ahead of %d, %d", b.ID, b.Slot, s.ID, s.Slot)
		}
	}
	if len(l) != 900 {
		t.Errorf("%d statements", len(l))
	}
}

func TestThreadTellsWhereAStatementIs(t *testing.T) {
	p := found(t, rich)
	for id := range p.Stmts {
		want := 1
		if id < 4 {
			want = 0
		}
		if thread, ok := names.Thread(p, id); thread != want || !ok {
			t.Errorf("%d is in %d, %v; want %d", id, thread, ok, want)
		}
	}
	for _, id := range []int{-1, p.Stmts, p.Stmts + 1, 1<<63 - 1, -1 << 63} {
		if thread, ok := names.Thread(p, id); thread != 0 || ok {
			t.Errorf("%d is in %d, %v", id, thread, ok)
		}
	}
	p = found(t, "thread t { } thread main { } thread u { join; } thread w { } thread z { while 1 { if 1 { } else { join; } } }")
	for id, want := range []int{2, 4, 4, 4} {
		if thread, ok := names.Thread(p, id); thread != want || !ok {
			t.Errorf("%d is in %d, %v; want %d", id, thread, ok, want)
		}
	}
}

// changes reach all that a program has.
func changes() []func(*api.Prog) {
	return []func(*api.Prog){
		func(p *api.Prog) { p.Vars[1]++ },
		func(p *api.Prog) { p.Arrays[0]++ },
		func(p *api.Prog) { p.Chans[1]++ },
		func(p *api.Prog) { p.Names.Vars[0] = "o" },
		func(p *api.Prog) { p.Names.Arrays[1] = "o" },
		func(p *api.Prog) { p.Names.Mutexes[0] = "o" },
		func(p *api.Prog) { p.Names.Conds[1] = "o" },
		func(p *api.Prog) { p.Names.Chans[0] = "o" },
		func(p *api.Prog) { p.Threads[2].Name = "o" },
		func(p *api.Prog) { p.Threads[1].Locals++ },
		func(p *api.Prog) { p.Threads[1].Body[0].Slot++ },
		func(p *api.Prog) { p.Threads[1].Body[0].Expr.Args[1].Args[0].Slot++ },
		func(p *api.Prog) { p.Threads[1].Body[1].Body[1].ID++ },
		func(p *api.Prog) { p.Threads[1].Body[1].Else[0].Index.Args[0].Local = false },
		func(p *api.Prog) { p.Threads[1].Body[2].Body = p.Threads[1].Body[2].Body[:1] },
	}
}

func TestACopyGoesOnApart(t *testing.T) {
	want := dump(found(t, rich))
	for i, change := range changes() {
		p := found(t, rich)
		c := names.Copy(p)
		wantApart(t, c, p)
		if dump(c) != want || dump(p) != want {
			t.Fatalf("%+v of %+v", c, p)
		}
		if change(&c); dump(p) != want || dump(c) == want {
			t.Errorf("change %d of the copy is seen in %+v", i, p)
		}
		c = names.Copy(p)
		if change(&p); dump(c) != want || dump(p) == want {
			t.Errorf("change %d is seen in the copy %+v", i, c)
		}
	}
	for _, p := range []api.Prog{{}, {Main: -1, Stmts: 7, Mutexes: -2, Conds: 1 << 62, Vars: []int64{-1 << 63}}} {
		if c := names.Copy(p); dump(c) != dump(p) {
			t.Errorf("%+v; want %+v", c, p)
		}
	}
}

// What was handed in may have room behind it, and may share its parts; a copy does not.
func TestACopyTakesNoSpareRoomAndSharesNothing(t *testing.T) {
	args := roomy([]api.Expr{{Kind: api.ExprNum, Num: 1}}, num(77))
	block := roomy([]api.Stmt{{Kind: api.StmtPrint, Expr: api.Expr{Kind: api.ExprNeg, Args: args}, Index: api.Expr{Args: args}}}, api.Stmt{ID: 77})
	list := []string{"a", "b"}
	p := api.Prog{
		Vars: roomy([]int64{1}, 77), Arrays: roomy([]int{1}, 77), Chans: roomy([]int{}, 77),
		Names:   api.Names{Vars: list, Arrays: list, Mutexes: list[:1], Conds: list[1:], Chans: roomy(list, "behind")},
		Threads: roomy([]api.Thread{{Body: block}, {Body: []api.Stmt{{Body: block, Else: block}}}}, api.Thread{Name: "behind"}),
	}
	before := dump(p) + dump(p.Threads[:3]) + dump(args[:2]) + dump(block[:2])
	c := names.Copy(p)
	wantApart(t, c, p)
	l := names.Stmts(p)
	wantApart(t, l, p)
	if dump(c) != dump(p) || len(l) != 4 || dump(p)+dump(p.Threads[:3])+dump(args[:2])+dump(block[:2]) != before {
		t.Errorf("%+v; want %+v", c, p)
	}
}

func TestBlocksThatStandInThemselvesHaveAnEnd(t *testing.T) {
	l := []api.Stmt{{ID: 1}, {ID: 2}, {ID: 3}}
	l[0].Body, l[1].Else, l[2].Body = l, l[1:], l[2:]
	args := []api.Expr{num(1)}
	args[0].Args = args
	l[1].Expr.Args = args
	p := api.Prog{Threads: []api.Thread{{Body: l}, {Body: append(l, api.Stmt{ID: 4})}}}
	if len(names.Stmts(p)) < 7 || len(names.Copy(p).Threads[1].Body) != 4 {
		t.Error("what does not stand in itself is there")
	}
	for id, want := range map[int]int{1: 0, 3: 0, 4: 1} {
		if thread, ok := names.Thread(p, id); thread != want || !ok {
			t.Errorf("%d is in %d, %v", id, thread, ok)
		}
	}
	if thread, ok := names.Thread(p, 5); thread != 0 || ok {
		t.Errorf("%d, %v", thread, ok)
	}
}

func TestDeepAndSharedTrees(t *testing.T) {
	// Very many parts, and blocks, one in the other.
	const parts, blocks = 1000000, 100000
	e := num(1)
	for range parts {
		e = api.Expr{Args: []api.Expr{e}}
	}
	l := []api.Stmt{{ID: 5}}
	for range blocks {
		l = []api.Stmt{{Body: l}}
	}
	p := api.Prog{Threads: []api.Thread{{Body: []api.Stmt{{Expr: e}}}, {Body: l}}}
	c := names.Copy(p)
	n := 0
	for e := c.Threads[0].Body[0].Expr; len(e.Args) > 0; e = e.Args[0] {
		n++
	}
	for l := c.Threads[1].Body; len(l[0].Body) > 0; l = l[0].Body {
		n++
	}
	if n != parts+blocks {
		t.Errorf("%d parts and blocks; want %d", n, parts+blocks)
	}
	if thread, ok := names.Thread(p, 5); thread != 1 || !ok {
		t.Errorf("%d, %v", thread, ok)
	}
	// Each of two blocks has the next one twice: they are few, and what they have in them is more than can be gone over.
	wide := []api.Stmt{{ID: 5}}
	for range 200 {
		wide = []api.Stmt{{Body: wide, Else: wide}, {}}
	}
	p.Threads[1].Body = wide
	for id, want := range map[int]bool{5: true, 0: true, 6: false} {
		if thread, ok := names.Thread(p, id); ok != want || thread != 0 && !ok {
			t.Errorf("%d: %d, %v", id, thread, ok)
		}
	}
}

func TestWhatIsToldIsToldAgain(t *testing.T) {
	p := found(t, rich)
	if again := found(t, rich); !reflect.DeepEqual(p, again) {
		t.Errorf("%+v; %+v", p, again)
	}
	if !reflect.DeepEqual(names.Stmts(p), names.Stmts(p)) || !reflect.DeepEqual(names.Copy(p), names.Copy(p)) {
		t.Error("it hangs on what was handed in alone")
	}
}
