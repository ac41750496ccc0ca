package source_test

import (
	"fmt"
	"iter"
	"math/big"
	"slices"
	"strings"
	"testing"

	"warp/api"
	"warp/source"
)

// model says by other means what a state must say: each of its threads goes through its statements by calls that stop
// ahead of each one, so that nothing but where it stopped says what is left to do. It can't be copied: it is done anew.
type model struct {
	p       api.Prog
	cells   []int64
	owners  []int
	waits   [][]int
	values  [][]int64
	sent    []int
	actors  []*actor
	event   api.Event
	outcome api.Outcome
}

// actor is a thread of a model.
type actor struct {
	*model
	number, decl int
	state        api.ThreadState
	locals       []int64
	spawned      []int
	stmt         *api.Stmt // ahead of which it stopped
	resume       func() (*api.Stmt, bool)
	stop         func()
}

// trapped is how a trap comes out of the calls.
type trapped api.Trap

func newModel(p api.Prog) *model {
	m := &model{p: p, cells: slices.Clone(p.Vars), waits: make([][]int, p.Conds), values: make([][]int64, len(p.Chans)), sent: make([]int, len(p.Chans))}
	for _, n := range p.Arrays {
		for range n {
			m.cells = append(m.cells, 0)
		}
	}
	for range p.Mutexes {
		m.owners = append(m.owners, -1)
	}
	m.spawn(p.Main)
	return m
}

func (m *model) spawn(decl int) int {
	of := m.p.Threads[decl]
	a := &actor{model: m, number: len(m.actors), decl: decl, state: api.ThreadGoes, locals: make([]int64, of.Locals)}
	a.resume, a.stop = iter.Pull(func(stopAhead func(*api.Stmt) bool) { a.block(of.Body, stopAhead) })
	m.actors = append(m.actors, a)
	a.on()
	return a.number
}

// on goes on to the next statement.
func (a *actor) on() {
	s, ok := a.resume()
	if !ok {
		a.state, a.stmt = api.ThreadEnded, nil
		return
	}
	a.stmt = s
}

func (m *model) over() {
	for _, a := range m.actors {
		a.stop()
	}
}

func (a *actor) block(l []api.Stmt, stopAhead func(*api.Stmt) bool) bool {
	for i := range l {
		if !stopAhead(&l[i]) || !a.do(&l[i], stopAhead) {
			return false
		}
	}
	return true
}

func (a *actor) may() bool {
	switch {
	case a.outcome.Kind == api.RunTrap || a.state == api.ThreadEnded || a.state == api.ThreadWaits:
		return false
	case a.state == api.ThreadWakes:
		return a.owners[a.stmt.Other] == -1
	}
	switch s := a.stmt; s.Kind {
	case api.StmtLock:
		return a.owners[s.Slot] == -1 || a.owners[s.Slot] == a.number
	case api.StmtSend:
		return len(a.values[s.Slot]) < a.p.Chans[s.Slot]
	case api.StmtRecv:
		return len(a.values[s.Slot]) > 0
	case api.StmtJoin:
		for _, n := range a.spawned {
			if a.actors[n].state != api.ThreadEnded {
				return false
			}
		}
	}
	return true
}

func (a *actor) order(kind api.SyncKind, slot, other int) {
	a.event.Syncs = append(a.event.Syncs, api.SyncEvent{Kind: kind, Slot: slot, Other: other})
}

func (a *actor) access(write bool, cell int, v int64) {
	a.event.Accesses = append(a.event.Accesses, api.Access{Cell: cell, Write: write, Value: v})
	if write {
		a.cells[cell] = v
	}
}

func (a *actor) into(local bool, slot int, v int64) {
	if local {
		a.locals[slot] = v
	} else {
		a.access(true, slot, v)
	}
}

func (a *actor) cell(array int, index int64) int {
	if index < 0 || index >= int64(a.p.Arrays[array]) {
		panic(trapped(api.TrapIndex))
	}
	cell := len(a.p.Vars) + int(index)
	for _, n := range a.p.Arrays[:array] {
		cell += n
	}
	return cell
}

func (a *actor) mustOwn(mutex int) {
	if a.owners[mutex] != a.number {
		panic(trapped(api.TrapOwner))
	}
}

// do does a statement; false, if nobody asks any more.
func (a *actor) do(s *api.Stmt, stopAhead func(*api.Stmt) bool) bool {
	switch s.Kind {
	case api.StmtLet, api.StmtSet:
		a.into(s.Local, s.Slot, a.worth(s.Expr))
	case api.StmtPut:
		index := a.worth(s.Index)
		v := a.worth(s.Expr)
		a.access(true, a.cell(s.Slot, index), v)
	case api.StmtPrint:
		a.event.Out = a.worth(s.Expr)
		a.event.Told = true
	case api.StmtIf:
		if a.event.Value = a.worth(s.Expr); a.event.Value != 0 {
			return a.block(s.Body, stopAhead)
		}
		return a.block(s.Else, stopAhead)
	case api.StmtWhile:
		for {
			if a.event.Value = a.worth(s.Expr); a.event.Value == 0 {
				return true
			}
			if !a.block(s.Body, stopAhead) || !stopAhead(s) {
				return false
			}
		}
	case api.StmtWait:
		a.mustOwn(s.Other)
		a.owners[s.Other] = -1
		a.waits[s.Slot] = append(a.waits[s.Slot], a.number)
		a.order(2, s.Other, 0)
		a.state = api.ThreadWaits
		if !stopAhead(s) {
			return false
		}
		a.owners[s.Other] = a.number
		a.event.Woke = true
		a.order(1, s.Other, 0)
		a.state = api.ThreadGoes
	default:
		a.sync(s)
	}
	return true
}

func (a *actor) sync(s *api.Stmt) {
	switch s.Kind {
	case api.StmtLock:
		if a.owners[s.Slot] == a.number {
			panic(trapped(api.TrapOwner))
		}
		a.owners[s.Slot] = a.number
		a.order(1, s.Slot, 0)
	case api.StmtUnlock:
		a.mustOwn(s.Slot)
		a.owners[s.Slot] = -1
		a.order(2, s.Slot, 0)
	case api.StmtSignal, api.StmtAll:
		for len(a.waits[s.Slot]) > 0 {
			who := a.waits[s.Slot][0]
			a.waits[s.Slot] = a.waits[s.Slot][1:]
			a.actors[who].state = api.ThreadWakes
			a.order(3, s.Slot, who)
			if s.Kind == api.StmtSignal {
				break
			}
		}
	case api.StmtSend:
		v := a.worth(s.Expr)
		a.values[s.Slot] = append(a.values[s.Slot], v)
		a.order(4, s.Slot, a.sent[s.Slot])
		a.sent[s.Slot]++
	case api.StmtRecv:
		l := a.values[s.Slot]
		a.order(5, s.Slot, a.sent[s.Slot]-len(l))
		a.into(s.Local, s.Other, l[0])
		a.values[s.Slot] = l[1:]
	case api.StmtSpawn:
		if len(a.actors) >= api.MaxThreads {
			panic(trapped(api.TrapThreads))
		}
		n := a.spawn(s.Slot)
		a.spawned = append(a.spawned, n)
		a.order(6, 0, n)
	case api.StmtJoin:
		for _, n := range a.spawned {
			a.order(7, 0, n)
		}
	}
}

// worth works with numbers that have no bound.
func (a *actor) worth(e api.Expr) int64 {
	switch e.Kind {
	case api.ExprNum:
		return e.Num
	case api.ExprName:
		if e.Local {
			return a.locals[e.Slot]
		}
		a.access(false, e.Slot, a.cells[e.Slot])
		return a.cells[e.Slot]
	case api.ExprCell:
		cell := a.cell(e.Slot, a.worth(e.Args[0]))
		a.access(false, cell, a.cells[cell])
		return a.cells[cell]
	case api.ExprNeg:
		return bounded(new(big.Int).Neg(big.NewInt(a.worth(e.Args[0]))))
	case api.ExprNot:
		return asked(a.worth(e.Args[0]) == 0)
	}
	x := a.worth(e.Args[0])
	switch {
	case e.Op == api.OpOr && x != 0:
		return 1
	case e.Op == api.OpOr || e.Op == api.OpAnd && x != 0:
		return asked(a.worth(e.Args[1]) != 0)
	case e.Op == api.OpAnd:
		return 0
	}
	return joined(e.Op, big.NewInt(x), big.NewInt(a.worth(e.Args[1])))
}

func joined(op api.Op, x, y *big.Int) int64 {
	z := new(big.Int)
	switch op {
	case api.OpEq:
		return asked(x.Cmp(y) == 0)
	case api.OpNe:
		return asked(x.Cmp(y) != 0)
	case api.OpLt:
		return asked(x.Cmp(y) < 0)
	case api.OpLe:
		return asked(x.Cmp(y) <= 0)
	case api.OpAdd:
		return bounded(z.Add(x, y))
	case api.OpSub:
		return bounded(z.Sub(x, y))
	case api.OpMul:
		return bounded(z.Mul(x, y))
	}
	if y.Sign() == 0 {
		panic(trapped(api.TrapZero))
	}
	if op == api.OpDiv {
		return bounded(z.Quo(x, y))
	}
	return bounded(z.Rem(x, y))
}

func bounded(z *big.Int) int64 {
	if z.Cmp(big.NewInt(-1<<31)) < 0 || z.Cmp(big.NewInt(1<<31-1)) > 0 {
		panic(trapped(api.TrapRange))
	}
	return z.Int64()
}

func asked(is bool) int64 { return map[bool]int64{true: 1}[is] }

func (m *model) can() []int {
	var l []int
	for _, a := range m.actors {
		if a.may() {
			l = append(l, a.number)
		}
	}
	return l
}

func (m *model) stands() api.Outcome {
	if m.outcome.Kind == api.RunNone {
		for _, a := range m.actors {
			if a.may() {
				return api.Outcome{Kind: api.RunGoes}
			}
		}
		for _, a := range m.actors {
			if a.state != api.ThreadEnded {
				return api.Outcome{Kind: api.RunStuck}
			}
		}
		return api.Outcome{Kind: api.RunDone}
	}
	return m.outcome
}

// step does a step of a thread that can go on.
func (m *model) step(n int) (event api.Event) {
	a := m.actors[n]
	m.event = api.Event{Thread: n, Stmt: a.stmt.ID}
	defer func() {
		if x := recover(); x != nil {
			trap := api.Trap(x.(trapped))
			m.outcome = api.Outcome{Kind: api.RunTrap, Trap: trap, Thread: n, Stmt: m.event.Stmt}
			event = api.Event{Thread: n, Stmt: m.event.Stmt, Trap: trap, Accesses: m.event.Accesses}
		}
	}()
	a.on()
	if a.state == api.ThreadEnded {
		a.order(8, 0, 0)
	}
	return m.event
}

func (m *model) whole() string {
	var l []string
	for _, a := range m.actors {
		v := api.ThreadView{Decl: a.decl, State: a.state, Locals: a.locals, Next: -1, Spawned: a.spawned}
		if a.stmt != nil {
			v.Next = a.stmt.ID
		}
		l = append(l, view(v))
	}
	var in []any
	for _, owner := range m.owners {
		in = append(in, owner, api.OK)
	}
	for _, waits := range m.waits {
		in = append(in, waits, api.OK)
	}
	for _, values := range m.values {
		in = append(in, values, api.OK)
	}
	return fmt.Sprint(m.can(), outcome(m.stands()), m.cells, l, fmt.Sprint(in...))
}

// against holds a step of a state against that of a model, and how both stand behind it.
func against(t *testing.T, text string, s *source.State, m *model, n int) {
	t.Helper()
	got, e := s.Do(n)
	want := m.step(n)
	if e != api.OK || told(got) != told(want) {
		t.Fatalf("%s\n%s, %v; want %s", text, told(got), nameOf(e), told(want))
	}
	if a, b := whole(m.p, s), m.whole(); a != b {
		t.Fatalf("%s\nbehind %s: %s\nwant %s", text, told(got), a, b)
	}
}

// allRuns goes over all runs of a program, and tells how many there are; each step is done on a copy of what stands ahead of it.
func allRuns(t *testing.T, text string) int {
	t.Helper()
	p := found(t, text)
	runs := 0
	var from func(s *source.State, done []int)
	from = func(s *source.State, done []int) {
		can := s.Can()
		if len(can) == 0 || len(done) > 12 {
			runs++
		}
		if len(done) > 12 {
			return
		}
		before := whole(p, s)
		for _, n := range can {
			m := newModel(p)
			for _, ahead := range done {
				m.step(ahead)
			}
			next := s.Copy()
			against(t, text, next, m, n)
			m.over()
			from(next, append(slices.Clip(done), n))
		}
		if whole(p, s) != before {
			t.Fatalf("%s\nbehind %v: what a copy did is seen", text, done)
		}
	}
	s := begun(t, p)
	m := newModel(p)
	if whole(p, s) != m.whole() {
		t.Fatalf("%s\n%s\nwant %s", text, whole(p, s), m.whole())
	}
	m.over()
	from(s, nil)
	return runs
}

// All runs of all short programs of two threads.
func TestAllRunsOfShortPrograms(t *testing.T) {
	words := []string{"x = x + 1;", "lock m;", "unlock m;", "wait c m;", "signal c;", "all c;", "send q x;", "recv q x;", "spawn t;", "join;", "print x;", "if x { lock m; }", "while x < 2 { x = x + 1; }"}
	runs := 0
	for _, a := range words {
		for _, b := range words {
			for _, c := range words {
				runs += allRuns(t, "var x = 0; mutex m; cond c; chan q 1; thread main { spawn u; "+a+" "+b+" } thread t { lock m; x = 7; } thread u { "+c+" }")
			}
		}
	}
	for _, a := range words[:8] {
		for _, b := range words[1:8] {
			for _, c := range words[1:8] {
				runs += allRuns(t, "var x = 0; mutex m; cond c; chan q 1; thread main { lock m; spawn u; "+a+" "+b+" } thread u { lock m; "+c+" unlock m; }")
			}
		}
	}
	if runs < 10000 {
		t.Errorf("only %d runs", runs)
	}
}

// expr writes an expression; traps are few in it, but they are there.
func (l *lot) expr(deep int) string {
	if deep == 0 || l.below(3) == 0 {
		return l.one("x", "y", "0", "1", "2", "u", "v", "3", "a[1]", "b[x]", "a[y % 2]", "2147483647", "b[u + 1]")
	}
	part := func() string { return l.expr(deep - 1) }
	switch l.below(8) {
	case 0:
		return "-" + l.one("x", "u", "("+part()+")")
	case 1:
		return "!(" + part() + ")"
	case 2:
		return "b[" + part() + "]"
	}
	return "(" + part() + l.one(" + ", " - ", " * ", " / ", " % ", " == ", " != ", " < ", " <= ", " && ", " || ") + part() + ")"
}

func (l *lot) block(deep int) string {
	var b strings.Builder
	for range l.below(4) {
		switch k := l.below(22); {
		case k < 3:
			b.WriteString("x = " + l.expr(2) + "; ")
		case k < 5:
			b.WriteString("u = " + l.expr(2) + "; ")
		case k < 6:
			b.WriteString("b[" + l.expr(1) + "] = " + l.expr(2) + "; ")
		case k < 8:
			b.WriteString("lock m; " + l.block(0) + l.one("unlock m; ", "wait c m; unlock m; ", "unlock m; ", "all c; unlock m; ", ""))
		case k < 9:
			b.WriteString(l.one("lock n; ", "unlock n; ", "wait d n; "))
		case k < 11:
			b.WriteString(l.one("signal c; ", "all c; ", "signal d; "))
		case k < 13:
			b.WriteString("send " + l.one("q ", "r ") + l.expr(1) + "; ")
		case k < 15:
			b.WriteString("recv " + l.one("q ", "r ") + l.one("x", "u", "y", "v") + "; ")
		case k < 16:
			b.WriteString("spawn " + l.one("t", "t", "s", "main") + "; ")
		case k < 17:
			b.WriteString("join; ")
		case k < 18:
			b.WriteString("print " + l.expr(2) + "; ")
		case deep == 0:
		case k < 20:
			b.WriteString(fmt.Sprintf("if %s { %s} else { let w%d = x; %sy = w%d; } ", l.expr(1), l.block(deep-1), deep, l.block(deep-1), deep))
		default:
			b.WriteString(fmt.Sprintf("while y %s 3 { y = y + 1; let w%d = u; %s} ", l.one("<", "!="), deep, l.block(deep-1)))
		}
	}
	return b.String()
}

func (l *lot) program() string {
	thread := func(name string) string {
		return "thread " + name + " { let u = 1; let v = 2; " + l.block(2) + l.block(2) + "}\n"
	}
	return "array a 2; var x = 1; mutex m; mutex n; cond c; cond d; chan q 1; var y = 0; chan r 3; array b 4;\n" + thread("t") +
		strings.Replace(thread("main"), "let v = 2;", "let v = 2; spawn t; spawn s;", 1) + thread("s")
}

// Many programs, each by some picks.
func TestManyPrograms(t *testing.T) {
	l := lot(7)
	ends := map[string]int{}
	for range 2500 {
		text := l.program()
		p := found(t, text)
		s, m := begun(t, p), newModel(p)
		for range 60 {
			can := s.Can()
			if len(can) == 0 {
				break
			}
			pick := l.below(1000) - 500
			other := s.Copy()
			n := can[((pick%len(can))+len(can))%len(can)]
			against(t, text, s, m, n)
			if ev, e := other.Step(pick); e != api.OK || ev.Thread != n || !source.Same(s, other) {
				t.Fatalf("%s\nStep(%d): %s, %v; want thread %d", text, pick, told(ev), nameOf(e), n)
			}
		}
		if s.Outcome().Kind != api.RunGoes {
			wantOver(t, s)
		}
		m.over()
		o := s.Outcome()
		ends[fmt.Sprint(o.Kind, o.Trap)]++
	}
	for _, end := range []string{"1 0", "2 0", "3 0", "4 1", "4 2", "4 3", "4 4", "4 5"} {
		if ends[end] < 20 {
			t.Errorf("%d of %s", ends[end], end)
		}
	}
}

// P5.3: what a thread does that touches nothing of another's hangs on no pick.
func TestWhatTouchesNothingOfAnothersHangsOnNoPick(t *testing.T) {
	const own = `let u = 2; let sum = 0; while mine < 6 { mine = mine + 1; lock k; print mine * u; cells[mine % 3] = u; unlock k;
		if mine % 2 { u = u - 1; } else { send z u; send z sum; recv z sum; recv z u; signal e; } }
		spawn done; spawn done; join; print cells[1] - u; all e; print u / cells[0];`
	l := lot(3)
	for range 100 {
		others := ""
		for range l.below(8) {
			others += l.one("x = x + 1; ", "lock m; ", "unlock m; ", "lock m; wait c m; ", "signal c; ", "all c; ", "send q x; ", "recv q x; ", "print x; ", "if x % 2 { join; } ", "while x { x = x - 1; } ", "b[0] = x; ")
		}
		text := "var x = 1; var mine = 0; array b 1; array cells 3; mutex m; mutex k; cond c; cond e; chan q 1; chan z 2;\n" +
			"thread own { " + own + " } thread done { } thread other { while 1 { " + l.one("", others) + "x = 0; } } thread main { spawn own; spawn other; spawn other; " + others + "}"
		p := found(t, text)
		want := ""
		for range 6 {
			s := begun(t, p)
			got, steps := "", 0
			for ; steps < 20000; steps++ {
				ev, e := s.Step(l.below(100))
				if v, _ := s.Thread(ev.Thread); e == api.OK && p.Threads[v.Decl].Name == "own" {
					// Who is spawned gets the next number that there is: that hangs on others.
					for i := range ev.Syncs {
						ev.Syncs[i].Other -= map[api.SyncKind]int{api.SyncSpawn: ev.Syncs[i].Other, api.SyncJoin: ev.Syncs[i].Other}[ev.Syncs[i].Kind]
					}
					got += told(ev) + "; "
				}
				if e != api.OK || s.Outcome().Kind == api.RunTrap {
					break
				}
			}
			if s.Outcome().Kind == api.RunTrap && s.Outcome().Thread != 1 {
				continue // Another's trap ended all: what was done till then is as it is.
			}
			if want == "" {
				want = got
			}
			if got != want || !strings.HasSuffix(got, "1.20 trap 1 r3=0; ") {
				t.Fatalf("%s\n%s\nwant %s", text, got, want)
			}
		}
	}
}

// P5.4: whose mutexes are, and what is received, over many runs.
func TestMutexesAndValuesOverManyRuns(t *testing.T) {
	l := lot(11)
	ended := 0
	for range 1500 {
		text := l.program()
		p := found(t, text)
		s := begun(t, p)
		owners := []int{-1, -1}
		sent := make([][]int64, len(p.Chans))
		received := make([]int, len(p.Chans))
		for {
			ev, e := s.Step(l.below(100))
			if e != api.OK || l.below(150) == 0 {
				break
			}
			written := int64(0)
			for _, a := range ev.Accesses {
				if a.Write {
					written = a.Value
				}
			}
			for _, o := range ev.Syncs {
				switch o.Kind {
				case api.SyncLock:
					if owners[o.Slot] != -1 {
						t.Fatalf("%s\n%s: it is %d's", text, told(ev), owners[o.Slot])
					}
					owners[o.Slot] = ev.Thread
				case api.SyncUnlock:
					if owners[o.Slot] != ev.Thread {
						t.Fatalf("%s\n%s: it is %d's", text, told(ev), owners[o.Slot])
					}
					owners[o.Slot] = -1
				case api.SyncSend:
					values, _ := s.Sync().Values(o.Slot)
					sent[o.Slot] = append(sent[o.Slot], values[len(values)-1])
				case api.SyncRecv:
					if o.Other != received[o.Slot] || len(ev.Accesses) > 0 && written != sent[o.Slot][o.Other] {
						t.Fatalf("%s\n%s: %d were received of %v", text, told(ev), received[o.Slot], sent[o.Slot])
					}
					received[o.Slot]++
				}
			}
			for mutex, owner := range owners {
				if got, _ := s.Sync().Owner(mutex); got != owner {
					t.Fatalf("%s\n%s: mutex %d is %d's; want %d", text, told(ev), mutex, got, owner)
				}
				if owner >= 0 {
					if v, e := s.Thread(owner); e != api.OK {
						t.Fatalf("%s: it is nobody's", text)
					} else if v.State == api.ThreadEnded {
						ended++
					}
				}
			}
		}
	}
	if ended == 0 {
		t.Error("no thread ended with a mutex")
	}
}
