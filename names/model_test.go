package names_test

import (
	"fmt"
	"strings"
	"testing"

	"warp/api"
	"warp/names"
)

// P3.1, P3.3: the chapter's words once more, without blocks that are entered and left: all statements stand in one row,
// and a local is there at a place if that lies between its StmtLet and the end of the block.

type spot struct {
	api.Stmt
	thread, end int // end is the place behind the last statement of its block
}

func size(l []api.Stmt) int {
	n := len(l)
	for _, s := range l {
		n += size(s.Body) + size(s.Else)
	}
	return n
}

func row(to []spot, l []api.Stmt, thread int) []spot {
	end := len(to) + size(l)
	for _, s := range l {
		to = append(to, spot{s, thread, end})
		to = row(row(to, s.Body, thread), s.Else, thread)
	}
	return to
}

type model struct {
	decls []api.Decl
	row   []spot
}

// there tells the locals at a place.
func (m model) there(at int) []string {
	var l []string
	for i, s := range m.row[:at] {
		if s.Kind == api.StmtLet && i < at && at < s.end && s.thread == m.row[at].thread {
			l = append(l, s.Name)
		}
	}
	return l
}

// what tells the kind and the slot of a name at a place; no kind of one that is not there.
func (m model) what(name string, at int) (string, int) {
	for slot, local := range m.there(at) {
		if local == name {
			return "local", slot
		}
	}
	slots := map[api.DeclKind]int{}
	for _, d := range m.decls {
		if d.Name == name {
			return []string{"", "var", "array", "mutex", "cond", "chan", "thread"}[d.Kind], slots[d.Kind]
		}
		slots[d.Kind]++
	}
	return "", 0
}

// asks are a statement's names in the order in which they are looked at, each with what it must be.
func asks(s api.Stmt) [][2]string {
	var l [][2]string
	var in func(e api.Expr)
	in = func(e api.Expr) {
		switch e.Kind {
		case api.ExprName:
			l = append(l, [2]string{e.Name, "var local"})
		case api.ExprCell:
			l = append(l, [2]string{e.Name, "array"})
		}
		for _, a := range e.Args {
			in(a)
		}
	}
	in(s.Index)
	in(s.Expr)
	if is := []string{api.StmtLet: "new", api.StmtSet: "var local", api.StmtPut: "array", api.StmtLock: "mutex", api.StmtUnlock: "mutex", api.StmtWait: "cond",
		api.StmtSignal: "cond", api.StmtAll: "cond", api.StmtSend: "chan", api.StmtRecv: "chan", api.StmtSpawn: "thread", api.StmtPrint: ""}[s.Kind]; is != "" {
		l = append(l, [2]string{s.Name, is})
	}
	switch s.Kind {
	case api.StmtWait:
		l = append(l, [2]string{s.With, "mutex"})
	case api.StmtRecv:
		l = append(l, [2]string{s.With, "var local"})
	}
	return l
}

func (m model) flaw(name, is string, at int) api.Errno {
	switch kind, _ := m.what(name, at); {
	case is == "new" && kind != "":
		return api.ErrTwice
	case is == "new" && len(m.there(at)) == api.MaxLocals:
		return api.ErrBound
	case is == "new":
		return api.OK
	case kind == "":
		return api.ErrUnknown
	case !strings.Contains(is, kind):
		return api.ErrKind
	}
	return api.OK
}

// first tells the first flaw of a program whose declarations have none.
func (m model) first() (api.Pos, api.Errno) {
	for at, s := range m.row {
		if at == api.MaxStmts {
			return s.Pos, api.ErrBound
		}
		for _, a := range asks(s.Stmt) {
			if e := m.flaw(a[0], a[1], at); e != api.OK {
				return s.Pos, e
			}
		}
	}
	return api.Pos{}, api.OK
}

// seen is what must be found of the statement at a place, as seen tells it.
func (m model) seen(at int) string {
	s := m.row[at].Stmt
	s.ID = at
	kind, slot := m.what(s.Name, at)
	if s.Kind == api.StmtLet {
		kind, slot = "local", len(m.there(at))
	}
	s.Slot, s.Local = slot, kind == "local"
	if s.With != "" {
		kind, s.Other = m.what(s.With, at)
		s.Local = kind == "local"
	}
	eachPart(&s, func(e *api.Expr) {
		if e.Name != "" {
			kind, e.Slot = m.what(e.Name, at)
			e.Local = kind == "local"
		}
	})
	return seen(s)
}

// locals tells how many are ever there at once in a thread.
func (m model) locals(thread int) int {
	most := 0
	for at, s := range m.row {
		if s.thread == thread && s.Kind == api.StmtLet {
			most = max(most, len(m.there(at))+1)
		}
	}
	return most
}

// againstModel tells whether the program has no flaw.
func againstModel(t *testing.T, text string) bool {
	t.Helper()
	m := model{decls: parse(t, text)}
	threads := 0
	for _, d := range m.decls {
		if d.Kind == api.DeclThread {
			m.row = row(m.row, d.Body, threads)
			threads++
		}
	}
	p, place, e := names.Text(text)
	if wantPlace, want := m.first(); place != wantPlace || e != want {
		t.Fatalf("%q: %v, %v; want %v, %v", text, place, e, wantPlace, want)
	}
	if e != api.OK {
		if dump(p) != dump(api.Prog{}) {
			t.Fatalf("%q: beside %v there is %+v", text, e, p)
		}
		return false
	}
	l := names.Stmts(p)
	if len(l) != len(m.row) || p.Stmts != len(l) || len(p.Threads) != threads {
		t.Fatalf("%q: %d statements, %d, of %d threads", text, len(l), p.Stmts, len(p.Threads))
	}
	for i, s := range l {
		if seen(s) != m.seen(i) {
			t.Fatalf("%q: found %s; want %s", text, seen(s), m.seen(i))
		}
		if thread, ok := names.Thread(p, i); !ok || thread != m.row[i].thread {
			t.Fatalf("%q: %d is in %d, %v", text, i, thread, ok)
		}
	}
	for i, th := range p.Threads {
		if th.Locals != m.locals(i) {
			t.Fatalf("%q: %d has %d locals; want %d", text, i, th.Locals, m.locals(i))
		}
	}
	wantSound(t, text, p)
	return true
}

// wantSound: each Slot is one that there is, each ID is there once, and Slots of locals are below Locals.
func wantSound(t *testing.T, text string, p api.Prog) {
	t.Helper()
	ids := map[int]int{}
	for _, th := range p.Threads {
		room := map[string]int{"var": len(p.Vars), "array": len(p.Arrays), "mutex": p.Mutexes, "cond": p.Conds, "chan": len(p.Chans), "thread": len(p.Threads), "local": th.Locals}
		below := func(slot int, local bool, is string) {
			if local {
				is = "local"
			}
			if slot < 0 || slot >= room[strings.Fields(is)[0]] {
				t.Fatalf("%q: %d is no slot of %s", text, slot, is)
			}
		}
		each(th.Body, func(s *api.Stmt) {
			ids[s.ID]++
			eachPart(s, func(e *api.Expr) {
				switch e.Kind {
				case api.ExprName:
					below(e.Slot, e.Local, "var")
				case api.ExprCell:
					below(e.Slot, e.Local, "array")
				}
			})
			switch all := asks(*s); s.Kind {
			case api.StmtLet:
				below(s.Slot, s.Local, "local")
			case api.StmtRecv:
				below(s.Slot, false, "chan")
				below(s.Other, s.Local, "var")
			case api.StmtWait:
				below(s.Slot, s.Local, "cond")
				below(s.Other, s.Local, "mutex")
			case api.StmtIf, api.StmtWhile, api.StmtJoin, api.StmtPrint:
			default:
				below(s.Slot, s.Local, all[len(all)-1][1])
			}
		})
	}
	for id := range p.Stmts {
		if ids[id] != 1 {
			t.Fatalf("%q: %d is there %d times", text, id, ids[id])
		}
	}
}

// all tells each text that comes of it when each $ is one of the words.
func all(text string, words []string, tell func(string)) {
	ahead, behind, ok := strings.Cut(text, "$")
	if !ok {
		tell(text)
		return
	}
	for _, w := range words {
		all(ahead+w+behind, words, tell)
	}
}

func TestAllShortStatements(t *testing.T) {
	words := strings.Fields("no v w l k a m c q t")
	good := 0
	for _, s := range []string{"let $ = $;", "$ = $;", "$[$] = $;", "lock $;", "unlock $;", "wait $ $;", "signal $;", "all $;", "send $ $;", "recv $ $;", "spawn $;", "join;", "print $[$] + $;",
		"if $ { let $ = 1; } $ = 1;", "while $ { let $ = 1; $ = 2; }", "if 1 { let $ = 1; } else { $ = 1; }", "let $ = 1; let $ = $;"} {
		all(s, words, func(s string) {
			for _, frame := range []string{"thread main { let k = 1; let l = 2;\n%s}", "thread t2 { %s } thread main { let l = 2; join; }"} {
				if againstModel(t, "array b 2; var v = 1; mutex n; array a 3; mutex m; cond d; cond c; chan p 1; chan q 1; var w = 2; thread t { } "+fmt.Sprintf(frame, s)) {
					good++
				}
			}
		})
	}
	if good < 150 {
		t.Errorf("only %d of them have no flaw", good)
	}
}

// lot is a row of numbers that looks like chance, and is the same in each run.
type lot uint32

func (l *lot) pick(n int) int {
	*l = *l*1664525 + 1013904223
	return int(*l>>8) % n
}

// block writes statements; of names there are few, so that they are there often, and of blocks many.
func (l *lot) block(deep int) string {
	var b strings.Builder
	b.WriteString("{ ")
	name := func() string { return string("xyzuvw"[l.pick(6)]) }
	for range l.pick(6) {
		switch k := l.pick(12); {
		case k < 4:
			b.WriteString("let " + name() + " = 1; ")
		case k < 6 && l.pick(3) == 0:
			b.WriteString(name() + " = a[" + name() + "]; ")
		case k < 7:
			b.WriteString("recv q x; ")
		case k < 8:
			b.WriteString("print x; ")
		case deep == 0:
			b.WriteString("join; ")
		case k < 10:
			b.WriteString("while 1 " + l.block(deep-1))
		default:
			b.WriteString("if x " + l.block(deep-1) + "else " + l.block(deep-1))
		}
	}
	b.WriteString("}\n")
	return b.String()
}

func TestManyPrograms(t *testing.T) {
	l, good, bad := lot(5), 0, 0
	for range 6000 {
		if againstModel(t, "array a 2; var x = 1; chan q 1; thread t "+l.block(2)+"thread main "+l.block(4)) {
			good++
		} else {
			bad++
		}
	}
	if good < 1000 || bad < 1000 {
		t.Errorf("%d have no flaw, %d have one", good, bad)
	}
}

// P3.3: Find hangs on no place of a text.
func TestFindHangsOnNoPlace(t *testing.T) {
	bare := func(p api.Prog) string {
		for i := range p.Threads {
			each(p.Threads[i].Body, func(s *api.Stmt) { s.Pos = api.Pos{} })
		}
		return dump(p)
	}
	want := bare(found(t, rich))
	for _, text := range []string{"\n\n  " + rich, strings.ReplaceAll(rich, "\n", " "), strings.ReplaceAll(rich, " ", "\t#\r\n ")} {
		if got := bare(found(t, text)); got != want {
			t.Errorf("of %q is found %s; want %s", text, got, want)
		}
	}
	l := lot(3)
	for range 50 {
		decls := parse(t, rich)
		for i := range decls {
			decls[i].Pos = at(l.pick(9)-4, l.pick(9))
			each(decls[i].Body, func(s *api.Stmt) { s.Pos = at(l.pick(9), l.pick(9)-4) })
		}
		p, place, e := names.Find(decls)
		if e != api.OK || place != (api.Pos{}) || p.Threads[1].Body[1].Pos != decls[7+4].Body[1].Pos || bare(p) != want {
			t.Fatalf("%v, %v: %+v", place, e, p)
		}
	}
	// Of flaws the order counts, not the place.
	decls := parse(t, ground+"thread main { lock no; lock v; }")
	last := &decls[len(decls)-1]
	last.Body[0].Pos, last.Body[1].Pos = at(9, 9), at(1, 1)
	if _, place, e := names.Find(decls); place != at(9, 9) || e != api.ErrUnknown {
		t.Errorf("%v, %v", place, e)
	}
}
