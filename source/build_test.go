package source_test

import (
	"fmt"
	"reflect"
	"strings"
	"testing"

	"warp/api"
	"warp/names"
	"warp/source"
	"warp/sync"
)

// What all tests of the package make and look at.

const (
	minInt = -1 << 63
	maxInt = 1<<63 - 1
)

func found(t *testing.T, text string) api.Prog {
	t.Helper()
	p, place, e := names.Text(text)
	if e != api.OK {
		t.Fatalf("Text(%.300q): %v, %v", text, place, e)
	}
	return p
}

func made(t *testing.T, text string) *source.State {
	t.Helper()
	return begun(t, found(t, text))
}

func begun(t *testing.T, p api.Prog) *source.State {
	t.Helper()
	s, e := source.New(p)
	if s == nil || e != api.OK {
		t.Fatalf("New(%.300v): %v, %v", p, s, e)
	}
	return s
}

func nameOf(e api.Errno) string {
	switch e {
	case api.OK:
		return "OK"
	case api.ErrNil:
		return "ErrNil"
	case api.ErrArg:
		return "ErrArg"
	case api.ErrEnd:
		return "ErrEnd"
	case api.ErrBlocked:
		return "ErrBlocked"
	}
	return e.Error()
}

// syncs tells how each kind is written, and which of S (Slot) and O (Other) it names.
func syncs() map[api.SyncKind]string {
	return map[api.SyncKind]string{
		1: "lock S", 2: "unlock S", 3: "signal S O", 4: "send S O", 5: "recv S O", 6: "spawn O", 7: "join O", 8: "end",
	}
}

// told tells an event: its thread and statement, woke, its trap, its accesses (r0=1: cell 0 was read, w0=2: written), what was told, its value, its syncs.
// What is 0 is not told; what must be zero and is not shows.
func told(ev api.Event) string {
	text := fmt.Sprintf("%d.%d", ev.Thread, ev.Stmt)
	if ev.Woke {
		text += " woke"
	}
	if ev.Trap != api.TrapNone {
		text += fmt.Sprint(" trap ", int(ev.Trap))
	}
	for _, a := range ev.Accesses {
		kind := map[bool]string{false: "r", true: "w"}[a.Write]
		text += fmt.Sprintf(" %s%d=%d", kind, a.Cell, a.Value)
	}
	if ev.Told || ev.Out != 0 {
		text += fmt.Sprint(map[bool]string{true: " told ", false: " out "}[ev.Told], ev.Out)
	}
	if ev.Value != 0 {
		text += fmt.Sprint(" value ", ev.Value)
	}
	for _, s := range ev.Syncs {
		form := syncs()[s.Kind]
		text += " " + strings.NewReplacer("S", fmt.Sprint(s.Slot), "O", fmt.Sprint(s.Other)).Replace(form)
		if !strings.Contains(form, "S") && s.Slot != 0 || !strings.Contains(form, "O") && s.Other != 0 {
			text += "!"
		}
	}
	return text
}

func toldAll(l []api.Event) string {
	var all []string
	for _, ev := range l {
		all = append(all, told(ev))
	}
	return strings.Join(all, "; ")
}

func outcome(o api.Outcome) string {
	switch {
	case o.Kind == api.RunTrap:
		return fmt.Sprintf("trap %d by %d at %d", o.Trap, o.Thread, o.Stmt)
	case o != api.Outcome{Kind: o.Kind}:
		return fmt.Sprintf("%+v", o)
	}
	return []string{"none", "goes", "done", "stuck"}[o.Kind]
}

// view tells a thread: its declaration, how it is, its locals, what is next, whom it spawned.
func view(v api.ThreadView) string {
	return fmt.Sprintf("%d %s %v %d %v", v.Decl, []string{"none", "goes", "waits", "wakes", "ended"}[v.State], v.Locals, v.Next, v.Spawned)
}

// threads tells all threads as they are.
func threads(s *source.State) []string {
	var l []string
	for n := range s.Threads() {
		v, e := s.Thread(n)
		text := view(v)
		if e != api.OK {
			text += " beside " + nameOf(e)
		}
		l = append(l, text)
	}
	return l
}

// within tells what stands in a Sync: owners, who waits, values.
func within(p api.Prog, s *sync.Sync) string {
	var l []any
	for m := range p.Mutexes {
		owner, e := s.Owner(m)
		l = append(l, owner, e)
	}
	for c := range p.Conds {
		waits, e := s.Waits(c)
		l = append(l, waits, e)
	}
	for q := range p.Chans {
		values, e := s.Values(q)
		l = append(l, values, e)
	}
	return fmt.Sprint(l...)
}

// whole tells all that a state tells.
func whole(p api.Prog, s *source.State) string {
	return fmt.Sprint(s.Can(), outcome(s.Outcome()), s.Cells(), threads(s), within(p, s.Sync()))
}

// play does the steps of some threads, one behind the other, and tells them.
func play(t *testing.T, s *source.State, who ...int) string {
	t.Helper()
	var l []api.Event
	for _, n := range who {
		ev, e := s.Do(n)
		if e != api.OK {
			t.Fatalf("Do(%d) behind %s: %v", n, toldAll(l), nameOf(e))
		}
		l = append(l, ev)
	}
	return toldAll(l)
}

// numbers reads "0 1 1".
func numbers(t *testing.T, text string) []int {
	t.Helper()
	var l []int
	for _, word := range strings.Fields(text) {
		var n int
		if _, err := fmt.Sscan(word, &n); err != nil {
			t.Fatalf("%q: %v", text, err)
		}
		l = append(l, n)
	}
	return l
}

// row is a program, whose steps are done, what they are, and how it stands behind them.
type row struct{ text, who, steps, end string }

func wantRows(t *testing.T, rows ...row) {
	t.Helper()
	for _, r := range rows {
		s := made(t, r.text)
		if got := play(t, s, numbers(t, r.who)...); got != r.steps {
			t.Errorf("%s\n%s: %s\nwant %s", r.text, r.who, got, r.steps)
		}
		if got := outcome(s.Outcome()); got != r.end {
			t.Errorf("%s\n%s: it stands %q; want %q", r.text, r.who, got, r.end)
		}
	}
}

// wantZero: beside an error all other answers are zero.
func wantZero(t *testing.T, x any, e, want api.Errno) {
	t.Helper()
	if e != want || !reflect.ValueOf(x).IsZero() {
		t.Errorf("%+v, %v; want nothing, %v", x, nameOf(e), nameOf(want))
	}
}

// wantOver: behind the end no thread goes on, whichever is asked.
func wantOver(t *testing.T, s *source.State) {
	t.Helper()
	if can := s.Can(); len(can) != 0 {
		t.Errorf("%v can go on behind the end", can)
	}
	for _, pick := range []int{0, 1, -1, minInt, maxInt} {
		ev, e := s.Step(pick)
		wantZero(t, ev, e, api.ErrEnd)
	}
	for n := range s.Threads() {
		ev, e := s.Do(n)
		wantZero(t, ev, e, api.ErrEnd)
	}
	for _, n := range []int{-1, s.Threads(), minInt, maxInt} {
		ev, e := s.Do(n)
		wantZero(t, ev, e, api.ErrArg)
	}
	before := s.Copy()
	if l, end := s.Run(0, 1, 2); len(l) != 0 || end != s.Outcome() || !source.Same(s, before) {
		t.Errorf("Run did %s behind the end", toldAll(l))
	}
}

// spoil changes a list, and the spare room behind it.
func spoil[T any](l []T, x T) {
	for i := range l[:cap(l)] {
		l[:cap(l)][i] = x
	}
}

// lot is a row of numbers that looks like chance, and is the same in each run.
type lot uint64

func (l *lot) below(n int) int {
	*l = *l*6364136223846793005 + 1442695040888963407
	return int(*l>>33) % n
}

func (l *lot) one(texts ...string) string { return texts[l.below(len(texts))] }

// each goes over all statements of a program, as they stand in it.
func each(p api.Prog, do func(s *api.Stmt)) {
	var in func(l []api.Stmt)
	in = func(l []api.Stmt) {
		for i := range l {
			do(&l[i])
			in(l[i].Body)
			in(l[i].Else)
		}
	}
	for _, t := range p.Threads {
		in(t.Body)
	}
}

// eachPart goes over all parts of a statement's expressions.
func eachPart(s *api.Stmt, do func(e *api.Expr)) {
	var in func(e *api.Expr)
	in = func(e *api.Expr) {
		if e.Kind != api.ExprNone {
			do(e)
		}
		for i := range e.Args {
			in(&e.Args[i])
		}
	}
	in(&s.Index)
	in(&s.Expr)
}
