package names_test

import (
	"cmp"
	"fmt"
	"reflect"
	"slices"
	"strings"
	"testing"

	"warp/api"
	"warp/lex"
	"warp/names"
	"warp/syntax"
)

// What all tests of the package make and look at.

// dump tells each field; of lists that are nil and such as are empty it tells the same.
func dump(x any) string { return fmt.Sprintf("%+v", x) }

func at(line, col int) api.Pos { return api.Pos{Line: line, Col: col} }

func parse(t *testing.T, text string) []api.Decl {
	t.Helper()
	l, place, e := syntax.Parse(text)
	if e != api.OK {
		t.Fatalf("Parse(%.200q): %v, %v", text, place, e)
	}
	return l
}

func found(t *testing.T, text string) api.Prog {
	t.Helper()
	p, place, e := names.Text(text)
	if e != api.OK || place != (api.Pos{}) {
		t.Fatalf("Text(%.200q): %v, %v", text, place, e)
	}
	return p
}

// wantFlaw takes a text in which @ stands at the flaw's place; where there is none the place is zero.
func wantFlaw(t *testing.T, marked string, want api.Errno) {
	t.Helper()
	var place api.Pos
	ahead, behind, ok := strings.Cut(marked, "@")
	if ok {
		place = lex.End(ahead)
	}
	text := ahead + behind
	for _, ask := range []func() (api.Prog, api.Pos, api.Errno){
		func() (api.Prog, api.Pos, api.Errno) { return names.Text(text) },
		func() (api.Prog, api.Pos, api.Errno) { return names.Find(parse(t, text)) },
	} {
		if p, got, e := ask(); e != want || got != place || !reflect.DeepEqual(p, api.Prog{}) {
			t.Errorf("%.300q: %+v, %v, %v; want nothing, %v, %v", text, p, got, e, place, want)
		}
	}
}

// wantJudged takes a text in which @ stands at the flaw's place, or one that has none.
func wantJudged(t *testing.T, marked string, want api.Errno) {
	t.Helper()
	if want == api.OK {
		found(t, marked)
		return
	}
	wantFlaw(t, marked, want)
}

// seen tells what was found of a statement: its ID, Slot, Other, then l if Local, then each name of its expressions with its slot.
func seen(s api.Stmt) string {
	return fmt.Sprint(s.ID, " ", s.Slot, " ", s.Other) + mark(s.Local) + parts(s.Index) + parts(s.Expr)
}

func mark(local bool) string {
	if local {
		return "l"
	}
	return ""
}

func parts(e api.Expr) string {
	text := ""
	if e.Name != "" || e.Slot != 0 || e.Local {
		text = fmt.Sprint(" ", e.Name, "=", e.Slot) + mark(e.Local)
	}
	for _, a := range e.Args {
		text += parts(a)
	}
	return text
}

// wantSeen holds what was found of all statements against rows, one of each.
func wantSeen(t *testing.T, p api.Prog, rows ...string) {
	t.Helper()
	var got []string
	for _, s := range names.Stmts(p) {
		got = append(got, seen(s))
	}
	if strings.Join(got, "\n") != strings.Join(rows, "\n") {
		t.Errorf("found\n%s\nwant\n%s", strings.Join(got, "\n"), strings.Join(rows, "\n"))
	}
}

// span is the memory of a list, with its spare room; given, if it was handed in.
type span struct {
	from, to uintptr
	given    bool
}

// spans tells the memory of all lists that there are in it; of what was handed in, in which one may stand in many places, of each once.
func spans(x any, given bool) []span {
	var l []span
	gone := map[span]bool{}
	var in func(v reflect.Value)
	in = func(v reflect.Value) {
		switch v.Kind() {
		case reflect.Struct:
			for i := range v.NumField() {
				in(v.Field(i))
			}
		case reflect.Slice:
			s := span{v.Pointer(), v.Pointer() + uintptr(v.Cap())*v.Type().Elem().Size(), given}
			if v.Cap() == 0 || given && gone[s] {
				return
			}
			gone[s] = true
			l = append(l, s)
			for i := range v.Len() {
				in(v.Index(i))
			}
		}
	}
	in(reflect.ValueOf(x))
	return l
}

// wantApart: an answer shares no memory with what was handed in, nor within itself.
func wantApart(t *testing.T, answer any, given ...any) {
	t.Helper()
	l := spans(answer, false)
	for _, g := range given {
		l = append(l, spans(g, true)...)
	}
	slices.SortFunc(l, func(a, b span) int { return cmp.Compare(a.from, b.from) })
	var own, other uintptr // where the memory ends that is behind the others so far
	for _, s := range l {
		if s.from < own || !s.given && s.from < other {
			t.Fatal("an answer shares memory with what was handed in, or within itself")
		}
		if s.given {
			other = max(other, s.to)
		} else {
			own = max(own, s.to)
		}
	}
}

// each changes all statements of a block, and those in them.
func each(l []api.Stmt, change func(*api.Stmt)) {
	for i := range l {
		change(&l[i])
		each(l[i].Body, change)
		each(l[i].Else, change)
	}
}

// eachPart changes all parts of a statement's expressions.
func eachPart(s *api.Stmt, change func(*api.Expr)) {
	var in func(e *api.Expr)
	in = func(e *api.Expr) {
		change(e)
		for i := range e.Args {
			in(&e.Args[i])
		}
	}
	in(&s.Index)
	in(&s.Expr)
}

// rich has all kinds of declarations and statements.
const rich = `var v = -5; array a 4; mutex m; cond c; chan q 2;
thread t { recv q v; unlock m; signal c; all c; }
var x = 7; array b 3; mutex n; cond d; chan r 16;
thread main {
	let y = x + a[v];
	if !y {
		let z = -b[y] * 2;
		z = y;
		recv r z;
	} else {
		b[a[y]] = x || y;
		let u = 1;
		y = u;
	}
	while v < y {
		wait d n;
		lock n;
		send r y % x;
	}
	spawn t; spawn w; join; print y;
}
thread w { }
`
