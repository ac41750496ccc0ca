package names_test

import (
	"fmt"
	"reflect"
	"strings"
	"testing"

	"warp/api"
	"warp/names"
	"warp/syntax"
)

// P3.1

func TestTheChaptersExamples(t *testing.T) {
	p := found(t, "var x = 1; thread main { let y = x; x = y + 1; print x; }")
	x := api.Expr{Kind: api.ExprName, Name: "x"}
	y := api.Expr{Kind: api.ExprName, Name: "y", Local: true}
	want := api.Prog{
		Vars: []int64{1},
		Threads: []api.Thread{{Name: "main", Locals: 1, Body: []api.Stmt{
			{Kind: api.StmtLet, Pos: at(1, 26), Name: "y", Expr: x, Local: true},
			{Kind: api.StmtSet, Pos: at(1, 37), Name: "x", ID: 1, Expr: api.Expr{Kind: api.ExprBin, Op: api.OpAdd, Args: []api.Expr{y, {Kind: api.ExprNum, Num: 1}}}},
			{Kind: api.StmtPrint, Pos: at(1, 48), ID: 2, Expr: x},
		}}},
		Stmts: 3,
		Names: api.Names{Vars: []string{"x"}},
	}
	if dump(p) != dump(want) {
		t.Errorf("found %+v; want %+v", p, want)
	}
	wantFlaw(t, "thread main { @x = 1; }", api.ErrUnknown)
	wantFlaw(t, "var x = 1; @var x = 2; thread main { }", api.ErrTwice)
	for text, place := range map[string]api.Pos{"thread main { x = 1; }": at(1, 15), "var x = 1; var x = 2; thread main { }": at(1, 12)} {
		if _, got, _ := names.Text(text); got != place {
			t.Errorf("%q: %v", text, got)
		}
	}
}

func TestAllThatThereIsIsFound(t *testing.T) {
	p := found(t, rich)
	bare := names.Copy(p)
	bare.Threads = nil
	if want := (api.Prog{
		Vars: []int64{-5, 7}, Arrays: []int{4, 3}, Mutexes: 2, Conds: 2, Chans: []int{2, 16}, Main: 1, Stmts: 20,
		Names: api.Names{Vars: []string{"v", "x"}, Arrays: []string{"a", "b"}, Mutexes: []string{"m", "n"}, Conds: []string{"c", "d"}, Chans: []string{"q", "r"}},
	}); dump(bare) != dump(want) {
		t.Errorf("found %+v; want %+v", bare, want)
	}
	var threads []string
	for _, th := range p.Threads {
		threads = append(threads, fmt.Sprint(th.Name, th.Locals, len(th.Body)))
	}
	if dump(threads) != dump([]string{"t0 4", "main2 7", "w0 0"}) {
		t.Errorf("threads %v", threads)
	}
	wantSeen(t, p,
		"0 0 0", "1 0 0", "2 0 0", "3 0 0",
		"4 0 0l x=1 a=0 v=0",
		"5 0 0 y=0l", "6 1 0l b=1 y=0l", "7 1 0l y=0l", "8 1 1l",
		"9 1 0 a=0 y=0l x=1 y=0l", "10 1 0l", "11 0 0l u=1l",
		"12 0 0 v=0 y=0l", "13 1 1", "14 1 0", "15 1 0 y=0l x=1",
		"16 0 0", "17 2 0", "18 0 0", "19 0 0 y=0l")
	if again := parse(t, rich); !syntax.Same([]api.Decl{{Kind: api.DeclThread, Name: "main", Body: p.Threads[1].Body}}, again[11:12]) {
		t.Error("what is not found anew must stay")
	}
}

func TestSlotsAreOfEachKindApart(t *testing.T) {
	p := found(t, "thread u { } mutex m; var a = 1; thread main { lock m; lock k; print a + b; signal c; send q 1; spawn u; spawn main; spawn z; x[0] = y[1]; } mutex k; array x 1; cond c; var b = 2; chan q 1; array y 2; thread z { }")
	if p.Main != 1 || len(p.Threads) != 3 || p.Threads[2].Name != "z" {
		t.Errorf("main is %d of %v", p.Main, p.Threads)
	}
	wantSeen(t, p, "0 0 0", "1 1 0", "2 0 0 a=0 b=1", "3 0 0", "4 0 0", "5 0 0", "6 1 0", "7 2 0", "8 0 0 y=1")
}

// A wait's Other is a mutex, a recv's a variable or a local.
func TestOther(t *testing.T) {
	wantSeen(t, found(t, "var x = 1; var y = 2; mutex m; mutex n; cond c; cond d; chan q 1; chan r 1; thread main { wait c n; wait d m; recv q y; recv r x; let u = 1; let w = 2; recv q w; recv r u; recv r y; }"),
		"0 0 1", "1 1 0", "2 0 1", "3 1 0", "4 0 0l", "5 1 0l", "6 0 1l", "7 1 0l", "8 1 1")
}

func TestMainMustBeAThread(t *testing.T) {
	for _, text := range []string{"", "# nothing", "var x = 1;", "thread t { }", "var main = 1; thread t { }", "chan main 1;", "thread t { x = 1; let y = z; }", "thread main1 { } thread mai { }"} {
		wantFlaw(t, text, api.ErrMain)
	}
	wantFlaw(t, "thread main { } @thread main { }", api.ErrTwice)
	if p := found(t, "thread main { }"); p.Main != 0 || p.Stmts != 0 || len(p.Threads) != 1 {
		t.Errorf("%+v", p)
	}
}

func TestDeclarationsThatAreThereAlready(t *testing.T) {
	all := []string{"var n = 1;", "array n 1;", "mutex n;", "cond n;", "chan n 1;", "thread n { }"}
	for _, first := range all {
		for _, second := range all {
			wantFlaw(t, "thread main { }\n"+first+" var x = 1;\n @"+second, api.ErrTwice)
		}
	}
}

func TestNumbersOfDeclarations(t *testing.T) {
	for text, e := range map[string]api.Errno{
		"var x = 2147483647;": api.OK, "var x = -2147483647;": api.OK, "var x = 0;": api.OK,
		"array a 1;": api.OK, "array a 256;": api.OK, "array a 255; array b 1;": api.OK, "array a 100; var x = 300; array b 100; array c 56;": api.OK,
		"@array a 0;": api.ErrBound, "@array a 257;": api.ErrBound, "@array a 2147483647;": api.ErrBound,
		"array a 256; @array b 1;": api.ErrBound, "array a 100; array b 100; @array c 57;": api.ErrBound,
		"array a 255; @array b 2; array c 0;": api.ErrBound, "array a 1; @array b 2147483647;": api.ErrBound, "array a 256; @array b 0;": api.ErrBound,
		"chan q 1;": api.OK, "chan q 16; chan r 16;": api.OK,
		"@chan q 0;": api.ErrBound, "@chan q 17;": api.ErrBound, "chan q 16; @chan r 2147483647;": api.ErrBound,
	} {
		wantJudged(t, text+" thread main { }", e)
	}
	p := found(t, "var x = -2147483647; var y = 2147483647; array a 200; array b 56; chan q 16; thread main { }")
	if dump(p.Vars) != "[-2147483647 2147483647]" || dump(p.Arrays) != "[200 56]" || dump(p.Chans) != "[16]" {
		t.Errorf("%+v", p)
	}
}

// many has so many variables, x1 and so on, each on a line of its own.
func many(n int) string {
	text := ""
	for i := range n {
		text += fmt.Sprintf("var x%d = %d;\n", i+1, i)
	}
	return text
}

func TestHowManyDeclarations(t *testing.T) {
	p := found(t, many(api.MaxNames-1)+"thread main { print x63; }")
	if len(p.Vars) != 63 || p.Names.Vars[62] != "x63" || p.Threads[0].Body[0].Expr.Slot != 62 {
		t.Errorf("%+v", p)
	}
	full := "thread main { }" + many(api.MaxNames-1)
	for _, more := range []string{"@var y = 1;", "@mutex y;", "@thread t { }", "@var y = 1; var x1 = 1;", "@cond y; mutex y; array a 0;", "@chan q 17;"} {
		wantFlaw(t, full+more, api.ErrBound)
	}
	wantFlaw(t, full+"@var x63 = 1;", api.ErrTwice)
	wantFlaw(t, many(api.MaxNames)+"@var y = 1;", api.ErrBound)
	wantFlaw(t, many(api.MaxNames), api.ErrMain)
	wantFlaw(t, "@array a 0; thread main { } "+many(api.MaxNames), api.ErrBound)
}

func TestHowManyStatements(t *testing.T) {
	joins := func(n int) string { return strings.Repeat("join; ", n) }
	for text, e := range map[string]api.Errno{
		"thread main { " + joins(512) + "}":                                                        api.OK,
		"thread main { " + joins(512) + "@join; x = 1; }":                                          api.ErrBound,
		"thread main { " + joins(512) + "@x = 1; }":                                                api.ErrBound,
		"thread main { " + joins(511) + "@x = 1; join; }":                                          api.ErrUnknown,
		"thread t { " + joins(500) + "} thread main { " + joins(12) + "}":                          api.OK,
		"thread t { " + joins(500) + "} thread main { " + joins(12) + "@join; }":                   api.ErrBound,
		"thread main { " + joins(512) + "} thread t { @join; }":                                    api.ErrBound,
		"thread main { if 1 { " + joins(255) + "} else { while 1 { " + joins(255) + "} } }":        api.OK,
		"thread main { if 1 { " + joins(255) + "} else { while 1 { " + joins(255) + "@join; } } }": api.ErrBound,
		"thread main { while 1 { " + joins(511) + "} @join; }":                                     api.ErrBound,
		"thread main { " + joins(511) + "while 1 { @if x { } } }":                                  api.ErrBound,
		"thread main { if 1 { " + joins(511) + "} else { @join; } }":                               api.ErrBound,
		"thread main { " + joins(512) + "} thread t { } @array a 0;":                               api.ErrBound,
		"thread main { " + joins(600) + "} thread t { } @thread t { }":                             api.ErrTwice,
	} {
		if e != api.OK {
			wantFlaw(t, text, e)
		} else if p := found(t, text); p.Stmts != api.MaxStmts {
			t.Errorf("%d statements", p.Stmts)
		}
	}
}

// wrong are statements that may not be among ground's declarations, and their flaws.
func wrong() map[string]api.Errno {
	l := map[string]api.Errno{"let y = y;": api.ErrUnknown, "let v = 1;": api.ErrTwice, "let main = 1;": api.ErrTwice, "let l = 1;": api.ErrTwice, "let l = no;": api.ErrUnknown, "let v = m;": api.ErrKind}
	kinds := map[string]string{"var": "v", "local": "l", "array": "a", "mutex": "m", "cond": "c", "chan": "q", "thread": "t"}
	for text, takes := range map[string]string{
		"$ = 1;": "var local", "$[1] = 1;": "array", "lock $;": "mutex", "unlock $;": "mutex", "wait $ m;": "cond", "wait c $;": "mutex", "signal $;": "cond", "all $;": "cond",
		"send $ 1;": "chan", "recv $ v;": "chan", "recv q $;": "var local", "spawn $;": "thread", "print $;": "var local", "print -$;": "var local", "print 1 + $;": "var local", "print $[0];": "array",
		"print a[$];": "var local", "print 1 + 2 * !$[v];": "array", "let y = $;": "var local", "v = $;": "var local", "a[$] = 1;": "var local", "a[1] = $;": "var local",
		"if $ { }": "var local", "while $ { }": "var local", "send q $;": "var local", "if 1 < $ { } else { }": "var local", "while a[a[$]] { }": "var local",
	} {
		l[strings.ReplaceAll(text, "$", "no")] = api.ErrUnknown
		for kind, name := range kinds {
			l[strings.ReplaceAll(text, "$", name)] = api.ErrKind
			if strings.Contains(takes, kind) {
				l[strings.ReplaceAll(text, "$", name)] = api.OK
			}
		}
	}
	return l
}

const ground = "var v = 1; array a 2; mutex m; cond c; chan q 3; thread t { } "

func TestEachFlawOfAStatement(t *testing.T) {
	for text, e := range wrong() {
		if e == api.OK {
			found(t, ground+"thread main { let l = 1; "+text+" }")
			continue
		}
		wantFlaw(t, ground+"thread main { let l = 1;\n  @"+text+" }", e)
		wantFlaw(t, ground+"thread main { let l = 1; if 1 { join; } else { while v {\n join; @"+text+" no = 1; } } lock no; }", e)
	}
}

// Of a statement its Index comes first, then its Expr, its Name, its With.
func TestWhichFlawOfAStatementIsToldFirst(t *testing.T) {
	for text, e := range map[string]api.Errno{
		"no[m] = no;": api.ErrKind, "m[no] = m;": api.ErrUnknown, "no[1] = m;": api.ErrKind, "m[1] = no;": api.ErrUnknown, "no[1] = 1;": api.ErrUnknown, "m[1] = 1;": api.ErrKind,
		"no = m;": api.ErrKind, "m = no;": api.ErrUnknown, "send no m;": api.ErrKind, "send m no;": api.ErrUnknown,
		"wait no v;": api.ErrUnknown, "wait v no;": api.ErrKind, "recv no m;": api.ErrUnknown, "recv m no;": api.ErrKind, "wait c no;": api.ErrUnknown, "recv q no;": api.ErrUnknown,
		"print no + m;": api.ErrUnknown, "print m + no;": api.ErrKind, "print 1 + (2 + m) + no;": api.ErrKind, "print (v < no) == (m < v);": api.ErrUnknown,
		"print no[m];": api.ErrUnknown, "print v[no];": api.ErrKind, "print a[m] + no;": api.ErrKind, "print a[no] + m;": api.ErrUnknown, "print a[v[no]];": api.ErrKind, "print a[no[m]];": api.ErrUnknown,
		"let v = no;": api.ErrUnknown, "let v = m;": api.ErrKind, "let v = v;": api.ErrTwice,
		"if no { lock v; }": api.ErrUnknown, "while m { no = 1; }": api.ErrKind, "if m { } else { no = 1; }": api.ErrKind,
	} {
		wantFlaw(t, ground+"thread main { @"+text+" }", e)
	}
}

// What is ahead in the order of the chapter is told first, wherever it stands in the text.
func TestWhichFlawOfAProgramIsToldFirst(t *testing.T) {
	for text, e := range map[string]api.Errno{
		"thread main { x = 1; } @array a 0;":                                     api.ErrBound,
		"thread main { x = 1; } var y = 1; @mutex y;":                            api.ErrTwice,
		"thread t { x = 1; }":                                                    api.ErrMain,
		"thread t { x = 1; } @chan q 0;":                                         api.ErrBound,
		"var y = 1; @cond y; array a 0;":                                         api.ErrTwice,
		"@array a 0; var y = 1; cond y;":                                         api.ErrBound,
		"var y = 1; @array y 0;":                                                 api.ErrTwice,
		"var y = 1; @chan y 99;":                                                 api.ErrTwice,
		"thread t { @x = 1; } thread main { lock t; }":                           api.ErrUnknown,
		"thread main { @lock t; } thread t { x = 1; }":                           api.ErrKind,
		"thread main { @x = 1; lock main; }":                                     api.ErrUnknown,
		"thread main { if 1 { @lock main; } else { x = 1; } x = 1; }":            api.ErrKind,
		"thread main { if 1 { } else { while 1 { @lock main; } x = 1; } x = 1;}": api.ErrKind,
		"thread main { @while x { lock main; } }":                                api.ErrUnknown,
	} {
		wantFlaw(t, text, e)
	}
}

func TestNamesMayBeDeclaredBehind(t *testing.T) {
	p := found(t, "thread main { x = a[1]; lock m; spawn t; } thread t { } mutex m; array a 2; var x = 1;")
	wantSeen(t, p, "0 0 0 a=0", "1 0 0", "2 1 0")
	wantFlaw(t, "thread main { @let x = 1; } var x = 1;", api.ErrTwice)
}

// A local is there from behind its StmtLet to the end of the block.
func TestWhereLocalsAreThere(t *testing.T) {
	for text, e := range map[string]api.Errno{
		"@y = 1; let y = 2;":                                  api.ErrUnknown,
		"@let y = y + 1;":                                     api.ErrUnknown,
		"let y = 1; @let y = y;":                              api.ErrTwice,
		"if 1 { let y = 1; } @print y;":                       api.ErrUnknown,
		"if 1 { let y = 1; } else { @print y; }":              api.ErrUnknown,
		"while 1 { let y = 1; } @y = 2;":                      api.ErrUnknown,
		"while 1 { if 1 { let y = 1; } @y = 2; }":             api.ErrUnknown,
		"let y = 1; while y { @let y = 2; }":                  api.ErrTwice,
		"while 1 { let y = 1; } let y = 2; if y { y = 3; }":   api.OK,
		"if 1 { let y = 1; y = 2; } else { let y = 3; }":      api.OK,
		"let y = 1; if y { y = 2; while y { print y; } }":     api.OK,
		"while 1 { print 1; let y = 1; } if 1 { let y = 1; }": api.OK,
		"let y = 1; if 1 { let z = y; } print y; @print z;":   api.ErrUnknown,
	} {
		wantJudged(t, "thread main { "+text+" } thread t { let y = 1; }", e)
	}
	wantFlaw(t, "thread t { let y = 1; } thread main { @y = 1; }", api.ErrUnknown)
}

// A local's slot is how many locals are there ahead of it; a thread has room for as many as are ever there at once.
func TestSlotsOfLocals(t *testing.T) {
	p := found(t, `thread main {
		let a = 1; let b = a;
		if a { let c = b; let d = c; d = 1; } else { let e = b; e = 1; }
		let f = a;
		while f { let g = f; while g { let h = g; h = a; } let i = g; i = 1; }
		f = 1;
	} thread t { let f = 1; let a = f; f = a; } thread u { }`)
	wantSeen(t, p,
		"0 0 0l", "1 1 0l a=0l",
		"2 0 0 a=0l", "3 2 0l b=1l", "4 3 0l c=2l", "5 3 0l", "6 2 0l b=1l", "7 2 0l",
		"8 2 0l a=0l",
		"9 0 0 f=2l", "10 3 0l f=2l", "11 0 0 g=3l", "12 4 0l g=3l", "13 4 0l a=0l", "14 4 0l g=3l", "15 4 0l",
		"16 2 0l",
		"17 0 0l", "18 1 0l f=0l", "19 0 0l a=1l")
	for i, want := range []int{5, 2, 0} {
		if got := p.Threads[i].Locals; got != want {
			t.Errorf("thread %d has %d locals; want %d", i, got, want)
		}
	}
}

// lets has so many locals, of names that begin so.
func lets(name string, n int) string {
	text := ""
	for i := range n {
		text += fmt.Sprintf("let %s%d = 1; ", name, i)
	}
	return text
}

func TestHowManyLocals(t *testing.T) {
	for text, e := range map[string]api.Errno{
		lets("y", 32):                                                        api.OK,
		lets("y", 32) + "@let z = 1;":                                        api.ErrBound,
		lets("y", 32) + "@let y31 = 1;":                                      api.ErrTwice,
		lets("y", 32) + "@let main = 1;":                                     api.ErrTwice,
		lets("y", 32) + "@let z = z;":                                        api.ErrUnknown,
		lets("y", 32) + "while 1 { @let z = 1;}":                             api.ErrBound,
		lets("y", 31) + "if 1 { let z = 1; } else { let z = 1; } let z = 1;": api.OK,
		lets("y", 31) + "if 1 { let z = 1; } else { let z = 1; @let u = 1; } let z = 1;":                     api.ErrBound,
		"while 1 { " + lets("y", 32) + "} if 1 { " + lets("z", 32) + "} " + lets("u", 32):                    api.OK,
		"while 1 { " + lets("y", 32) + "} if 1 { " + lets("z", 32) + "} " + lets("u", 32) + "@let w = 1;":    api.ErrBound,
		"while 1 { " + lets("y", 16) + "while 1 { " + lets("z", 16) + "} " + lets("u", 16) + "@let w = 1; }": api.ErrBound,
	} {
		text = "thread t { " + lets("y", 32) + "} thread main { " + text + " }"
		wantJudged(t, text, e)
		if e != api.OK {
			continue
		}
		if p := found(t, text); p.Threads[0].Locals != api.MaxLocals || p.Threads[1].Locals != api.MaxLocals {
			t.Errorf("%d, %d", p.Threads[0].Locals, p.Threads[1].Locals)
		}
	}
}

func TestTextTellsTheFaultsOfItsWordsFirst(t *testing.T) {
	deep := strings.Repeat("while 1 { ", api.MaxDepth) + "@join; " + strings.Repeat("} ", api.MaxDepth)
	for marked, e := range map[string]api.Errno{
		"var x = 1; var x = 2; @&": api.ErrByte,
		"x @07":                    api.ErrNumber,
		"thread main { x = 1; } @abcdefghijklmnopq": api.ErrName,
		"thread main { x = 1; } @x":                 api.ErrSyntax,
		"thread main { no = 1; @":                   api.ErrSyntax,
		"thread main { no = 1; " + deep + "}":       api.ErrDeep,
		strings.Repeat(" ", api.MaxText+1):          api.ErrLong,
	} {
		var place api.Pos
		if ahead := strings.Index(marked, "@"); ahead >= 0 {
			place = at(1, ahead+1)
		}
		text := strings.ReplaceAll(marked, "@", "")
		if p, got, err := names.Text(text); err != e || got != place || !reflect.DeepEqual(p, api.Prog{}) {
			t.Errorf("%.100q: %v, %v; want %v, %v", text, got, err, place, e)
		}
	}
	found(t, "thread main { "+strings.Repeat("while 1 { ", api.MaxDepth-1)+"join; "+strings.Repeat("} ", api.MaxDepth-1)+"}")
	found(t, strings.Repeat(" ", api.MaxText-15)+"thread main { }")
}
