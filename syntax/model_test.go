package syntax_test

import (
	"strings"
	"testing"

	"warp/api"
	"warp/lex"
	"warp/syntax"
)

// grammar is the chapter's, with lists written by themselves: what stands behind it may be each of these.
var grammar = map[string][]string{
	"program": {"", "program decl"},
	"decl":    {"var NAME = NUMBER ;", "var NAME = - NUMBER ;", "array NAME NUMBER ;", "mutex NAME ;", "cond NAME ;", "chan NAME NUMBER ;", "thread NAME block"},
	"block":   {"{ stmts }"},
	"stmts":   {"", "stmts stmt"},
	"stmt": {"let NAME = expr ;", "NAME = expr ;", "NAME [ expr ] = expr ;", "if expr block", "if expr block else block", "while expr block",
		"lock NAME ;", "unlock NAME ;", "wait NAME NAME ;", "signal NAME ;", "all NAME ;", "send NAME expr ;", "recv NAME NAME ;", "spawn NAME ;", "join ;", "print expr ;"},
	"expr": {"and", "expr || and"},
	"and":  {"rel", "and && rel"},
	"rel":  {"sum", "sum == sum", "sum != sum", "sum < sum", "sum <= sum"},
	"sum":  {"prod", "sum + prod", "sum - prod"},
	"prod": {"un", "prod * un", "prod / un", "prod % un"},
	"un":   {"prim", "- un", "! un"},
	"prim": {"NUMBER", "NAME", "NAME [ expr ]", "( expr )"},
}

// rule is one way in which a part may be.
type rule struct {
	part string
	of   []string
}

func rules() (map[string][]*rule, *rule) {
	all := map[string][]*rule{}
	for part, ways := range grammar {
		for _, way := range ways {
			all[part] = append(all[part], &rule{part, strings.Fields(way)})
		}
	}
	return all, &rule{"all", []string{"program"}}
}

// item is a rule of which the first words were read, from a place on.
type item struct {
	*rule
	read, from int
}

func (i item) next() string {
	if i.read == len(i.of) {
		return ""
	}
	return i.of[i.read]
}

// stands tells how many words stand where they may, and whether they are a program, by all that may be read at each place (after Earley).
func stands(all map[string][]*rule, whole *rule, list []string) (int, bool) {
	sets := []map[item]bool{{{whole, 0, 0}: true}}
	for n := 0; ; n++ {
		set := sets[n]
		for grown := -1; grown != len(set); {
			grown = len(set)
			var more []item
			for i := range set {
				if i.next() == "" {
					for j := range sets[i.from] {
						if j.next() == i.part {
							more = append(more, item{j.rule, j.read + 1, j.from})
						}
					}
				}
				for _, r := range all[i.next()] {
					more = append(more, item{r, 0, n})
				}
			}
			for _, i := range more {
				set[i] = true
			}
		}
		if n == len(list) {
			return n, set[item{whole, 1, 0}]
		}
		after := map[item]bool{}
		for i := range set {
			if i.next() == list[n] {
				after[item{i.rule, i.read + 1, i.from}] = true
			}
		}
		if len(after) == 0 {
			return n, false
		}
		sets = append(sets, after)
	}
}

// terminal is what the grammar calls a word.
func terminal(w api.Tok) string {
	switch w.Kind {
	case api.TokName:
		return "NAME"
	case api.TokNumber:
		return "NUMBER"
	}
	return w.Text
}

// P2.1: who may stand where, held against the grammar as it is written.
func againstGrammar(t *testing.T, all map[string][]*rule, whole *rule, text string) bool {
	t.Helper()
	list, _, e := lex.Lex(text)
	if e != api.OK {
		t.Fatalf("%q: %v", text, e)
	}
	var terminals []string
	for _, w := range list {
		terminals = append(terminals, terminal(w))
	}
	n, good := stands(all, whole, terminals)
	if good {
		l, place, e := syntax.Parse(text)
		if e == api.ErrDeep {
			return true
		}
		if e != api.OK || place != (api.Pos{}) {
			t.Fatalf("Parse(%q): %v, %v; it is a program", text, place, e)
		}
		followed(t, text, l)
		return true
	}
	place := lex.End(text)
	if n < len(list) {
		place = list[n].Pos
	}
	if l, got, e := syntax.Parse(text); len(l) != 0 || got != place || e != api.ErrSyntax {
		t.Fatalf("Parse(%q) = %d declarations, %v, %v; want %v", text, len(l), got, e, place)
	}
	return false
}

// P2.4
func followed(t *testing.T, text string, l []api.Decl) {
	t.Helper()
	if e := syntax.Check(l); e != api.OK {
		t.Fatalf("Check of what Parse told of %q: %v", text, e)
	}
	printed, e := syntax.Print(l)
	if e != api.OK {
		t.Fatalf("Print of what Parse told of %q: %v", text, e)
	}
	if len(printed) > api.MaxText {
		return
	}
	again, place, e := syntax.Parse(printed)
	if e != api.OK || place != (api.Pos{}) || !syntax.Same(l, again) || bare(l) != bare(again) {
		t.Fatalf("of %q is printed %q, which is %v, %v, %+v; want %+v", text, printed, place, e, again, l)
	}
	if twice, e := syntax.Print(again); e != api.OK || twice != printed {
		t.Fatalf("%q is printed once more as %q, %v", printed, twice, e)
	}
}

// bare dumps a program without its places.
func bare(l []api.Decl) string {
	var b strings.Builder
	for _, d := range l {
		d.Pos = api.Pos{}
		n := d.Body
		d.Body = nil
		b.WriteString(dump(d))
		for depth, s := range syntax.Stmts(api.Decl{Body: n}) {
			s.Pos, s.Body, s.Else = api.Pos{}, s.Body[:0], s.Else[:0]
			b.WriteString(dump(depth) + dump(s))
		}
	}
	return b.String()
}

func TestParseOfAllShortTexts(t *testing.T) {
	all, whole := rules()
	good := 0
	var check func(text string, words []string, more int, end string)
	check = func(text string, words []string, more int, end string) {
		if againstGrammar(t, all, whole, text+end) {
			good++
		}
		for i := 0; more > 0 && i < len(words); i++ {
			check(text+words[i]+" ", words, more-1, end)
		}
	}
	check("", strings.Fields("var array mutex cond chan thread x 1 = - ; { } [ ("), 3, "")
	check("var x ", strings.Fields("x 1 = - ; + ("), 4, "")
	for _, end := range []string{"", "}"} {
		check("thread t { ", strings.Fields("let if else while lock unlock wait signal all send recv spawn join print var x 1 = - ; { } [ ] ("), 3, end)
	}
	check("thread t { if x { ", strings.Fields("if else x ; { } join"), 5, "} }")
	check("thread t { x ", strings.Fields("x 1 = == [ ] ; ( )"), 4, "; }")
	check("thread t { print ", strings.Fields("a 1 || && == < + * - ! ( ) [ ]"), 3, "; }")
	check("thread t { print a < b ", strings.Fields("a && || <= - * )"), 4, "; }")
	if good < 100 {
		t.Errorf("only %d of them are programs", good)
	}
}

// lot is a row of numbers that looks like chance, and is the same in each run.
type lot uint32

func (l *lot) pick(n int) int {
	*l = *l*1664525 + 1013904223
	return int(*l>>8) % n
}

// write writes some words of a part; the less room there is, the shorter they are.
func (l *lot) write(part string, room int) []string {
	ways, ok := grammar[part]
	switch {
	case part == "NAME":
		return []string{[]string{"x", "y", "a", "counter", "abcdefghijklmnop", "m1"}[l.pick(6)]}
	case part == "NUMBER":
		return []string{[]string{"0", "1", "7", "42", "2147483647"}[l.pick(5)]}
	case !ok:
		return []string{part}
	}
	way := ways[l.pick(len(ways))]
	if strings.HasSuffix(part, "s") || part == "program" {
		way = ways[min(1, l.pick(4))]
	}
	if room <= 0 {
		way = map[string]string{"stmt": "join ;", "prim": "NAME"}[part]
		if way == "" {
			way = ways[0]
		}
	}
	var list []string
	for _, p := range strings.Fields(way) {
		list = append(list, l.write(p, room-1)...)
	}
	return list
}

// spoil leaves out a word, or puts another one there, or ahead of it.
func (l *lot) spoil(list []string) []string {
	words := strings.Fields("x 1 ; ( ) { } [ ] = == < + - * && || ! if else while let print join lock wait thread var")
	list = append([]string{"x"}, list...)
	n, w := 1+l.pick(len(list)), words[l.pick(len(words))]
	switch k := l.pick(3); {
	case n == len(list) || k == 0:
		list = append(list[:n:n], append([]string{w}, list[n:]...)...)
	case k == 1:
		list = append(list[:n:n], list[n+1:]...)
	default:
		list[n] = w
	}
	return list[1:]
}

func TestParseOfManyTexts(t *testing.T) {
	all, whole := rules()
	l, good, bad := lot(7), 0, 0
	for i := range 2500 {
		list := l.write("program", 14)
		if len(list) > 150 {
			list = list[:150]
		}
		if i%2 == 1 {
			list = l.spoil(list)
		}
		text := ""
		for _, w := range list {
			text += w + []string{" ", " ", "\n", "\t#no\n ", "\r\n"}[l.pick(5)]
		}
		if againstGrammar(t, all, whole, text) {
			good++
		} else {
			bad++
		}
	}
	if good < 500 || bad < 500 {
		t.Errorf("%d are programs, %d are none", good, bad)
	}
}

// tree is some expression of at most that depth, with all operators wherever they may be.
func (l *lot) tree(depth int) api.Expr {
	if depth == 1 || l.pick(6) == 0 {
		return []api.Expr{num(int64(l.pick(100))), nam("x"), nam("y1"), num(1<<31 - 1)}[l.pick(4)]
	}
	switch l.pick(6) {
	case 0:
		return neg(l.tree(depth - 1))
	case 1:
		return not(l.tree(depth - 1))
	case 2:
		return cell("a", l.tree(depth-1))
	}
	return bin(grouping[l.pick(len(grouping))].op, l.tree(depth-1), l.tree(depth-1))
}

// whole writes an expression with parentheses around each part.
func whole(e api.Expr) string {
	part := func(i int) string { return "(" + whole(e.Args[i]) + ")" }
	switch e.Kind {
	case api.ExprNeg:
		return "-" + part(0)
	case api.ExprNot:
		return "!" + part(0)
	case api.ExprCell:
		return e.Name + "[" + part(0) + "]"
	case api.ExprBin:
		for _, g := range grouping {
			if g.op == e.Op {
				return part(0) + g.sign + part(1)
			}
		}
	}
	text, _ := syntax.Expr(e)
	return text
}

// closing is where the parenthesis is closed that is opened there.
func closing(text string, open int) int {
	for at, around := open, 0; ; at++ {
		switch text[at] {
		case '(':
			around++
		case ')':
			around--
		}
		if around == 0 {
			return at
		}
	}
}

// P2.2, P2.4: a tree's text is read as the tree, and without any of its parentheses it is not.
func TestExprOfManyTrees(t *testing.T) {
	l := lot(3)
	for range 3000 {
		e := l.tree(2 + l.pick(5))
		text, err := syntax.Expr(e)
		if err != api.OK || dump(exprOf(t, text)) != dump(e) {
			t.Fatalf("Expr(%+v) = %q, %v", e, text, err)
		}
		if got := exprOf(t, whole(e)); dump(got) != dump(e) {
			t.Fatalf("%q is %+v; want %+v", whole(e), got, e)
		}
		for i := range text {
			if text[i] != '(' {
				continue
			}
			end := closing(text, i)
			fewer := text[:i] + text[i+1:end] + text[end+1:]
			if p, _, err := syntax.Parse("thread t { print " + fewer + "; }"); err == api.OK && dump(p[0].Body[0].Expr) == dump(e) {
				t.Fatalf("of %+v %q would do in place of %q", e, fewer, text)
			}
		}
	}
}

// P2.4
func TestWhatIsPrintedIsParsedAsTheSame(t *testing.T) {
	for text, s := range statements() {
		followed(t, text, program(s, while(num(1), s)))
	}
	followed(t, "the deepest", program(nested(print(negs(api.MaxDepth)), api.MaxDepth-1)))
	followed(t, "nothing", nil)
	followed(t, "many", parse(t, strings.Repeat("thread t { if x { print 1; } }", 1000)))
	for _, e := range deepExprs(api.MaxDepth) {
		followed(t, e, program(print(exprOf(t, e))))
	}
	l := lot(11)
	for range 500 {
		p := []api.Decl{{Kind: api.DeclVar, Name: "x", Num: int64(l.pick(9) - 4)}}
		s := api.Stmt{Kind: api.StmtPut, Name: "a", Index: l.tree(4), Expr: l.tree(5)}
		p = append(p, thread(when(l.tree(3), body(s, while(l.tree(4), s)), body(nested(s, l.pick(api.MaxDepth-2))))))
		followed(t, "a lot", p)
	}
}

// P2.4: at the bound of a text's length, and one past it.
func TestWhatIsPrintedMayBeTooLong(t *testing.T) {
	l := program()
	unit, head := len("\tjoin;\n"), len("thread t {\n}\n")
	for (len(l[0].Body)+1)*unit+head <= api.MaxText {
		l[0].Body = append(l[0].Body, join())
	}
	rest := api.MaxText - head - len(l[0].Body)*unit
	for _, more := range []int{0, 1} {
		p := append([]api.Decl{}, l...)
		p[0].Name = "t" + strings.Repeat("t", rest+more)
		text, e := syntax.Print(p)
		if e != api.OK || len(text) != api.MaxText+more {
			t.Fatalf("%d bytes, %v; want %d", len(text), e, api.MaxText+more)
		}
		if more == 0 {
			followed(t, "the longest", p)
		} else {
			wantFault(t, text, api.Pos{}, api.ErrLong)
		}
	}
}
