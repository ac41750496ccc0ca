package lex_test

import (
	"slices"
	"strings"
	"testing"

	"warp/api"
	"warp/lex"
)

var allKeywords = strings.Fields("var array mutex cond chan thread let if else while lock unlock wait signal all send recv spawn join print")

var allSigns = strings.Fields("; ( ) { } [ ] = == != < <= + - * / % && || !")

func tok(k api.TokKind, text string, num int64, line, col int) api.Tok {
	return api.Tok{Kind: k, Text: text, Num: num, Pos: api.Pos{Line: line, Col: col}}
}

func name(text string, line, col int) api.Tok { return tok(api.TokName, text, 0, line, col) }
func word(text string, line, col int) api.Tok { return tok(api.TokWord, text, 0, line, col) }
func sign(text string, line, col int) api.Tok { return tok(api.TokSign, text, 0, line, col) }
func num(text string, n int64, line, col int) api.Tok {
	return tok(api.TokNumber, text, n, line, col)
}

func wantWords(t *testing.T, text string, want ...api.Tok) {
	t.Helper()
	got, place, e := lex.Lex(text)
	if e != api.OK || place != (api.Pos{}) || !slices.Equal(got, want) {
		t.Errorf("Lex(%.60q) = %v, %v, %v; want %v", text, got, place, e, want)
	}
}

func wantFault(t *testing.T, text string, line, col int, want api.Errno) {
	t.Helper()
	got, place, e := lex.Lex(text)
	if len(got) != 0 || place != (api.Pos{Line: line, Col: col}) || e != want {
		t.Errorf("Lex(%.60q) = %d words, %v, %v; want none, {%d %d}, %v", text, len(got), place, e, line, col, want)
	}
}

// P1.1

func TestLexTellsTheChaptersExamples(t *testing.T) {
	wantWords(t, "var x1=-7;#no", word("var", 1, 1), name("x1", 1, 5), sign("=", 1, 7), sign("-", 1, 8), num("7", 7, 1, 9), sign(";", 1, 10))
	wantWords(t, "a<=b\n==", name("a", 1, 1), sign("<=", 1, 2), name("b", 1, 4), sign("==", 2, 1))
	wantFault(t, "x & y", 1, 3, api.ErrByte)
	for _, s := range []string{"07", "3a", "2147483648"} {
		wantFault(t, s, 1, 1, api.ErrNumber)
	}
}

func TestLexTellsAProgram(t *testing.T) {
	wantWords(t, "array a 4;\nthread main {\n\tif !x { a[1] = 2; } # yes\n}\n",
		word("array", 1, 1), name("a", 1, 7), num("4", 4, 1, 9), sign(";", 1, 10),
		word("thread", 2, 1), name("main", 2, 8), sign("{", 2, 13),
		word("if", 3, 2), sign("!", 3, 5), name("x", 3, 6), sign("{", 3, 8), name("a", 3, 10), sign("[", 3, 11), num("1", 1, 3, 12),
		sign("]", 3, 13), sign("=", 3, 15), num("2", 2, 3, 17), sign(";", 3, 18), sign("}", 3, 20),
		sign("}", 4, 1))
}

func TestLexOfNothingTellsNoWords(t *testing.T) {
	for _, s := range []string{"", " ", "\t\r\n", "#", "#x", "# x\n", "\n\n\n", " # & 07 \xff\x00\n"} {
		wantWords(t, s)
	}
}

func TestLexTellsEachKeyword(t *testing.T) {
	for _, k := range allKeywords {
		wantWords(t, k, word(k, 1, 1))
		for _, s := range []string{k + "x", k + "0", "x" + k, k[:len(k)-1] + "0"} {
			wantWords(t, s, name(s, 1, 1))
		}
		wantWords(t, k+" "+k+";", word(k, 1, 1), word(k, 1, len(k)+2), sign(";", 1, 2*len(k)+2))
	}
}

func TestLexTellsEachSign(t *testing.T) {
	for _, s := range allSigns {
		wantWords(t, s, sign(s, 1, 1))
		wantWords(t, "a"+s+"1", name("a", 1, 1), sign(s, 1, 2), num("1", 1, 1, len(s)+2))
	}
}

func TestLexTakesWordsAsLongAsTheyMayBe(t *testing.T) {
	wantWords(t, "===", sign("==", 1, 1), sign("=", 1, 3))
	wantWords(t, "====", sign("==", 1, 1), sign("==", 1, 3))
	wantWords(t, "!==", sign("!=", 1, 1), sign("=", 1, 3))
	wantWords(t, "!!=", sign("!", 1, 1), sign("!=", 1, 2))
	wantWords(t, "<==", sign("<=", 1, 1), sign("=", 1, 3))
	wantWords(t, "=<", sign("=", 1, 1), sign("<", 1, 2))
	wantWords(t, "<<=", sign("<", 1, 1), sign("<=", 1, 2))
	wantWords(t, "= =", sign("=", 1, 1), sign("=", 1, 3))
	wantWords(t, "&&&&||", sign("&&", 1, 1), sign("&&", 1, 3), sign("||", 1, 5))
	wantWords(t, "a0b1", name("a0b1", 1, 1))
	wantWords(t, "12-3", num("12", 12, 1, 1), sign("-", 1, 3), num("3", 3, 1, 4))
}

func TestLexTellsPlaces(t *testing.T) {
	wantWords(t, "\n\nx", name("x", 3, 1))
	wantWords(t, "\tx\t\ty", name("x", 1, 2), name("y", 1, 5))
	wantWords(t, "\rx\r\ny\rz", name("x", 1, 2), name("y", 2, 1), name("z", 2, 3))
	wantWords(t, "#a\rb\nc", name("c", 2, 1))
	wantWords(t, "x#y\n z", name("x", 1, 1), name("z", 2, 2))
	wantWords(t, "#\n#\n#x\nx#\n", name("x", 4, 1))
	wantWords(t, "#\u00e9\xff\n x", name("x", 2, 2))
}

func TestLexBoundsNames(t *testing.T) {
	long := strings.Repeat("a", api.MaxName)
	wantWords(t, long, name(long, 1, 1))
	wantWords(t, "a234567890123456", name("a234567890123456", 1, 1))
	wantWords(t, long+" "+long, name(long, 1, 1), name(long, 1, api.MaxName+2))
	wantFault(t, long+"a", 1, 1, api.ErrName)
	wantFault(t, long+"0", 1, 1, api.ErrName)
	wantFault(t, "while678901234567", 1, 1, api.ErrName)
	wantFault(t, "x;\n  "+strings.Repeat("z9", 5000)+" &", 2, 3, api.ErrName)
}

func TestLexBoundsNumbers(t *testing.T) {
	for s, n := range map[string]int64{"0": 0, "1": 1, "9": 9, "10": 10, "100": 100, "2147483646": 1<<31 - 2, "2147483647": 1<<31 - 1} {
		wantWords(t, s, num(s, n, 1, 1))
	}
	for _, s := range []string{
		"00", "01", "000", "007", "0123456789", "02147483647",
		"2147483648", "2147483650", "4294967296", "4294967297", "9999999999", "9223372036854775808", "18446744073709551616", "18446744073709551617",
		strings.Repeat("9", 17), strings.Repeat("1", 1000), strings.Repeat("0", 1000),
		"0a", "1z", "12ab34", "0x1", "2147483648a", "1aaaaaaaaaaaaaaaaaaaaaaaa", "7if",
	} {
		wantFault(t, s, 1, 1, api.ErrNumber)
		wantFault(t, "x =\n -"+s+";", 2, 3, api.ErrNumber)
	}
	wantWords(t, "0 0", num("0", 0, 1, 1), num("0", 0, 1, 3))
	wantWords(t, "3 a", num("3", 3, 1, 1), name("a", 1, 3))
	wantWords(t, "-0+0", sign("-", 1, 1), num("0", 0, 1, 2), sign("+", 1, 3), num("0", 0, 1, 4))
	wantFault(t, "1_0", 1, 2, api.ErrByte)
	wantFault(t, "1.5", 1, 2, api.ErrByte)
}

func TestLexRefusesBytesThatBeginNoWord(t *testing.T) {
	begins := "abcdefghijklmnopqrstuvwxyz0123456789;(){}[]=<+-*/%!"
	between := " \t\r\n#"
	for b := range 256 {
		s := string([]byte{byte(b)})
		switch {
		case strings.Contains(begins, s):
			if l, _, e := lex.Lex(s); e != api.OK || len(l) != 1 || l[0].Text != s {
				t.Errorf("Lex(%q) = %v, %v; want one word", s, l, e)
			}
		case strings.Contains(between, s):
			wantWords(t, s)
		default:
			wantFault(t, s, 1, 1, api.ErrByte)
			wantFault(t, "a \n\t"+s+" 07", 2, 2, api.ErrByte)
			wantFault(t, "a"+s, 1, 2, api.ErrByte)
		}
	}
	for s, col := range map[string]int{"&": 1, "|": 1, "&&&": 3, "|||": 3, "& &": 1, "&|": 1, "a&": 2, "&=": 1, ">=": 1, "\u00e9": 1, "a\u00e9": 2, "\xc3": 1, "\x00": 1} {
		wantFault(t, s, 1, col, api.ErrByte)
	}
}

func TestLexTellsTheFirstFault(t *testing.T) {
	long := strings.Repeat("n", api.MaxName+1)
	faults := map[string]api.Errno{"&": api.ErrByte, long: api.ErrName, "07": api.ErrNumber}
	for a, ea := range faults {
		for b := range faults {
			wantFault(t, "x "+a+" "+b, 1, 3, ea)
			wantFault(t, "x\n "+a+"\n"+b, 2, 2, ea)
			wantFault(t, "#"+b+"\n"+a, 2, 1, ea)
		}
	}
	wantFault(t, long+"&", 1, 1, api.ErrName)
	wantFault(t, "07&", 1, 1, api.ErrNumber)
}

func TestLexBoundsTexts(t *testing.T) {
	blanks := strings.Repeat(" ", api.MaxText)
	wantWords(t, blanks)
	wantWords(t, blanks[:api.MaxText-1]+"x", name("x", 1, api.MaxText))
	wantFault(t, blanks[:api.MaxText-1]+"&", 1, api.MaxText, api.ErrByte)
	wantFault(t, blanks+" ", 0, 0, api.ErrLong)
	wantFault(t, blanks+"x", 0, 0, api.ErrLong)
	wantFault(t, "&"+blanks, 0, 0, api.ErrLong)
	wantFault(t, "07 "+strings.Repeat("a", 2*api.MaxText), 0, 0, api.ErrLong)
	wantFault(t, "#"+blanks, 0, 0, api.ErrLong)
	l, _, e := lex.Lex(strings.Repeat(";", api.MaxText))
	if e != api.OK || len(l) != api.MaxText || l[api.MaxText-1] != sign(";", 1, api.MaxText) {
		t.Errorf("a text of signs alone: %d words, %v", len(l), e)
	}
	l, _, e = lex.Lex(strings.Repeat("\n", api.MaxText-1) + "x")
	if e != api.OK || len(l) != 1 || l[0] != name("x", api.MaxText, 1) {
		t.Errorf("a word behind many lines: %v, %v", l, e)
	}
}

func TestLexAnswersAnew(t *testing.T) {
	text := "x = 1;"
	a, _, _ := lex.Lex(text)
	for i := range a {
		a[i] = api.Tok{}
	}
	wantWords(t, text, name("x", 1, 1), sign("=", 1, 3), num("1", 1, 1, 5), sign(";", 1, 6))
	wantFault(t, "&", 1, 1, api.ErrByte)
	wantWords(t, text, name("x", 1, 1), sign("=", 1, 3), num("1", 1, 1, 5), sign(";", 1, 6))
}

// P1.2

func TestNameTellsNames(t *testing.T) {
	yes := []string{"a", "z", "x1", "a0b1c2", "varx", "iff", "i", "main", "nil", "a23456789012345", strings.Repeat("q", api.MaxName)}
	no := []string{
		"", " ", "0", "7", "1a", "A", "aB", "Ab", "_", "a_b", "_a", "a b", "a ", " a", "a\n", "\na", "a;", "a#", "a#b", "a-b", "a\x00", "\x00",
		"\u00e9", "a\u00e9", "a\xff", "\xffa", "=", "==", ";", strings.Repeat("q", api.MaxName+1), strings.Repeat("a", 1<<20), "x y",
	}
	for _, s := range yes {
		if !lex.Name(s) {
			t.Errorf("%q is a name", s)
		}
	}
	for _, s := range slices.Concat(no, allKeywords) {
		if lex.Name(s) {
			t.Errorf("%.40q is no name", s)
		}
	}
}

func TestNameTellsEachByte(t *testing.T) {
	letters, digits := "abcdefghijklmnopqrstuvwxyz", "0123456789"
	for b := range 256 {
		s := string([]byte{byte(b)})
		if want := strings.Contains(letters, s); lex.Name(s) != want {
			t.Errorf("Name(%q) is not %v", s, want)
		}
		if want := strings.Contains(letters+digits, s); lex.Name("x"+s) != want || lex.Name("x"+s+"y") != want {
			t.Errorf("Name(%q) is not %v", "x"+s, want)
		}
	}
}

func TestKeywordTellsKeywords(t *testing.T) {
	for _, k := range allKeywords {
		if !lex.Keyword(k) {
			t.Errorf("%q is a keyword", k)
		}
		for _, s := range []string{k[:len(k)-1], k + "s", k + " ", " " + k, k + "\n", k + "0", strings.ToUpper(k), strings.ToUpper(k[:1]) + k[1:], k + ";"} {
			if lex.Keyword(s) {
				t.Errorf("%q is no keyword", s)
			}
		}
	}
	for _, s := range slices.Concat(allSigns, []string{"", "x", "main", "0", "for", "func", "do", "return", "not", "true", "all signal", "\xff", strings.Repeat("if", 1<<20)}) {
		if lex.Keyword(s) {
			t.Errorf("%.40q is no keyword", s)
		}
	}
}

func TestEndTellsThePlaceBehind(t *testing.T) {
	for s, want := range map[string]api.Pos{
		"": {Line: 1, Col: 1}, "a": {Line: 1, Col: 2}, "ab c": {Line: 1, Col: 5}, "\n": {Line: 2, Col: 1}, "a\n": {Line: 2, Col: 1}, "a\nb": {Line: 2, Col: 2},
		"\n\n": {Line: 3, Col: 1}, "\r": {Line: 1, Col: 2}, "\r\n": {Line: 2, Col: 1}, "\t": {Line: 1, Col: 2}, "#x\ny": {Line: 2, Col: 2}, "#x": {Line: 1, Col: 3},
		"\u00e9": {Line: 1, Col: 3}, "& 07": {Line: 1, Col: 5}, "\xff\x00": {Line: 1, Col: 3}, "var x = 1;\n ": {Line: 2, Col: 2},
		strings.Repeat("x", api.MaxText):            {Line: 1, Col: api.MaxText + 1},
		strings.Repeat("x", api.MaxText+1):          {Line: 1, Col: api.MaxText + 2},
		strings.Repeat("x\n", api.MaxText) + "yz":   {Line: api.MaxText + 1, Col: 3},
		strings.Repeat("\n", 3*api.MaxText):         {Line: 3*api.MaxText + 1, Col: 1},
		"\n" + strings.Repeat("&", 2*api.MaxText+5): {Line: 2, Col: 2*api.MaxText + 6},
	} {
		if got := lex.End(s); got != want {
			t.Errorf("End(%.40q) = %v; want %v", s, got, want)
		}
	}
}
