package lex_test

import (
	"regexp"
	"slices"
	"strings"
	"testing"

	"warp/api"
	"warp/lex"
)

var (
	gapShape  = regexp.MustCompile(`^(?:[ \t\r\n]|#[^\n]*)*`)
	wordShape = regexp.MustCompile(`^(?:[a-z][a-z0-9]*|[0-9][a-z0-9]*|==|!=|<=|&&|\|\||[;(){}\[\]=<+*/%!-])`)
	numShape  = regexp.MustCompile(`^(?:0|[1-9][0-9]{0,9})$`)
)

func placeAt(text string, at int) api.Pos {
	return api.Pos{Line: 1 + strings.Count(text[:at], "\n"), Col: at - strings.LastIndex(text[:at], "\n")}
}

// offsetOf is -1 where the text has no such place.
func offsetOf(text string, p api.Pos) int {
	lines := strings.SplitAfter(text, "\n")
	if p.Line < 1 || p.Line > len(lines) || p.Col < 1 || p.Col > len(lines[p.Line-1]) {
		return -1
	}
	return len(strings.Join(lines[:p.Line-1], "")) + p.Col - 1
}

func modelWord(s string) (api.Tok, api.Errno) {
	w := api.Tok{Kind: api.TokSign, Text: s}
	switch {
	case s == "":
		return w, api.ErrByte
	case s[0] >= '0' && s[0] <= '9':
		w.Kind = api.TokNumber
		if !numShape.MatchString(s) || len(s) == 10 && s > "2147483647" {
			return w, api.ErrNumber
		}
		for _, d := range s {
			w.Num = 10*w.Num + int64(d-'0')
		}
	case slices.Contains(allKeywords, s):
		w.Kind = api.TokWord
	case s[0] >= 'a' && s[0] <= 'z':
		w.Kind = api.TokName
		if len(s) > api.MaxName {
			return w, api.ErrName
		}
	}
	return w, api.OK
}

// model says by other means what Lex must say of a text that is not too long.
func model(text string) (list []api.Tok, place api.Pos, e api.Errno) {
	at := len(gapShape.FindString(text))
	for at < len(text) {
		w, e := modelWord(wordShape.FindString(text[at:]))
		w.Pos = placeAt(text, at)
		if e != api.OK {
			return nil, w.Pos, e
		}
		list = append(list, w)
		at += len(w.Text)
		at += len(gapShape.FindString(text[at:]))
	}
	return list, api.Pos{}, api.OK
}

// P1.1
func againstModel(t *testing.T, text string) {
	t.Helper()
	want, wantPlace, wantE := model(text)
	got, place, e := lex.Lex(text)
	if e != wantE || place != wantPlace || !slices.Equal(got, want) {
		t.Fatalf("Lex(%q) = %v, %v, %v; want %v, %v, %v", text, got, place, e, want, wantPlace, wantE)
	}
	if end := lex.End(text); end != placeAt(text, len(text)) {
		t.Fatalf("End(%q) = %v", text, end)
	}
	if n := lex.Name(text); n != (len(want) == 1 && want[0].Kind == api.TokName && want[0].Text == text) {
		t.Fatalf("Name(%q) = %v", text, n)
	}
}

// P1.3
func follows(t *testing.T, text string) {
	t.Helper()
	list, _, e := lex.Lex(text)
	if e != api.OK {
		return
	}
	texts := []string{}
	behind := 0
	for _, w := range list {
		at := offsetOf(text, w.Pos)
		if at < behind || w.Text == "" || !strings.HasPrefix(text[at:], w.Text) {
			t.Fatalf("of %q: %v stands not there, or not behind the one ahead of it", text, w)
		}
		behind = at + len(w.Text)
		texts = append(texts, w.Text)
	}
	again, place, e := lex.Lex(strings.Join(texts, " "))
	same := slices.EqualFunc(list, again, func(a, b api.Tok) bool {
		a.Pos, b.Pos = api.Pos{}, api.Pos{}
		return a == b
	})
	if e != api.OK || place != (api.Pos{}) || !same {
		t.Fatalf("of %q: with a blank between %v, %v, %v; want %v", text, again, place, e, list)
	}
}

func TestLexOfAllShortTexts(t *testing.T) {
	alphabet := "az07=<!&|-# \n>"
	var check func(text string, more int)
	check = func(text string, more int) {
		againstModel(t, text)
		follows(t, text)
		for i := 0; more > 0 && i < len(alphabet); i++ {
			check(text+alphabet[i:i+1], more-1)
		}
	}
	check("", 4)
}

func TestLexOfManyTexts(t *testing.T) {
	pieces := slices.Concat(allKeywords, allSigns, allSigns, []string{
		"x", "y1", "counter", "abcdefghijklmnop", "z9z9z9z9z9z9z9z9", "0", "1", "42", "2147483647",
		" ", " ", "  ", "\t", "\n", "\n", "\r\n", "\r", "# no & 07\n", "#\n", "#\xff\u00e9\n", "##\r#\n",
	})
	faults := []string{"&", "|", "07", "3a", "2147483648", "abcdefghijklmnopq", "\xff", "\u00e9", "X", ">", "_", "\x00"}
	seed := uint32(1)
	pick := func(n int) int {
		seed = seed*1664525 + 1013904223
		return int(seed>>8) % n
	}
	for i := range 4000 {
		var text strings.Builder
		for range pick(40) {
			text.WriteString(pieces[pick(len(pieces))])
			text.WriteString([]string{"", " ", " ", "\n"}[pick(4)])
			if i%2 == 1 && pick(30) == 0 {
				text.WriteString(faults[pick(len(faults))])
			}
		}
		againstModel(t, text.String())
		follows(t, text.String())
	}
}

func TestWordsStandBetweenBlanksAgain(t *testing.T) {
	for _, s := range []string{"", "#", "var x1=-7;#no", "a<=b\n==", "x=!!y!=z;", "a[1+2]=(3);", "if a&&b||c{}else{}", "\r\n\tlock m;\r\n# x\n unlock m;"} {
		follows(t, s)
		againstModel(t, s)
	}
	follows(t, strings.Repeat("a1 ", api.MaxText/3))
	follows(t, strings.Repeat("=<", api.MaxText/4))
}
