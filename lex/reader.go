package lex

import (
	"iter"
	"strconv"
	"strings"

	"warp/api"
)

// reader stands at a place of a text; rest is what it has not read yet.
type reader struct {
	api.Pos
	rest            string
	keywords, signs set[string]
	blanks          set[byte]
}

func begin(text string) reader {
	return reader{Pos: api.Pos{Line: 1, Col: 1}, rest: text}
}

// words goes over a text's words up to the first that is at fault; of that one only the place counts.
func words(text string) iter.Seq2[api.Tok, api.Errno] {
	return func(yield func(api.Tok, api.Errno) bool) {
		r := begin(text)
		r.keywords, r.signs, r.blanks = keywords(), signs(), blanks()
		for r.skip(); r.rest != ""; r.skip() {
			// What is at fault was not taken off: to go on would tell it for ever.
			if w, e := r.word(); !yield(w, e) || e != api.OK {
				return
			}
		}
	}
}

// off takes bytes off the text as long as they fit, and tells them.
func (r *reader) off(fits func(byte) bool) string {
	n := 0
	for n < len(r.rest) && fits(r.rest[n]) {
		r.Col++
		if r.rest[n] == '\n' {
			r.Line, r.Col = r.Line+1, 1
		}
		n++
	}
	taken := r.rest[:n]
	r.rest = r.rest[n:]
	return taken
}

// skip takes off what stands between words.
func (r *reader) skip() {
	for r.off(r.blanks.has); strings.HasPrefix(r.rest, "#"); r.off(r.blanks.has) {
		r.off(func(b byte) bool { return b != '\n' })
	}
}

func (r *reader) word() (api.Tok, api.Errno) {
	w := api.Tok{Pos: r.Pos}
	switch b := r.rest[0]; {
	case isLetter(b):
		return r.name(w)
	case isDigit(b):
		return r.number(w)
	default:
		return r.sign(w)
	}
}

func (r *reader) name(w api.Tok) (api.Tok, api.Errno) {
	w.Kind, w.Text = api.TokName, r.off(isInWord)
	if len(w.Text) > api.MaxName {
		return w, api.ErrName
	}
	if r.keywords.has(w.Text) {
		w.Kind = api.TokWord
	}
	return w, api.OK
}

// number takes off letters too, so that they are told as a fault of the digits ahead of them.
func (r *reader) number(w api.Tok) (api.Tok, api.Errno) {
	w.Kind, w.Text = api.TokNumber, r.off(isInWord)
	n, err := strconv.ParseUint(w.Text, 10, 31)
	if err != nil || w.Text[0] == '0' && w.Text != "0" {
		return w, api.ErrNumber
	}
	w.Num = int64(n)
	return w, api.OK
}

// sign looks for the longer signs first, as a word is as long as it may be.
func (r *reader) sign(w api.Tok) (api.Tok, api.Errno) {
	for n := min(2, len(r.rest)); n > 0; n-- {
		if r.signs.has(r.rest[:n]) {
			w.Kind, w.Text = api.TokSign, r.off(first(n))
			return w, api.OK
		}
	}
	return w, api.ErrByte
}

// first fits the first n bytes that it is asked about.
func first(n int) func(byte) bool {
	return func(byte) bool {
		n--
		return n >= 0
	}
}

func isLetter(b byte) bool { return 'a' <= b && b <= 'z' }

func isDigit(b byte) bool { return '0' <= b && b <= '9' }

func isInWord(b byte) bool { return isLetter(b) || isDigit(b) }
