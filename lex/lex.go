// Package lex is layer 1: texts as words, each with its place. See shared/doc/01-lex.md.
package lex

import (
	"strings"

	"warp/api"
)

// Lex tells the words of a text in order, or the first fault and its place.
func Lex(text string) ([]api.Tok, api.Pos, api.Errno) {
	if len(text) > api.MaxText {
		return nil, api.Pos{}, api.ErrLong
	}
	var list []api.Tok
	var place api.Pos
	var fault api.Errno
reading:
	for w, e := range words(text) {
		switch e {
		case api.OK:
			// A piece of the text would keep all of it alive with the word.
			w.Text = strings.Clone(w.Text)
			list = append(list, w)
		default:
			list, place, fault = nil, w.Pos, e
			break reading
		}
	}
	return list, place, fault
}

// Name tells whether a text is a name.
func Name(s string) bool {
	if s == "" || len(s) > api.MaxName || !isLetter(s[0]) || Keyword(s) {
		return false
	}
	r := begin(s)
	return r.off(isInWord) == s
}

// Keyword tells whether a text is a keyword.
func Keyword(s string) bool { return keywords().has(s) }

// End tells the place behind a text's last byte.
func End(text string) api.Pos {
	r := begin(text)
	r.off(func(byte) bool { return true })
	return r.Pos
}
