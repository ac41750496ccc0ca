package syntax

import "warp/api"

// stray is where a word is that can't stand there.
type stray struct{ api.Pos }

// words are those of a text that were not read yet; end is where the text ends, as words may end too soon.
type words struct {
	rest []api.Tok
	end  api.Pos
}

// next is the first word that was not read; behind the last one it has no kind, no text, and the end as its place.
func (w *words) next() api.Tok {
	if len(w.rest) == 0 {
		return api.Tok{Pos: w.end}
	}
	return w.rest[0]
}

// sees tells whether a keyword or a sign is next: no word of another kind has such a text.
func (w *words) sees(text string) bool { return w.next().Text == text }

func (w *words) drop() api.Tok {
	first := w.next()
	w.rest = w.rest[1:]
	return first
}

// take reads that keyword or sign, or gives up.
func (w *words) take(text string) {
	if !w.sees(text) {
		panic(stray{w.next().Pos})
	}
	w.drop()
}

// takeA reads a word of that kind, or gives up.
func (w *words) takeA(kind api.TokKind) api.Tok {
	if w.next().Kind != kind {
		panic(stray{w.next().Pos})
	}
	return w.drop()
}

func (w *words) name() string { return w.takeA(api.TokName).Text }

func (w *words) number() int64 { return w.takeA(api.TokNumber).Num }
