package lex

type set[T comparable] map[T]struct{}

func setOf[T comparable](things ...T) set[T] {
	s := make(set[T], len(things))
	for _, x := range things {
		s[x] = struct{}{}
	}
	return s
}

func (s set[T]) has(x T) bool {
	_, ok := s[x]
	return ok
}

func keywords() set[string] {
	return setOf("var", "array", "mutex", "cond", "chan", "thread", "let", "if", "else", "while",
		"lock", "unlock", "wait", "signal", "all", "send", "recv", "spawn", "join", "print")
}

func signs() set[string] {
	return setOf(";", "(", ")", "{", "}", "[", "]", "=", "==", "!=", "<", "<=",
		"+", "-", "*", "/", "%", "&&", "||", "!")
}

// blanks are not those of package unicode: of the bytes below 32 just these three stand between words.
func blanks() set[byte] {
	return setOf[byte](' ', '\t', '\r', '\n')
}
