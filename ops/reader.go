package ops

import "warp/api"

// mostLong is how many bytes a number in a module has at most: the least value has so many.
const mostLong = 5

// reader reads a module, or gives up by a panic, which is recovered where the reading began.
// Whether what it reads may be it asks only so far that it can go on.
type reader struct{ octets }

func (r *reader) octet() byte {
	if len(r.octets) == 0 {
		panic(api.ErrModule)
	}
	b := r.octets[0]
	r.octets = r.octets[1:]
	return b
}

func (r *reader) number() int { return int(r.whole()) }

func (r *reader) whole() uint64 {
	var n uint64
	for i := range mostLong {
		b := r.octet()
		n |= uint64(b&127) << (7 * i)
		if b >= 128 {
			continue
		}
		// A last byte of 0 says that fewer bytes would do.
		if b == 0 && i > 0 {
			panic(api.ErrModule)
		}
		return n
	}
	panic(api.ErrModule)
}

func (r *reader) signed() int64 {
	n := r.whole()
	half := int64(n / 2)
	if n%2 == 1 {
		return -half - 1
	}
	return half
}

// readList reads how many there are, and each of them.
func readList[T any](r *reader, read func() T) []T {
	n := r.number()
	// Each of them has a byte at least: a list that says more than there is ends here, ahead of all that work.
	if n > len(r.octets) {
		panic(api.ErrModule)
	}
	var l []T
	for range n {
		l = append(l, read())
	}
	return l
}

func (r *reader) module() api.Module {
	for _, b := range []byte(head) {
		if r.octet() != b {
			panic(api.ErrModule)
		}
	}
	var m api.Module
	m.Vars = readList(r, r.signed)
	m.Arrays = readList(r, r.number)
	m.Chans = readList(r, r.number)
	m.Mutexes = r.number()
	m.Conds = r.number()
	m.Threads = readList(r, r.code)
	return m
}

func (r *reader) code() api.Code {
	var t api.Code
	t.Name = string(readList(r, r.octet))
	t.Locals = r.number()
	t.Ins = readList(r, r.ins)
	line := 0
	for range t.Ins {
		line += int(r.signed())
		t.Lines = append(t.Lines, line)
	}
	return t
}

func (r *reader) ins() api.Ins {
	i := api.Ins{Code: api.InsCode(r.octet())}
	s := shapeOf(i.Code)
	if s.has(partA) {
		i.A = r.number()
	}
	if s.has(partB) {
		i.B = r.number()
	}
	if s.has(partNum) {
		i.Num = r.signed()
	}
	return i
}
