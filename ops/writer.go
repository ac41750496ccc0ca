package ops

import "warp/api"

// writer writes a module that may be.
type writer struct{ octets }

func (w *writer) octet(b byte) { w.octets = append(w.octets, b) }

func (w *writer) number(n int) { w.whole(uint64(n)) }

func (w *writer) whole(n uint64) {
	for ; n >= 128; n >>= 7 {
		w.octet(byte(n) | 128)
	}
	w.octet(byte(n))
}

func (w *writer) signed(n int64) {
	if n < 0 {
		w.whole(uint64(-2*n - 1))
		return
	}
	w.whole(uint64(2 * n))
}

// writeList writes how many there are, and each of them.
func writeList[T any](w *writer, l []T, write func(T)) {
	w.number(len(l))
	for _, x := range l {
		write(x)
	}
}

func (w *writer) module(m api.Module) {
	w.octets = append(w.octets, head...)
	writeList(w, m.Vars, w.signed)
	writeList(w, m.Arrays, w.number)
	writeList(w, m.Chans, w.number)
	w.number(m.Mutexes)
	w.number(m.Conds)
	writeList(w, m.Threads, w.code)
}

func (w *writer) code(t api.Code) {
	writeList(w, []byte(t.Name), w.octet)
	w.number(t.Locals)
	writeList(w, t.Ins, w.ins)
	ahead := 0
	for _, line := range lined(t) {
		w.signed(int64(line - ahead))
		ahead = line
	}
}

func (w *writer) ins(i api.Ins) {
	s := shapeOf(i.Code)
	w.octet(byte(i.Code))
	if s.has(partA) {
		w.number(i.A)
	}
	if s.has(partB) {
		w.number(i.B)
	}
	if s.has(partNum) {
		w.signed(i.Num)
	}
}

// seal puts the sum behind all that was written.
func (w *writer) seal() {
	sum := w.sum()
	w.octets = append(w.octets, sum[:]...)
}
