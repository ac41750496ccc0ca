package ops_test

import (
	"bytes"
	"encoding/binary"
	"errors"
	"fmt"
	"math"
	"reflect"
	"slices"
	"strings"
	"testing"

	"warp/api"
	"warp/ops"
)

// P6.1, P6.2, P6.4: the chapter's words once more, with what the library knows of numbers: its bytes of a number are the
// same, but that it reads more bytes than needed; what is read is taken only if it is written as these bytes again.

// modelMay says by other means whether a module may be.
func modelMay(m api.Module) bool {
	in := func(n, from, to int) bool { return from <= n && n <= to }
	may := in(len(m.Vars), 0, 64) && in(len(m.Arrays), 0, 64) && in(len(m.Chans), 0, 64) && in(len(m.Threads), 0, 64) && in(m.Mutexes, 0, 64) && in(m.Conds, 0, 64)
	may = may && !slices.ContainsFunc(m.Vars, func(v int64) bool { return v != int64(int32(v)) })
	may = may && !slices.ContainsFunc(m.Arrays, func(n int) bool { return !in(n, 0, 256) })
	may = may && !slices.ContainsFunc(m.Chans, func(n int) bool { return !in(n, 1, 16) })
	for _, c := range m.Threads {
		may = may && in(len(c.Name), 1, 16) && in(c.Locals, 0, 32) && in(len(c.Ins), 0, 65536) && len(c.Ins) == len(c.Lines)
		may = may && !slices.ContainsFunc(c.Ins, func(i api.Ins) bool { return !modelMayIns(i) })
		may = may && !slices.ContainsFunc(c.Lines, func(n int) bool { return !in(n, 0, 65536) })
	}
	return may
}

func modelMayIns(i api.Ins) bool {
	c, ok := row(i.Code)
	return ok && (c.a || i.A == 0) && (c.b || i.B == 0) && (c.num || i.Num == 0) && i.A == int(uint16(i.A)) && i.B == int(uint16(i.B)) && i.Num == int64(int32(i.Num))
}

// modelIns tells an instruction's bytes.
func modelIns(b []byte, i api.Ins) []byte {
	b = append(b, byte(i.Code))
	c, _ := row(i.Code)
	if c.a {
		b = binary.AppendUvarint(b, uint64(i.A))
	}
	if c.b {
		b = binary.AppendUvarint(b, uint64(i.B))
	}
	if c.num {
		b = binary.AppendVarint(b, i.Num)
	}
	return b
}

// modelBytes says by other means what a module's bytes are, without the sum.
func modelBytes(m api.Module) []byte {
	b := binary.AppendUvarint([]byte("WARP"), uint64(len(m.Vars)))
	for _, v := range m.Vars {
		b = binary.AppendVarint(b, v)
	}
	for _, l := range [][]int{m.Arrays, m.Chans} {
		b = binary.AppendUvarint(b, uint64(len(l)))
		for _, n := range l {
			b = binary.AppendUvarint(b, uint64(n))
		}
	}
	for _, n := range []int{m.Mutexes, m.Conds, len(m.Threads)} {
		b = binary.AppendUvarint(b, uint64(n))
	}
	for _, c := range m.Threads {
		b = append(binary.AppendUvarint(b, uint64(len(c.Name))), c.Name...)
		b = binary.AppendUvarint(b, uint64(c.Locals))
		b = binary.AppendUvarint(b, uint64(len(c.Ins)))
		for _, i := range c.Ins {
			b = modelIns(b, i)
		}
		for n := range c.Lines {
			climb := c.Lines[n]
			if n > 0 {
				climb -= c.Lines[n-1]
			}
			b = binary.AppendVarint(b, int64(climb))
		}
	}
	return b
}

// modelModule says by other means which module's bytes these are, without the sum; false, if of none.
func modelModule(body []byte) (m api.Module, ok bool) {
	in := bytes.NewReader(body)
	var fault error
	number := func() int {
		n, err := binary.ReadUvarint(in)
		if n > math.MaxInt32 {
			err = errors.Join(err, errors.New("too large"))
		}
		fault = errors.Join(fault, err)
		return int(n)
	}
	signed := func() int64 {
		n, err := binary.ReadVarint(in)
		fault = errors.Join(fault, err)
		return n
	}
	list := func(do func()) {
		n := number()
		for ; n > 0 && fault == nil; n-- {
			do()
		}
	}
	head := make([]byte, 4)
	in.Read(head)
	list(func() { m.Vars = append(m.Vars, signed()) })
	list(func() { m.Arrays = append(m.Arrays, number()) })
	list(func() { m.Chans = append(m.Chans, number()) })
	m.Mutexes, m.Conds = number(), number()
	list(func() {
		var c api.Code
		list(func() {
			b, err := in.ReadByte()
			fault = errors.Join(fault, err)
			c.Name += string([]byte{b})
		})
		c.Locals = number()
		list(func() {
			b, err := in.ReadByte()
			fault = errors.Join(fault, err)
			i := api.Ins{Code: api.InsCode(b)}
			r, _ := row(i.Code)
			if r.a {
				i.A = number()
			}
			if r.b {
				i.B = number()
			}
			if r.num {
				i.Num = signed()
			}
			c.Ins = append(c.Ins, i)
		})
		line := 0
		for range c.Ins {
			line += int(signed())
			c.Lines = append(c.Lines, line)
		}
		m.Threads = append(m.Threads, c)
	})
	if fault != nil || !modelMay(m) || !bytes.Equal(modelBytes(m), body) {
		return api.Module{}, false
	}
	return m, true
}

// againstModel holds what Decode says of bytes with their sum against the model, and whether they come back.
func againstModel(t *testing.T, body []byte) bool {
	t.Helper()
	b := sealed(body)
	want, ok := modelModule(body)
	if !ok {
		// One of very many bodies is enough.
		if wantRefused(t, "the model", b, api.ErrModule); t.Failed() {
			t.FailNow()
		}
		return false
	}
	m := decoded(t, b)
	if !reflect.DeepEqual(m, want) {
		t.Fatalf("Decode(% x) = %+v; want %+v", b, m, want)
	}
	if again := encoded(t, m); !bytes.Equal(again, b) {
		t.Fatalf("% x, and back % x", b, again)
	}
	return true
}

// allBodies goes over all lists of at most so many of these bytes, behind others.
func allBodies(ahead, of []byte, most int, do func(body []byte)) {
	do(ahead)
	for _, b := range of {
		if most > 0 {
			allBodies(append(slices.Clip(ahead), b), of, most-1, do)
		}
	}
}

func TestAllShortBytes(t *testing.T) {
	for _, r := range []struct {
		what        string
		ahead, of   []byte
		long, least int
	}{
		{"beginnings", nil, []byte{0, 1, 2, 128}, 8, 100},
		{"beginnings of any bytes", nil, []byte{0, 1, 17, 64, 65, 127, 128, 129, 255}, 6, 1},
		{"threads", []byte{0, 0, 0, 0, 0}, []byte{0, 1, 2, 34}, 8, 100},
		{"a thread's instructions", []byte{0, 0, 0, 0, 0, 1, 1, 'x', 0}, []byte{0, 1, 2, 8, 26, 34, 128}, 6, 100},
		{"an instruction", []byte{0, 0, 0, 0, 0, 1, 1, 'x', 0, 1}, []byte{1, 2, 3, 4, 8, 26, 127, 128, 255}, 6, 100},
		{"a variable", []byte{1}, []byte{0, 1, 15, 16, 127, 128, 255}, 6, 2},
	} {
		ahead, taken := slices.Concat([]byte("WARP"), r.ahead), 0
		allBodies(ahead, r.of, r.long, func(body []byte) {
			if againstModel(t, body) {
				taken++
			}
		})
		if taken < r.least {
			t.Errorf("%s: %d modules alone", r.what, taken)
		}
	}
}

// All of one number's bytes, where all behind it stands as it must.
func TestAllShortNumbers(t *testing.T) {
	bytes := []byte{0, 1, 3, 4, 15, 16, 31, 32, 33, 63, 64, 65, 126, 127, 128, 129, 130, 143, 144, 159, 160, 192, 254, 255}
	for _, r := range []struct{ ahead, behind []byte }{
		{[]byte{1}, make([]byte, 5)},
		{[]byte{0, 1}, make([]byte, 4)},
		{[]byte{0, 0, 1}, make([]byte, 3)},
		{[]byte{0, 0, 0}, make([]byte, 2)},
		{[]byte{0, 0, 0, 0}, make([]byte, 1)},
		{[]byte{0, 0, 0, 0, 0, 1, 1, 'x'}, []byte{0}},
		{[]byte{0, 0, 0, 0, 0, 1, 1, 'x', 0, 1, 1}, []byte{0}},
		{[]byte{0, 0, 0, 0, 0, 1, 1, 'x', 0, 1, 2}, []byte{0}},
		{[]byte{0, 0, 0, 0, 0, 1, 1, 'x', 0, 1, 26, 0}, []byte{0}},
		{[]byte{0, 0, 0, 0, 0, 1, 1, 'x', 0, 1, 34}, nil},
		{[]byte{0, 0, 0, 0, 0, 1, 1, 'x', 0, 2, 34, 34, 6}, nil},
	} {
		allBodies(nil, bytes, 3, func(n []byte) {
			againstModel(t, slices.Concat([]byte("WARP"), r.ahead, n, r.behind))
		})
	}
}

// some tells one of the numbers, or one in between the first and the last.
func (l *lot) some(numbers ...int) int {
	if l.below(3) > 0 {
		return numbers[l.below(len(numbers))]
	}
	first, last := slices.Min(numbers), slices.Max(numbers)
	return first + l.below(last-first+1)
}

func (l *lot) value() int64 {
	return int64(l.some(0, 1, -1, 63, 64, -64, -65, 8191, 8192, -8192, -8193, greatest, least))
}

func (l *lot) place() int { return l.some(0, 1, 127, 128, 16383, 16384, 65535) }

func (l *lot) ins(of []code) api.Ins {
	c := of[l.below(len(of))]
	i := api.Ins{Code: c.code}
	if c.a {
		i.A = l.place()
	}
	if c.b {
		i.B = l.place()
	}
	if c.num {
		i.Num = l.value()
	}
	return i
}

func (l *lot) module(most int) api.Module {
	m := api.Module{Mutexes: l.some(0, 1, 63, 64), Conds: l.some(0, 1, 63, 64)}
	for range l.below(most) {
		m.Vars = append(m.Vars, l.value())
	}
	for range l.below(most) {
		m.Arrays = append(m.Arrays, l.some(0, 1, 127, 128, 255, 256))
	}
	for range l.below(most) {
		m.Chans = append(m.Chans, l.some(1, 2, 16))
	}
	of := table()
	for range l.below(most) {
		c := api.Code{Locals: l.some(0, 1, 31, 32)}
		for range l.some(1, 2, 15, 16) {
			c.Name += string([]byte{byte(l.below(256))})
		}
		for range l.below(2 * most) {
			c.Ins, c.Lines = append(c.Ins, l.ins(of)), append(c.Lines, l.some(0, 1, 2, 3, 100, 65535, 65536))
		}
		m.Threads = append(m.Threads, c)
	}
	return m
}

// P6.4: there and back.
func TestManyModulesThereAndBack(t *testing.T) {
	l := lot(1)
	for n := range 1500 {
		m := l.module(1 + n%65)
		want := sealed(modelBytes(m))
		b := encoded(t, m)
		if !bytes.Equal(b, want) {
			t.Fatalf("Encode(%+v) = % x; want % x", m, b, want)
		}
		again := decoded(t, b)
		if !reflect.DeepEqual(again, m) || !ops.Same(again, m) {
			t.Fatalf("%+v, and back %+v", m, again)
		}
	}
}

// P6.4: where one byte is another one it is no module: each byte, and each other one, is tried.
func TestOneByteThatIsAnotherOne(t *testing.T) {
	for _, m := range []api.Module{{}, rich(), every(), {Vars: []int64{7}}} {
		b := encoded(t, m)
		for i, was := range b {
			for by := 1; by < 256; by++ {
				b[i] = was + byte(by)
				if other, e := ops.Decode(b); e != api.ErrSum || !isNothing(other) {
					t.Fatalf("byte %d of %v is %d: %v, %v", i, m, b[i], other, e)
				}
			}
			b[i] = was
		}
		decoded(t, b)
	}
}

// Of a module of very many bytes, too: the sum forgets none, however far ahead.
func TestOneByteOfVeryMany(t *testing.T) {
	var c api.Code
	c.Name = "long"
	for n := range 65536 {
		c.Ins, c.Lines = append(c.Ins, api.Ins{Code: api.InsWait, A: n, B: 65535 - n}), append(c.Lines, n%7*n/7)
	}
	m := api.Module{Threads: []api.Code{c, c}}
	b := encoded(t, m)
	if again := decoded(t, b); !ops.Same(again, m) {
		t.Error("another one is read")
	}
	l := lot(5)
	for range 60 {
		i := l.below(len(b))
		if l.below(3) == 0 {
			i = l.below(40)
		}
		was := b[i]
		b[i] ^= byte(1 << l.below(8))
		wantRefused(t, fmt.Sprint("byte ", i, " is another one"), b, api.ErrSum)
		b[i] = was
	}
}

// P6.2: bytes with a few changes and their sum: Decode says what the model says.
func TestManyBytesThatAreChanged(t *testing.T) {
	l := lot(3)
	taken := 0
	for n := range 60000 {
		body := modelBytes(l.module(1 + n%5))
		for range 1 + l.below(3) {
			at := 4 + l.below(len(body)-3)
			if l.below(50) == 0 {
				at = l.below(4)
			}
			other := byte(l.some(0, 1, 2, 26, 34, 35, 64, 127, 128, 129, 255))
			switch l.below(3) {
			case 0:
				body = slices.Insert(body, at, other)
			case 1:
				body = slices.Delete(body, min(at, len(body)-1), min(at+1, len(body)))
			case 2:
				body[min(at, len(body)-1)] = other
			}
		}
		if againstModel(t, body) {
			taken++
		}
	}
	if taken < 1000 {
		t.Errorf("%d of them are modules alone", taken)
	}
}

// P6.1: modules with a few changes: Check says what the model says.
func TestManyModulesThatAreChanged(t *testing.T) {
	l := lot(4)
	odd := []int{-1, 0, 1, 16, 17, 32, 33, 64, 65, 256, 257, 65535, 65536, 65537, 1 << 31, least, least - 1, 1 << 32, minInt, maxInt}
	taken := 0
	for n := range 20000 {
		m := l.module(2 + n%5)
		x := odd[l.below(len(odd))]
		var c *api.Code
		if len(m.Threads) > 0 {
			c = &m.Threads[l.below(len(m.Threads))]
		}
		switch l.below(12) {
		case 0:
			m.Vars = append(m.Vars, int64(x))
		case 1:
			m.Arrays = append(m.Arrays, x)
		case 2:
			m.Chans = append(m.Chans, x)
		case 3:
			m.Mutexes = x
		case 4:
			m.Conds = x
		case 5:
			m.Threads = slices.Repeat(m.Threads, 1+l.below(40))
		case 6:
			if c != nil {
				c.Name = strings.Repeat("n", min(max(x, 0), 1000))
			}
		case 7:
			if c != nil {
				c.Locals = x
			}
		default:
			if c != nil && len(c.Ins) > 0 {
				at := l.below(len(c.Ins))
				i := &c.Ins[at]
				[]func(){func() { i.Code = api.InsCode(x) }, func() { i.A = x }, func() { i.B = x }, func() { i.Num = int64(x) }, func() { c.Lines[at] = x }, func() { c.Lines = c.Lines[:at] }}[l.below(6)]()
			}
		}
		may := modelMay(m)
		wantMay(t, fmt.Sprint(n), m, may)
		if may {
			taken++
		}
	}
	if taken < 1000 || taken > 19000 {
		t.Errorf("%d of them may be", taken)
	}
}
