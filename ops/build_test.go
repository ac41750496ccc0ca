package ops_test

import (
	"encoding/hex"
	"fmt"
	"slices"
	"strings"
	"sync"
	"testing"

	"warp/api"
	"warp/ops"
)

// What all tests of the package make and look at.

const (
	least    = -1 << 31
	greatest = 1<<31 - 1
	minInt   = -1 << 63
	maxInt   = 1<<63 - 1
)

// codes is the chapter's table: the Codes from 1 on, each with its name, and what it names.
const codes = `push Num
var A
local A
cell A
setvar A
setlocal A
setcell A
neg
not
eq
ne
lt
le
add
sub
mul
div
mod
jump A
jumpz A
jumpnz A
bool
mark A
lock A
unlock A
wait A B
signal A
all A
send A
recv A
spawn A
join
print
end`

// code is a row of that table.
type code struct {
	code      api.InsCode
	name      string
	a, b, num bool
}

var table = sync.OnceValue(func() []code {
	var l []code
	for i, line := range strings.Split(codes, "\n") {
		name, names, _ := strings.Cut(line, " ")
		l = append(l, code{api.InsCode(i + 1), name, strings.HasPrefix(names, "A"), strings.HasSuffix(names, "B"), names == "Num"})
	}
	return l
})

// row is the one of a Code; false, if it is none.
func row(c api.InsCode) (code, bool) {
	for _, r := range table() {
		if r.code == c {
			return r, true
		}
	}
	return code{}, false
}

// none are numbers of no Code.
func none() []api.InsCode {
	return []api.InsCode{0, -1, 35, 36, 127, 128, 255, 256, 257, 1 << 16, 1<<32 + 1, least, minInt, maxInt}
}

// rich is a module that has something of everything, its numbers of one byte and of several.
func rich() api.Module {
	return api.Module{
		Vars:    []int64{0, 1, -1, -2, 64, greatest, least},
		Arrays:  []int{0, 4, api.MaxCells},
		Chans:   []int{1, api.MaxRoom},
		Mutexes: 2,
		Conds:   1,
		Threads: []api.Code{
			{Name: "main", Locals: 3, Ins: []api.Ins{{Code: api.InsWait, A: 1, B: 200}, {Code: api.InsPush, Num: -7}, {Code: api.InsJump, A: 300}, {Code: api.InsEnd}}, Lines: []int{3, 1, 300, 0}},
			{Name: "t\xff"},
		},
	}
}

// richBytes are its bytes, written by hand, without the sum.
const richBytes = "57 41 52 50 07 00 02 01 03 80 01 fe ff ff ff 0f ff ff ff ff 0f 03 00 04 80 02 02 01 10 02 01 02" +
	"04 6d 61 69 6e 03 04 1a 01 c8 01 01 0d 13 ac 02 22 06 03 d6 04 d7 04" +
	"02 74 ff 00 00"

// lone is a module of one thread, with a line 0 of each instruction.
func lone(l ...api.Ins) api.Module {
	return api.Module{Threads: []api.Code{{Name: "main", Ins: l, Lines: make([]int, len(l))}}}
}

// every is a module of one thread that has each Code.
func every() api.Module {
	var l []api.Ins
	for _, c := range table() {
		i := api.Ins{Code: c.code}
		if c.a {
			i.A = 7
		}
		if c.b {
			i.B = 130
		}
		if c.num {
			i.Num = -70
		}
		l = append(l, i)
	}
	return lone(l...)
}

func changed(m api.Module, do func(m *api.Module)) api.Module {
	do(&m)
	return m
}

func fromHex(t *testing.T, text string) []byte {
	t.Helper()
	b, err := hex.DecodeString(strings.ReplaceAll(text, " ", ""))
	if err != nil {
		t.Fatal(err)
	}
	return b
}

// sumOf is the sum by other means: each byte counts 33 times as much as the one behind it.
func sumOf(b []byte) []byte {
	sum, worth := uint64(0), uint64(1)
	for _, x := range slices.Backward(b) {
		sum = (sum + uint64(x)*worth) % (1 << 32)
		worth = worth * 33 % (1 << 32)
	}
	sum = (sum + 5381*worth) % (1 << 32)
	return []byte{byte(sum % 256), byte(sum / 256 % 256), byte(sum / 65536 % 256), byte(sum / 16777216)}
}

func sealed(body []byte) []byte { return slices.Concat(body, sumOf(body)) }

// warp tells WARP, what stands behind it, and the sum.
func warp(body ...byte) []byte { return sealed(slices.Concat([]byte("WARP"), body)) }

func encoded(t *testing.T, m api.Module) []byte {
	t.Helper()
	b, e := ops.Encode(m)
	if e != api.OK {
		t.Fatalf("Encode(%.300v): %v", fmt.Sprint(m), e)
	}
	return b
}

func decoded(t *testing.T, b []byte) api.Module {
	t.Helper()
	m, e := ops.Decode(b)
	if e != api.OK {
		t.Fatalf("Decode(% .300x): %v", b, e)
	}
	return m
}

// wantRefused: bytes are refused with that error, and nothing beside it.
func wantRefused(t *testing.T, what string, b []byte, want api.Errno) {
	t.Helper()
	m, e := ops.Decode(b)
	if e != want || !isNothing(m) {
		t.Errorf("%s: Decode(% .300x) = %.300v, %v; want nothing, %v", what, b, fmt.Sprint(m), e, want)
	}
}

func isNothing(m api.Module) bool {
	return len(m.Vars)+len(m.Arrays)+len(m.Chans)+len(m.Threads) == 0 && m.Mutexes == 0 && m.Conds == 0
}

// wantMay: a module may be, or may not: Check and Encode say so, and what is written can be read.
func wantMay(t *testing.T, what string, m api.Module, may bool) {
	t.Helper()
	want := api.OK
	if !may {
		want = api.ErrArg
	}
	if e := ops.Check(m); e != want {
		t.Errorf("%s: Check: %v; want %v", what, e, want)
	}
	b, e := ops.Encode(m)
	if e != want || (len(b) == 0) == may {
		t.Errorf("%s: Encode: %d bytes, %v; want %v", what, len(b), e, want)
	}
	if !may {
		return
	}
	if again, e := ops.Decode(b); e != api.OK || !ops.Same(again, m) {
		t.Errorf("%s: what was written is read as %.300v, %v", what, fmt.Sprint(again), e)
	}
}

// spoil changes a list, and the spare room behind it.
func spoil[T any](l []T, x T) {
	for i := range l[:cap(l)] {
		l[:cap(l)][i] = x
	}
}

// lot is a row of numbers that looks like chance, and is the same in each run.
type lot uint64

func (l *lot) below(n int) int {
	*l = *l*6364136223846793005 + 1442695040888963407
	return int(*l>>33) % n
}
