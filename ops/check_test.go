package ops_test

import (
	"bytes"
	"fmt"
	"reflect"
	"slices"
	"strings"
	"testing"

	"warp/api"
	"warp/ops"
)

// P6.1

func TestTheBytesOfAModule(t *testing.T) {
	for _, r := range []struct {
		m   api.Module
		hex string
	}{
		{api.Module{}, "57 41 52 50 00 00 00 00 00 00 1f 0f 27 e4"},
		{rich(), richBytes + "5b b6 90 f7"},
	} {
		want := fromHex(t, r.hex)
		if got := encoded(t, r.m); !bytes.Equal(got, want) {
			t.Errorf("Encode(%v) = % x; want % x", r.m, got, want)
		}
	}
}

// Each Code's bytes: it, and what it names of A, B and Num; the lines stand behind all instructions.
func TestTheBytesOfEachCode(t *testing.T) {
	for _, c := range table() {
		m := lone(api.Ins{Code: c.code}, api.Ins{Code: api.InsEnd})
		want := []byte{0, 0, 0, 0, 0, 1, 4, 'm', 'a', 'i', 'n', 0, 2, byte(c.code)}
		i := &m.Threads[0].Ins[0]
		if c.a {
			i.A = 5
			want = append(want, 5)
		}
		if c.b {
			i.B = 65535
			want = append(want, 0xff, 0xff, 0x03)
		}
		if c.num {
			i.Num = -3
			want = append(want, 5)
		}
		m.Threads[0].Lines = []int{9, 7}
		want = warp(append(want, 34, 18, 3)...)
		if got := encoded(t, m); !bytes.Equal(got, want) {
			t.Errorf("%s: % x; want % x", c.name, got, want)
		}
	}
}

func TestTheBytesOfNumbers(t *testing.T) {
	for hex, n := range map[string]int64{
		"00": 0, "01": -1, "02": 1, "03": -2, "04": 2, "7e": 63, "7f": -64, "80 01": 64, "81 01": -65, "fe 7f": 8191, "ff 7f": -8192, "80 80 01": 8192,
		"80 80 80 01": 1 << 20, "80 80 80 80 01": 1 << 27, "ff ff ff 7f": -1 << 27, "fe ff ff ff 0f": greatest, "ff ff ff ff 0f": least,
	} {
		want := warp(slices.Concat([]byte{1}, fromHex(t, hex), []byte{0, 0, 0, 0, 0})...)
		if got := encoded(t, api.Module{Vars: []int64{n}}); !bytes.Equal(got, want) {
			t.Errorf("%d: % x; want % x", n, got, want)
		}
	}
	for hex, n := range map[string]int{"00": 0, "01": 1, "7f": 127, "80 01": 128, "ff 01": 255, "80 02": 256} {
		want := warp(slices.Concat([]byte{0, 1}, fromHex(t, hex), []byte{0, 0, 0, 0})...)
		if got := encoded(t, api.Module{Arrays: []int{n}}); !bytes.Equal(got, want) {
			t.Errorf("%d cells: % x; want % x", n, got, want)
		}
	}
}

// The bounds of a module, each and one past it.
func TestWhichModulesMayBe(t *testing.T) {
	threads := func(n int) []api.Code { return slices.Repeat([]api.Code{{Name: "t"}}, n) }
	for _, r := range []struct {
		what string
		may  bool
		do   func(m *api.Module)
	}{
		{"as it is", true, func(m *api.Module) {}},
		{"nothing", true, func(m *api.Module) { *m = api.Module{} }},
		{"empty lists", true, func(m *api.Module) {
			*m = api.Module{Vars: []int64{}, Arrays: []int{}, Chans: []int{}, Threads: []api.Code{}}
		}},
		{"the most variables", true, func(m *api.Module) { m.Vars = make([]int64, 64) }},
		{"one more", false, func(m *api.Module) { m.Vars = make([]int64, 65) }},
		{"many", false, func(m *api.Module) { m.Vars = make([]int64, 1<<20) }},
		{"the most arrays", true, func(m *api.Module) { m.Arrays = make([]int, 64) }},
		{"one more", false, func(m *api.Module) { m.Arrays = make([]int, 65) }},
		{"the most channels", true, func(m *api.Module) { m.Chans = slices.Repeat([]int{1}, 64) }},
		{"one more", false, func(m *api.Module) { m.Chans = slices.Repeat([]int{1}, 65) }},
		{"the most threads", true, func(m *api.Module) { m.Threads = threads(64) }},
		{"one more", false, func(m *api.Module) { m.Threads = threads(65) }},
		{"no thread", true, func(m *api.Module) { m.Threads = nil }},
		{"the most of all", true, func(m *api.Module) {
			m.Vars, m.Arrays, m.Chans, m.Threads, m.Mutexes, m.Conds = make([]int64, 64), make([]int, 64), slices.Repeat([]int{1}, 64), threads(64), 64, 64
		}},
		{"no mutex", true, func(m *api.Module) { m.Mutexes = 0 }},
		{"the most mutexes", true, func(m *api.Module) { m.Mutexes = 64 }},
		{"one more", false, func(m *api.Module) { m.Mutexes = 65 }},
		{"fewer than none", false, func(m *api.Module) { m.Mutexes = -1 }},
		{"far fewer", false, func(m *api.Module) { m.Mutexes = minInt }},
		{"far more", false, func(m *api.Module) { m.Mutexes = maxInt }},
		{"beyond 32 bits", false, func(m *api.Module) { m.Mutexes = 1 << 32 }},
		{"no condition", true, func(m *api.Module) { m.Conds = 0 }},
		{"the most conditions", true, func(m *api.Module) { m.Conds = 64 }},
		{"one more", false, func(m *api.Module) { m.Conds = 65 }},
		{"fewer than none", false, func(m *api.Module) { m.Conds = -1 }},
		{"far fewer", false, func(m *api.Module) { m.Conds = minInt }},
		{"far more", false, func(m *api.Module) { m.Conds = maxInt }},
		{"beyond 32 bits", false, func(m *api.Module) { m.Conds = -1 << 32 }},
		{"the greatest value", true, func(m *api.Module) { m.Vars = []int64{0, greatest} }},
		{"one more", false, func(m *api.Module) { m.Vars = []int64{0, greatest + 1} }},
		{"the least value", true, func(m *api.Module) { m.Vars = []int64{least, 0} }},
		{"one less", false, func(m *api.Module) { m.Vars = []int64{least - 1, 0} }},
		{"far more", false, func(m *api.Module) { m.Vars = []int64{maxInt} }},
		{"far less", false, func(m *api.Module) { m.Vars = []int64{minInt} }},
		{"the last variable is none", false, func(m *api.Module) { m.Vars = append(make([]int64, 63), 1<<32) }},
		{"no cells", true, func(m *api.Module) { m.Arrays = []int{0} }},
		{"the most cells", true, func(m *api.Module) { m.Arrays = []int{256, 256} }},
		{"one more", false, func(m *api.Module) { m.Arrays = []int{1, 257} }},
		{"fewer than none", false, func(m *api.Module) { m.Arrays = []int{-1, 1} }},
		{"far fewer", false, func(m *api.Module) { m.Arrays = []int{minInt} }},
		{"far more", false, func(m *api.Module) { m.Arrays = []int{maxInt} }},
		{"the last array is none", false, func(m *api.Module) { m.Arrays = append(make([]int, 63), 257) }},
		{"the least room", true, func(m *api.Module) { m.Chans = []int{1} }},
		{"no room", false, func(m *api.Module) { m.Chans = []int{1, 0} }},
		{"less than none", false, func(m *api.Module) { m.Chans = []int{-1} }},
		{"the greatest room", true, func(m *api.Module) { m.Chans = []int{16} }},
		{"one more", false, func(m *api.Module) { m.Chans = []int{17, 1} }},
		{"far more", false, func(m *api.Module) { m.Chans = []int{maxInt} }},
		{"far less", false, func(m *api.Module) { m.Chans = []int{minInt} }},
		{"a thread that may not be", false, func(m *api.Module) { m.Threads = append(threads(63), api.Code{}) }},
		{"the first thread may not be", false, func(m *api.Module) { m.Threads = append([]api.Code{{}}, threads(3)...) }},
	} {
		wantMay(t, r.what, changed(rich(), r.do), r.may)
	}
}

func TestWhichThreadsMayBe(t *testing.T) {
	most := api.Code{Name: "t", Ins: slices.Repeat([]api.Ins{{Code: api.InsNeg}}, 65536), Lines: make([]int, 65536)}
	more := api.Code{Name: "t", Ins: append(most.Ins, api.Ins{Code: api.InsEnd}), Lines: make([]int, 65537)}
	for _, r := range []struct {
		what string
		may  bool
		do   func(c *api.Code)
	}{
		{"no name", false, func(c *api.Code) { c.Name = "" }},
		{"a name of one byte", true, func(c *api.Code) { c.Name = "q" }},
		{"the longest name", true, func(c *api.Code) { c.Name = strings.Repeat("q", 16) }},
		{"one longer", false, func(c *api.Code) { c.Name = strings.Repeat("q", 17) }},
		{"far longer", false, func(c *api.Code) { c.Name = strings.Repeat("q", 1<<20) }},
		{"bytes are asked, not letters", false, func(c *api.Code) { c.Name = strings.Repeat("\u00e9", 9) }},
		{"any bytes", true, func(c *api.Code) { c.Name = "\x00 \xff\n\u00e9A0" }},
		{"no locals", true, func(c *api.Code) { c.Locals = 0 }},
		{"the most locals", true, func(c *api.Code) { c.Locals = 32 }},
		{"one more", false, func(c *api.Code) { c.Locals = 33 }},
		{"fewer than none", false, func(c *api.Code) { c.Locals = -1 }},
		{"far more", false, func(c *api.Code) { c.Locals = maxInt }},
		{"far fewer", false, func(c *api.Code) { c.Locals = minInt }},
		{"no instructions", true, func(c *api.Code) { c.Ins, c.Lines = nil, nil }},
		{"empty lists", true, func(c *api.Code) { c.Ins, c.Lines = []api.Ins{}, []int{} }},
		{"the most instructions", true, func(c *api.Code) { *c = most }},
		{"one more", false, func(c *api.Code) { *c = more }},
		{"fewer lines", false, func(c *api.Code) { c.Lines = c.Lines[:3] }},
		{"no lines", false, func(c *api.Code) { c.Lines = nil }},
		{"more lines", false, func(c *api.Code) { c.Lines = append(c.Lines, 1) }},
		{"lines alone", false, func(c *api.Code) { c.Ins = nil }},
		{"fewer instructions", false, func(c *api.Code) { c.Ins = c.Ins[:3] }},
		{"the last instruction may not be", false, func(c *api.Code) { c.Ins[3] = api.Ins{} }},
		{"the first instruction may not be", false, func(c *api.Code) { c.Ins[0].Num = 1 }},
		{"the greatest lines", true, func(c *api.Code) { c.Lines = []int{65536, 0, 65536, 65536} }},
		{"one more", false, func(c *api.Code) { c.Lines[0] = 65537 }},
		{"one more, of the last", false, func(c *api.Code) { c.Lines[3] = 65537 }},
		{"less than none", false, func(c *api.Code) { c.Lines[2] = -1 }},
		{"far more", false, func(c *api.Code) { c.Lines[1] = maxInt }},
		{"far less", false, func(c *api.Code) { c.Lines[1] = minInt }},
		{"of 32 bits nothing", false, func(c *api.Code) { c.Lines[1] = 1 << 32 }},
	} {
		for place := range 2 {
			m := rich()
			m.Threads[1] = rich().Threads[0]
			r.do(&m.Threads[place])
			wantMay(t, fmt.Sprintf("thread %d: %s", place, r.what), m, r.may)
		}
	}
}

// wantIns: an instruction may be, or may not: in a module, and as a text.
func wantIns(t *testing.T, i api.Ins, may bool) {
	t.Helper()
	wantMay(t, fmt.Sprintf("%+v", i), lone(i), may)
	text, e := ops.Text(i)
	if (e == api.OK) != may || (text != "") != may || !may && e != api.ErrArg {
		t.Errorf("Text(%+v) = %q, %v", i, text, e)
	}
}

// Each Code with what it names, at each bound and one past it, and with what it does not name.
func TestWhichInstructionsMayBe(t *testing.T) {
	for _, c := range table() {
		wantIns(t, api.Ins{Code: c.code}, true)
		for _, n := range []int{1, -1, 127, 128, 65535, 65536, -65535, 1 << 32, minInt, maxInt} {
			in := 0 <= n && n <= 65535
			wantIns(t, api.Ins{Code: c.code, A: n}, c.a && in)
			wantIns(t, api.Ins{Code: c.code, B: n}, c.b && in)
		}
		for _, n := range []int64{1, -1, 65535, 65536, greatest, greatest + 1, least, least - 1, 1 << 32, minInt, maxInt} {
			wantIns(t, api.Ins{Code: c.code, Num: n}, c.num && least <= n && n <= greatest)
		}
		wantIns(t, api.Ins{Code: c.code, A: 65535, B: 65535}, c.a && c.b)
		wantIns(t, api.Ins{Code: c.code, A: 1, B: 1, Num: 1}, false)
	}
	for _, c := range none() {
		wantIns(t, api.Ins{Code: c}, false)
		wantIns(t, api.Ins{Code: c, A: 1, B: 1, Num: 1}, false)
	}
}

func TestWhatIsHandedInStays(t *testing.T) {
	m := rich()
	lists := []*[]int{&m.Arrays, &m.Chans, &m.Threads[0].Lines}
	for _, l := range lists {
		*l = append(*l, 77)[:len(*l)]
	}
	first := encoded(t, m)
	second := slices.Clone(first)
	ops.Check(m)
	ops.Same(m, rich())
	spoil(first, 0xaa)
	if !reflect.DeepEqual(m, rich()) || !bytes.Equal(encoded(t, m), second) {
		t.Errorf("what was handed in is %v now", m)
	}
	for _, l := range lists {
		if spare := (*l)[:len(*l)+1]; spare[len(*l)] != 77 {
			t.Errorf("behind %v stands %d now", *l, spare[len(*l)])
		}
	}
}

// different are modules of which no two are the same; some of them may not be.
func different() []api.Module {
	l := []api.Module{{}, rich(), every()}
	for _, do := range []func(m *api.Module){
		func(m *api.Module) { m.Vars[6]++ },
		func(m *api.Module) { m.Vars = m.Vars[:6] },
		func(m *api.Module) { m.Vars = append(m.Vars, 0) },
		func(m *api.Module) { m.Vars = nil },
		func(m *api.Module) { m.Vars[0], m.Vars[1] = m.Vars[1], m.Vars[0] },
		func(m *api.Module) { m.Arrays[2]-- },
		func(m *api.Module) { m.Arrays = m.Arrays[:2] },
		func(m *api.Module) { m.Arrays = append(m.Arrays, 1000) },
		func(m *api.Module) { m.Arrays, m.Chans = m.Chans, m.Arrays },
		func(m *api.Module) { m.Chans[0]++ },
		func(m *api.Module) { m.Chans = nil },
		func(m *api.Module) { m.Mutexes++ },
		func(m *api.Module) { m.Mutexes = minInt },
		func(m *api.Module) { m.Conds++ },
		func(m *api.Module) { m.Conds = -1 },
		func(m *api.Module) { m.Mutexes, m.Conds = m.Conds, m.Mutexes },
		func(m *api.Module) { m.Threads = m.Threads[:1] },
		func(m *api.Module) { m.Threads = nil },
		func(m *api.Module) { m.Threads = append(m.Threads, api.Code{}) },
		func(m *api.Module) { m.Threads[0], m.Threads[1] = m.Threads[1], m.Threads[0] },
		func(m *api.Module) { m.Threads[1].Name = "t\xfe" },
		func(m *api.Module) { m.Threads[1].Name = "" },
		func(m *api.Module) { m.Threads[0].Locals-- },
		func(m *api.Module) { m.Threads[1].Locals = maxInt },
		func(m *api.Module) { m.Threads[0].Ins[0].Code = api.InsLock },
		func(m *api.Module) { m.Threads[0].Ins[0].A++ },
		func(m *api.Module) { m.Threads[0].Ins[0].B++ },
		func(m *api.Module) { m.Threads[0].Ins[0].Num++ },
		func(m *api.Module) { m.Threads[0].Ins[1].Num++ },
		func(m *api.Module) { m.Threads[0].Ins[3] = api.Ins{} },
		func(m *api.Module) { m.Threads[0].Ins = m.Threads[0].Ins[:3] },
		func(m *api.Module) { m.Threads[0].Ins = nil },
		func(m *api.Module) { m.Threads[0].Lines[3]++ },
		func(m *api.Module) { m.Threads[0].Lines = m.Threads[0].Lines[:3] },
		func(m *api.Module) { m.Threads[0].Lines = append(m.Threads[0].Lines, 0) },
		func(m *api.Module) { m.Threads[1].Lines = []int{0} },
		func(m *api.Module) { m.Threads[1].Ins = []api.Ins{{}} },
	} {
		l = append(l, changed(rich(), do))
	}
	return l
}

func TestSameAsksPartByPart(t *testing.T) {
	l, other := different(), different()
	for i, a := range l {
		for j, b := range other {
			if got := ops.Same(a, b); got != (i == j) {
				t.Errorf("Same(%v, %v): %v", a, b, got)
			}
		}
	}
}

func TestNilAndEmptyAreTheSame(t *testing.T) {
	empty := api.Module{Vars: []int64{}, Arrays: []int{}, Chans: []int{}, Threads: []api.Code{}}
	thread := api.Module{Threads: []api.Code{{Name: "x", Ins: []api.Ins{}, Lines: []int{}}}}
	other := api.Module{Threads: []api.Code{{Name: "x"}}}
	if !ops.Same(empty, api.Module{}) || !ops.Same(api.Module{}, empty) || !ops.Same(thread, other) || !ops.Same(other, thread) {
		t.Error("nil and empty are not the same")
	}
	if !bytes.Equal(encoded(t, empty), encoded(t, api.Module{})) || !bytes.Equal(encoded(t, thread), encoded(t, other)) {
		t.Error("nil and empty have other bytes")
	}
}
