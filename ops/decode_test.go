package ops_test

import (
	"bytes"
	"fmt"
	"reflect"
	"slices"
	"testing"

	"warp/api"
	"warp/ops"
)

// P6.2

func TestTheModuleOfBytes(t *testing.T) {
	for _, r := range []struct {
		hex string
		m   api.Module
	}{
		{"57 41 52 50 00 00 00 00 00 00 1f 0f 27 e4", api.Module{}},
		{richBytes + "5b b6 90 f7", rich()},
	} {
		if m := decoded(t, fromHex(t, r.hex)); !reflect.DeepEqual(m, r.m) {
			t.Errorf("Decode(%s) = %+v; want %+v", r.hex, m, r.m)
		}
	}
}

func TestTheSumIsAskedFirst(t *testing.T) {
	wantRefused(t, "the chapter's example", []byte("WARP"), api.ErrSum)
	wantRefused(t, "nothing", nil, api.ErrSum)
	wantRefused(t, "nothing", []byte{}, api.ErrSum)
	// Of fewer than 8 bytes the sum doesn't count.
	for n := range 8 {
		wantRefused(t, "few noughts", make([]byte, n), api.ErrSum)
		if n >= 4 {
			wantRefused(t, "few bytes and their sum", sealed([]byte("WARP")[:n-4]), api.ErrSum)
		}
	}
	wantRefused(t, "WARP and the sum", sealed([]byte("WARP")), api.ErrModule)
	wantRefused(t, "other bytes and the sum", sealed([]byte("warp")), api.ErrModule)
	wantRefused(t, "other bytes without the sum", []byte("warpwarp"), api.ErrSum)
	wantRefused(t, "eight noughts", make([]byte, 8), api.ErrSum)
	// Both errors hold.
	b := warp(1, 2, 3)
	wantRefused(t, "no module", b, api.ErrModule)
	b[4] ^= 64
	wantRefused(t, "no module, and another sum", b, api.ErrSum)
	// What stands behind is taken for the sum.
	for _, m := range []api.Module{{}, rich(), every()} {
		b := encoded(t, m)
		wantRefused(t, "a byte more", append(slices.Clone(b), 0), api.ErrSum)
		wantRefused(t, "a byte ahead", append([]byte{0}, b...), api.ErrSum)
		for n := range b {
			wantRefused(t, "bytes that are cut off", b[:n], api.ErrSum)
		}
		slices.Reverse(b[len(b)-4:])
		wantRefused(t, "the sum the other way round", b, api.ErrSum)
	}
}

// Each byte but the last, and each of them: cut off there, with a sum anew.
func TestBytesThatAreTooFew(t *testing.T) {
	for _, m := range []api.Module{{}, rich(), every()} {
		b := encoded(t, m)
		body := b[:len(b)-4]
		for n := range body {
			if n >= 4 {
				wantRefused(t, fmt.Sprint("cut off at ", n), sealed(body[:n]), api.ErrModule)
			}
		}
	}
}

func TestBytesThatAreLeftOver(t *testing.T) {
	for _, m := range []api.Module{{}, rich(), every()} {
		b := encoded(t, m)
		body := b[:len(b)-4]
		for _, more := range [][]byte{{0}, {1}, {255}, {0, 0, 0, 0}, make([]byte, 1000), []byte("WARP"), b, body[4:], b[len(b)-4:]} {
			wantRefused(t, fmt.Sprintf("% .20x more", more), sealed(slices.Concat(body, more)), api.ErrModule)
		}
	}
}

func TestOtherBytesAhead(t *testing.T) {
	body := encoded(t, rich())
	body = body[:len(body)-4]
	for _, head := range []string{"", "W", "WAR", "warp", "WARQ", "VARP", "WaRP", "WRAP", "WARPW", "WARPWARP", " WARP", "WLOG"} {
		wantRefused(t, head, sealed(slices.Concat([]byte(head), body[4:])), api.ErrModule)
	}
}

// numbered is where in the bytes of rich each kind of number stands, and how many bytes it has.
var numbered = []struct {
	what     string
	at, long int
}{
	{"how many variables", 4, 1}, {"a variable", 5, 1}, {"a variable of two bytes", 9, 2}, {"the greatest value", 11, 5}, {"the least value", 16, 5},
	{"how many arrays", 21, 1}, {"no cells", 22, 1}, {"the most cells", 24, 2}, {"how many channels", 26, 1}, {"a room", 27, 1}, {"the greatest room", 28, 1},
	{"mutexes", 29, 1}, {"conditions", 30, 1}, {"how many threads", 31, 1}, {"a name's bytes", 32, 1}, {"locals", 37, 1}, {"how many instructions", 38, 1},
	{"A of wait", 40, 1}, {"B of wait", 41, 2}, {"Num of push", 44, 1}, {"A of jump", 46, 2},
	{"the first line", 49, 1}, {"a line", 50, 1}, {"a line of two bytes", 51, 2}, {"the last line", 53, 2},
	{"another name's bytes", 55, 1}, {"no locals", 58, 1}, {"no instructions", 59, 1},
}

// with tells the bytes of rich, but for one number, with a sum.
func with(t *testing.T, at, long int, other ...byte) []byte {
	t.Helper()
	b := fromHex(t, richBytes)
	return sealed(slices.Concat(b[:at], other, b[at+long:]))
}

// A number has as few bytes as there may be.
func TestNumbersOfMoreBytesThanNeeded(t *testing.T) {
	b := fromHex(t, richBytes)
	for _, r := range numbered {
		n := slices.Clone(b[r.at : r.at+r.long])
		if n[r.long-1] >= 128 || r.long > 1 && n[r.long-2] < 128 {
			t.Fatalf("%s: % x is no number", r.what, n)
		}
		if m := decoded(t, with(t, r.at, r.long, n...)); !ops.Same(m, rich()) {
			t.Errorf("%s: %v", r.what, m)
		}
		n[r.long-1] |= 128
		for range 12 {
			wantRefused(t, r.what+" and a nought", with(t, r.at, r.long, append(slices.Clone(n), 0)...), api.ErrModule)
			n = append(n, 128)
		}
	}
	// 0 itself has one byte.
	for _, long := range [][]byte{{128, 0}, {128, 128, 0}, {128, 128, 128, 128, 0}, {128, 128, 128, 128, 128, 0}} {
		wantRefused(t, "a nought of more bytes", with(t, 5, 1, long...), api.ErrModule)
		wantRefused(t, "a nought of more bytes", with(t, 22, 1, long...), api.ErrModule)
		wantRefused(t, "a nought of more bytes", with(t, 59, 1, long...), api.ErrModule)
	}
}

// large are numbers that are too large, wherever they stand; what of them fits into 32, into 64 bits is small.
func large() [][]byte {
	l := [][]byte{
		{128, 128, 128, 128, 16},                              // 2^32
		{129, 128, 128, 128, 16},                              // and 1
		{130, 128, 128, 128, 16},                              // and 2
		{255, 255, 255, 255, 127},                             // 2^35 - 1
		{128, 128, 128, 128, 128, 1},                          // 2^35
		{129, 128, 128, 128, 128, 1},                          // and 1
		{128, 128, 128, 128, 128, 128, 128, 128, 128, 1},      // 2^63
		{255, 255, 255, 255, 255, 255, 255, 255, 255, 1},      // 2^64 - 1
		{128, 128, 128, 128, 128, 128, 128, 128, 128, 2},      // 2^64
		{129, 128, 128, 128, 128, 128, 128, 128, 128, 2},      // and 1
		{129, 128, 128, 128, 128, 128, 128, 128, 128, 128, 1}, // 2^70 and 1
	}
	l = append(l, slices.Concat([]byte{129}, slices.Repeat([]byte{128}, 300), []byte{1}))
	return append(l, slices.Concat(slices.Repeat([]byte{255}, 100000), []byte{1}))
}

func TestNumbersThatAreTooLarge(t *testing.T) {
	for _, r := range numbered {
		for _, n := range large() {
			wantRefused(t, r.what, with(t, r.at, r.long, n...), api.ErrModule)
		}
		wantRefused(t, r.what+" without an end", with(t, r.at, r.long, slices.Repeat([]byte{128}, 1000)...), api.ErrModule)
	}
}

// bytesOf tells a number's bytes, by halves and rests.
func bytesOf(n int64) []byte {
	if n < 128 {
		return []byte{byte(n)}
	}
	return append([]byte{byte(n%128 + 128)}, bytesOf(n/128)...)
}

// signed tells those of a number with a sign.
func signed(n int64) []byte {
	if n < 0 {
		return bytesOf(-2*n - 1)
	}
	return bytesOf(2 * n)
}

// Each bound of what bytes say, and one past it.
func TestNumbersThatMayNotBeThere(t *testing.T) {
	for _, r := range []struct {
		what     string
		at, long int
		n        []byte
		may      bool
	}{
		{"the greatest value", 5, 1, signed(greatest), true}, {"one more", 5, 1, signed(greatest + 1), false},
		{"the least value", 5, 1, signed(least), true}, {"one less", 5, 1, signed(least - 1), false},
		{"the most cells", 22, 1, bytesOf(256), true}, {"one more", 22, 1, bytesOf(257), false},
		{"no room", 27, 1, bytesOf(0), false}, {"the greatest room", 27, 1, bytesOf(16), true}, {"one more", 27, 1, bytesOf(17), false},
		{"no mutexes", 29, 1, bytesOf(0), true}, {"the most mutexes", 29, 1, bytesOf(64), true}, {"one more", 29, 1, bytesOf(65), false}, {"far more", 29, 1, bytesOf(1<<32 - 1), false},
		{"no conditions", 30, 1, bytesOf(0), true}, {"the most conditions", 30, 1, bytesOf(64), true}, {"one more", 30, 1, bytesOf(65), false}, {"far more", 30, 1, bytesOf(1<<32 - 1), false},
		{"no locals", 37, 1, bytesOf(0), true}, {"the most locals", 37, 1, bytesOf(32), true}, {"one more", 37, 1, bytesOf(33), false},
		{"no Code", 39, 1, []byte{0}, false}, {"behind the last Code", 45, 1, []byte{35}, false}, {"far behind", 45, 1, []byte{255}, false},
		{"another Code that names A", 45, 1, []byte{2}, true}, {"one that names nothing", 45, 1, []byte{34}, false}, {"one that names more", 45, 1, []byte{26}, false},
		{"another Code of two", 48, 1, []byte{8}, true},
		{"the greatest A", 40, 1, bytesOf(65535), true}, {"one more", 40, 1, bytesOf(65536), false},
		{"the greatest B", 41, 2, bytesOf(65535), true}, {"one more", 41, 2, bytesOf(65536), false},
		{"the greatest A of jump", 46, 2, bytesOf(65535), true}, {"one more", 46, 2, bytesOf(65536), false},
		{"the greatest Num", 44, 1, signed(greatest), true}, {"one more", 44, 1, signed(greatest + 1), false},
		{"the least Num", 44, 1, signed(least), true}, {"one less", 44, 1, signed(least - 1), false},
		{"all lines above", 49, 1, signed(3 + 65236), true}, {"one more", 49, 1, signed(3 + 65237), false}, {"the last line below none", 49, 1, signed(2), false}, {"the first line, too", 49, 1, signed(-1), false},
		{"the last line is the greatest", 53, 2, signed(65536 - 300), true}, {"one more", 53, 2, signed(65537 - 300), false},
		{"the last line is none", 53, 2, signed(-300), true}, {"below none", 53, 2, signed(-301), false},
		{"far more", 53, 2, signed(greatest), false}, {"far less", 53, 2, signed(least), false},
		{"a name of no bytes", 55, 3, []byte{0}, false}, {"a name of one", 55, 3, []byte{1, 'x'}, true},
		{"the longest name", 55, 3, append([]byte{16}, make([]byte, 16)...), true}, {"one longer", 55, 3, append([]byte{17}, make([]byte, 17)...), false},
	} {
		b := with(t, r.at, r.long, r.n...)
		if !r.may {
			wantRefused(t, r.what, b, api.ErrModule)
			continue
		}
		if again := encoded(t, decoded(t, b)); !bytes.Equal(again, b) {
			t.Errorf("%s: % x, and back % x", r.what, b, again)
		}
	}
}

// A line is told by how much it is above the one ahead: what is beyond the bounds in between may not be, even if all comes back.
func TestLinesThatComeBack(t *testing.T) {
	begin := []byte{0, 0, 0, 0, 0, 1, 1, 'x', 0, 2, 34, 34}
	lines := func(a, b int64) []byte { return warp(slices.Concat(begin, signed(a), signed(b))...) }
	for _, l := range [][2]int64{{65537, -65537}, {-1, 1}, {greatest, -greatest}, {least, greatest}, {least, least}, {greatest, greatest}, {65536, 1}, {0, 65537}} {
		wantRefused(t, fmt.Sprint(l), lines(l[0], l[1]), api.ErrModule)
	}
	for _, l := range [][2]int64{{65536, -65536}, {0, 65536}, {65536, 0}, {0, 0}, {1, -1}} {
		m := decoded(t, lines(l[0], l[1]))
		if want := []int{int(l[0]), int(l[0] + l[1])}; !slices.Equal(m.Threads[0].Lines, want) {
			t.Errorf("%v: lines %v; want %v", l, m.Threads[0].Lines, want)
		}
	}
}

// Lists that say more than there is, or may be.
func TestListsThatSayMore(t *testing.T) {
	for _, n := range []int64{1, 2, 64, 65, 127, 128, 65536, 65537, greatest, 1<<32 - 1} {
		for place := range 3 {
			body := slices.Concat(make([]byte, place), bytesOf(n), make([]byte, 5-place))
			if n > 5-int64(place) {
				wantRefused(t, fmt.Sprintf("list %d says %d", place, n), warp(body...), api.ErrModule)
			}
			wantRefused(t, fmt.Sprintf("list %d says %d, and nothing is behind it", place, n), warp(slices.Concat(make([]byte, place), bytesOf(n))...), api.ErrModule)
		}
		wantRefused(t, "threads", warp(slices.Concat(make([]byte, 5), bytesOf(n))...), api.ErrModule)
		wantRefused(t, "a name", warp(slices.Concat([]byte{0, 0, 0, 0, 0, 1}, bytesOf(n))...), api.ErrModule)
		wantRefused(t, "instructions", warp(slices.Concat([]byte{0, 0, 0, 0, 0, 1, 1, 'x', 0}, bytesOf(n))...), api.ErrModule)
		wantRefused(t, "instructions without lines", warp(slices.Concat([]byte{0, 0, 0, 0, 0, 1, 1, 'x', 0}, bytesOf(n), slices.Repeat([]byte{34}, int(min(n, 70000))))...), api.ErrModule)
	}
	// As many as there are, but more than there may be.
	list := func(n int, of ...byte) []byte { return slices.Concat(bytesOf(int64(n)), slices.Repeat(of, n)) }
	for _, r := range []struct {
		what string
		most int
		body func(n int) []byte
	}{
		{"variables", 64, func(n int) []byte { return slices.Concat(list(n, 1), []byte{0, 0, 0, 0, 0}) }},
		{"arrays", 64, func(n int) []byte { return slices.Concat([]byte{0}, list(n, 1), []byte{0, 0, 0, 0}) }},
		{"channels", 64, func(n int) []byte { return slices.Concat([]byte{0, 0}, list(n, 1), []byte{0, 0, 0}) }},
		{"threads", 64, func(n int) []byte { return slices.Concat(make([]byte, 5), list(n, 1, 'x', 0, 0)) }},
		{"bytes of a name", 16, func(n int) []byte { return slices.Concat(make([]byte, 5), []byte{1}, list(n, 'x'), []byte{0, 0}) }},
		{"instructions", 65536, func(n int) []byte {
			return slices.Concat(make([]byte, 5), []byte{1, 1, 'x', 0}, list(n, 34), make([]byte, n))
		}},
	} {
		b := warp(r.body(r.most)...)
		if again := encoded(t, decoded(t, b)); !bytes.Equal(again, b) {
			t.Errorf("the most %s: not the same and back", r.what)
		}
		wantRefused(t, "one more of "+r.what, warp(r.body(r.most+1)...), api.ErrModule)
		wantRefused(t, "many more of "+r.what, warp(r.body(10*r.most)...), api.ErrModule)
	}
}

// Lists of nothing are told as nil, as those of a zero module are.
func TestListsOfNothing(t *testing.T) {
	if m := decoded(t, warp(0, 0, 0, 3, 0, 1, 1, 'x', 0, 0)); !reflect.DeepEqual(m, api.Module{Mutexes: 3, Threads: []api.Code{{Name: "x"}}}) {
		t.Errorf("%#v", m)
	}
}

func TestTheBytesThatAreHandedInStayAndAreNotKept(t *testing.T) {
	all := append(encoded(t, rich()), "behind"...)
	b := all[:len(all)-6]
	before := slices.Clone(all)
	first, second := decoded(t, b), decoded(t, b)
	if !bytes.Equal(all, before) {
		t.Errorf("% x is % x now", before, all)
	}
	for i := range all {
		all[i] = 'z'
	}
	if !reflect.DeepEqual(first, rich()) {
		t.Errorf("what was told hangs on the bytes: %v", first)
	}
	spoil(first.Vars, 9)
	spoil(first.Arrays, 9)
	spoil(first.Chans, 9)
	for _, c := range first.Threads {
		spoil(c.Ins, api.Ins{Code: 9})
		spoil(c.Lines, 9)
	}
	spoil(first.Threads, api.Code{Name: "z"})
	if !reflect.DeepEqual(second, rich()) {
		t.Errorf("two answers share: %v", second)
	}
}

// No two lists of one answer share any.
func TestListsOfAnAnswerArePart(t *testing.T) {
	twice := rich()
	twice.Threads[1] = twice.Threads[0]
	b := encoded(t, twice)
	lists := func(m *api.Module) []*[]int {
		return []*[]int{&m.Arrays, &m.Chans, &m.Threads[0].Lines, &m.Threads[1].Lines}
	}
	for i := range lists(&twice) {
		m := decoded(t, b)
		spoil(*lists(&m)[i], 1000)
		for j, l := range lists(&m) {
			if j != i && !slices.Equal(*l, *lists(&twice)[j]) {
				t.Errorf("list %d is changed with list %d", j, i)
			}
		}
	}
	m := decoded(t, b)
	spoil(m.Threads[0].Ins, api.Ins{Code: 9})
	if !slices.Equal(m.Threads[1].Ins, twice.Threads[1].Ins) {
		t.Error("instructions of two threads share")
	}
}
