package source_test

import (
	"fmt"
	"slices"
	"strings"
	"testing"

	"warp/api"
	"warp/source"
)

// The steps of each kind of statement: P5.1.

func TestTheChaptersExamples(t *testing.T) {
	for _, r := range []struct {
		text, steps, end string
		picks            []int
	}{
		{"var x = 1; thread main { x = x + 1; print x; }", "0.0 r0=1 w0=2; 0.1 r0=2 told 2 end", "done", []int{0, 0}},
		{"thread main { spawn t; join; } thread t { }", "0.0 spawn 1; 0.1 join 1 end", "done", []int{0, 0}},
		{"mutex m; thread main { lock m; lock m; }", "0.0 lock 0; 0.1 trap 4", "trap 4 by 0 at 1", []int{0, 0}},
	} {
		l, end := made(t, r.text).Run(r.picks...)
		if toldAll(l) != r.steps || outcome(end) != r.end {
			t.Errorf("%s: %s, %s", r.text, toldAll(l), outcome(end))
		}
	}
}

// What things are named stands in no answer: the slots do.
const things = "var x = 5; var y = -7; var z = 0; array a 2; array b 3; mutex m; mutex n; cond c; cond d; chan q 1; chan r 2; "

func TestLetAndSet(t *testing.T) {
	wantRows(t,
		row{things + "thread main { let u = 3; }", "0", "0.0 end", "done"},
		row{things + "thread main { let u = y; z = u; u = x; z = u + u; print z; }", "0 0 0 0 0",
			"0.0 r1=-7; 0.1 w2=-7; 0.2 r0=5; 0.3 w2=10; 0.4 r2=10 told 10 end", "done"},
		row{things + "thread main { x = x; y = 2147483647; y = -y - 1; print y; }", "0 0 0 0",
			"0.0 r0=5 w0=5; 0.1 w1=2147483647; 0.2 r1=2147483647 w1=-2147483648; 0.3 r1=-2147483648 told -2147483648 end", "done"},
		// A slot is taken again behind a block; what is in it stays there till then.
		row{things + "thread main { let u = 1; if 1 { let v = 2; let w = 3; } let v = u; print v; }", "0 0 0 0 0 0",
			"0.0; 0.1 value 1; 0.2; 0.3; 0.4; 0.5 told 1 end", "done"},
	)
	s := made(t, things+"thread main { let u = 1; if 1 { let v = 2; let w = 3; } let v = u + 6; print v; }")
	for i, want := range []string{"0 goes [0 0 0] 0 []", "0 goes [1 0 0] 1 []", "0 goes [1 0 0] 2 []", "0 goes [1 2 0] 3 []", "0 goes [1 2 3] 4 []", "0 goes [1 7 3] 5 []", "0 ended [1 7 3] -1 []"} {
		if i > 0 {
			play(t, s, 0)
		}
		if got := threads(s); !slices.Equal(got, []string{want}) {
			t.Errorf("behind %d steps %q; want %q", i, got, want)
		}
	}
}

func TestPut(t *testing.T) {
	wantRows(t,
		// Cells are behind all variables, arrays one behind the other.
		row{things + "thread main { a[0] = 1; a[1] = 2; b[0] = 3; b[2] = a[1] + b[0]; }", "0 0 0 0",
			"0.0 w3=1; 0.1 w4=2; 0.2 w5=3; 0.3 r4=2 r5=3 w7=5 end", "done"},
		// The index is worked out first, then the expression; the index is asked behind both.
		row{things + "thread main { b[z + 1] = x + y; }", "0", "0.0 r2=0 r0=5 r1=-7 w6=-2 end", "done"},
		row{things + "thread main { b[b[x - 3]] = b[0]; }", "0", "0.0 r0=5 r7=0 r5=0 w5=0 end", "done"},
		row{things + "thread main { b[x] = y; }", "0", "0.0 trap 3 r0=5 r1=-7", "trap 3 by 0 at 0"},
		row{things + "thread main { b[3] = 1 / z; }", "0", "0.0 trap 1 r2=0", "trap 1 by 0 at 0"},
		row{things + "thread main { b[1 / z] = x; }", "0", "0.0 trap 1 r2=0", "trap 1 by 0 at 0"},
		row{things + "thread main { a[2] = 0; }", "0", "0.0 trap 3", "trap 3 by 0 at 0"},
		row{things + "thread main { a[-1] = 0; }", "0", "0.0 trap 3", "trap 3 by 0 at 0"},
		row{things + "thread main { a[2147483647] = 0; }", "0", "0.0 trap 3", "trap 3 by 0 at 0"},
		row{things + "thread main { a[-2147483647 - 1] = 0; }", "0", "0.0 trap 3", "trap 3 by 0 at 0"},
	)
}

func TestIfAndWhile(t *testing.T) {
	wantRows(t,
		row{things + "thread main { if x { print 1; } else { print 2; } }", "0 0", "0.0 r0=5 value 5; 0.1 told 1 end", "done"},
		row{things + "thread main { if z { print 1; } else { print 2; } }", "0 0", "0.0 r2=0; 0.2 told 2 end", "done"},
		row{things + "thread main { if y { print 1; } print 3; }", "0 0 0", "0.0 r1=-7 value -7; 0.1 told 1; 0.2 told 3 end", "done"},
		row{things + "thread main { if z { print 1; } print 3; }", "0 0", "0.0 r2=0; 0.2 told 3 end", "done"},
		row{things + "thread main { if z { print 1; } }", "0", "0.0 r2=0 end", "done"},
		row{things + "thread main { if 1 { } else { print 1; } }", "0", "0.0 value 1 end", "done"},
		row{things + "thread main { if 0 { } }", "0", "0.0 end", "done"},
		row{things + "thread main { while 0 { print 1; } }", "0", "0.0 end", "done"},
		row{things + "thread main { while 1 { } }", "0 0 0", "0.0 value 1; 0.0 value 1; 0.0 value 1", "goes"},
		row{things + "thread main { while z < 2 { z = z + 1; print z; } print 9; }", "0 0 0 0 0 0 0 0",
			"0.0 r2=0 value 1; 0.1 r2=0 w2=1; 0.2 r2=1 told 1; 0.0 r2=1 value 1; 0.1 r2=1 w2=2; 0.2 r2=2 told 2; 0.0 r2=2; 0.3 told 9 end", "done"},
		row{things + "thread main { while x - 4 { x = x - 1; } }", "0 0 0", "0.0 r0=5 value 1; 0.1 r0=5 w0=4; 0.0 r0=4 end", "done"},
		row{things + "thread main { while y + 5 { y = y + 1; } }", "0 0 0 0 0", "0.0 r1=-7 value -2; 0.1 r1=-7 w1=-6; 0.0 r1=-6 value -1; 0.1 r1=-6 w1=-5; 0.0 r1=-5 end", "done"},
		// Blocks one in the other.
		row{things + "thread main { while x { if y { while z { } y = 0; } else { x = 0; } } join; }", "0 0 0 0 0 0 0 0 0",
			"0.0 r0=5 value 5; 0.1 r1=-7 value -7; 0.2 r2=0; 0.3 w1=0; 0.0 r0=5 value 5; 0.1 r1=0; 0.4 w0=0; 0.0 r0=0; 0.5 end", "done"},
		// A trap in what is asked.
		row{things + "thread main { if 1 / z { } }", "0", "0.0 trap 1 r2=0", "trap 1 by 0 at 0"},
		row{things + "thread main { join; while x * 1000000000 { } }", "0 0", "0.0; 0.1 trap 2 r0=5", "trap 2 by 0 at 1"},
	)
}

func TestMutexes(t *testing.T) {
	two := things + "thread main { spawn t; lock n; lock m; unlock n; unlock m; } thread t { lock m; unlock m; lock m; unlock m; }"
	wantRows(t,
		row{two, "0 0 0 0 0 1 1 1 1", "0.0 spawn 1; 0.1 lock 1; 0.2 lock 0; 0.3 unlock 1; 0.4 unlock 0 end; 1.5 lock 0; 1.6 unlock 0; 1.7 lock 0; 1.8 unlock 0 end", "done"},
		row{two, "0 1 0 1 0 0 0 1 1", "0.0 spawn 1; 1.5 lock 0; 0.1 lock 1; 1.6 unlock 0; 0.2 lock 0; 0.3 unlock 1; 0.4 unlock 0 end; 1.7 lock 0; 1.8 unlock 0 end", "done"},
		row{things + "thread main { lock n; lock n; }", "0 0", "0.0 lock 1; 0.1 trap 4", "trap 4 by 0 at 1"},
		row{things + "thread main { unlock m; }", "0", "0.0 trap 4", "trap 4 by 0 at 0"},
		row{things + "thread main { lock m; unlock n; }", "0 0", "0.0 lock 0; 0.1 trap 4", "trap 4 by 0 at 1"},
		row{things + "thread main { lock m; unlock m; unlock m; }", "0 0 0", "0.0 lock 0; 0.1 unlock 0; 0.2 trap 4", "trap 4 by 0 at 2"},
		// Another's.
		row{things + "thread main { lock m; spawn t; } thread t { unlock m; }", "0 0 1", "0.0 lock 0; 0.1 spawn 1 end; 1.2 trap 4", "trap 4 by 1 at 2"},
		// Of one that ended with it nobody gets it.
		row{things + "thread main { spawn t; lock m; } thread t { lock m; }", "0 1", "0.0 spawn 1; 1.2 lock 0 end", "stuck"},
	)
}

func TestConditions(t *testing.T) {
	one := things + "thread main { spawn t; spawn t; lock m; signal d; signal d; unlock m; } thread t { lock m; wait d m; print 1; }"
	wantRows(t,
		// Who wakes has the mutex again first.
		row{one, "0 0 1 1 2 2 0 0 0 0 1 1", "0.0 spawn 1; 0.1 spawn 2; 1.6 lock 0; 1.7 unlock 0; 2.6 lock 0; 2.7 unlock 0; 0.2 lock 0; 0.3 signal 1 1; 0.4 signal 1 2; 0.5 unlock 0 end; 1.7 woke lock 0; 1.8 told 1 end", "stuck"},
		// The one that waits longest.
		row{one, "0 0 2 2 1 1 0 0", "0.0 spawn 1; 0.1 spawn 2; 2.6 lock 0; 2.7 unlock 0; 1.6 lock 0; 1.7 unlock 0; 0.2 lock 0; 0.3 signal 1 2", "goes"},
		// Where nobody waits a signal does nothing, and is not kept.
		row{one, "0 0 0 0 0 0 1 1 2 2", "0.0 spawn 1; 0.1 spawn 2; 0.2 lock 0; 0.3; 0.4; 0.5 unlock 0 end; 1.6 lock 0; 1.7 unlock 0; 2.6 lock 0; 2.7 unlock 0", "stuck"},
		row{strings.ReplaceAll(one, "signal d; signal d;", "all d; all c;"), "0 0 2 2 1 1 0 0 0 0 1 1", "0.0 spawn 1; 0.1 spawn 2; 2.6 lock 0; 2.7 unlock 0; 1.6 lock 0; 1.7 unlock 0; 0.2 lock 0; 0.3 signal 1 2 signal 1 1; 0.4; 0.5 unlock 0 end; 1.7 woke lock 0; 1.8 told 1 end", "stuck"},
		// A signal asks no mutex.
		row{things + "thread main { signal c; all d; }", "0 0", "0.0; 0.1 end", "done"},
		row{things + "thread main { wait c m; }", "0", "0.0 trap 4", "trap 4 by 0 at 0"},
		row{things + "thread main { lock n; wait c m; }", "0 0", "0.0 lock 1; 0.1 trap 4", "trap 4 by 0 at 1"},
		row{things + "thread main { lock m; lock n; wait d n; }", "0 0 0", "0.0 lock 0; 0.1 lock 1; 0.2 unlock 1", "stuck"},
		// A wait that is last: it is not the last step, but the one that wakes is.
		row{things + "thread main { spawn t; lock n; wait c n; } thread t { signal c; }", "0 0 0 1 0", "0.0 spawn 1; 0.1 lock 1; 0.2 unlock 1; 1.3 signal 0 0 end; 0.2 woke lock 1 end", "done"},
		row{"var n = 0; mutex m; cond c; thread main { spawn t; lock m; while n == 0 { wait c m; } print n; unlock m; } thread t { lock m; n = 3; signal c; unlock m; }", "0 0 0 0 1 1 1 1 0 0 0 0",
			"0.0 spawn 1; 0.1 lock 0; 0.2 r0=0 value 1; 0.3 unlock 0; 1.6 lock 0; 1.7 w0=3; 1.8 signal 0 0; 1.9 unlock 0 end; 0.3 woke lock 0; 0.2 r0=3; 0.4 r0=3 told 3; 0.5 unlock 0 end", "done"},
	)
}

func TestChannels(t *testing.T) {
	wantRows(t,
		row{things + "thread main { send r x; send r y + 1; recv r z; let u = 0; recv r u; print u; send r 1; }", "0 0 0 0 0 0 0",
			"0.0 r0=5 send 1 0; 0.1 r1=-7 send 1 1; 0.2 w2=5 recv 1 0; 0.3; 0.4 recv 1 1; 0.5 told -6; 0.6 send 1 2 end", "done"},
		// Each channel has numbers of its own.
		row{things + "thread main { send q 1; send r 2; recv q x; send q 3; recv q x; recv r y; }", "0 0 0 0 0 0",
			"0.0 send 0 0; 0.1 send 1 0; 0.2 w0=1 recv 0 0; 0.3 send 0 1; 0.4 w0=3 recv 0 1; 0.5 w1=2 recv 1 0 end", "done"},
		row{things + "thread main { send q 1; send q 2; }", "0", "0.0 send 0 0", "stuck"},
		row{things + "thread main { send q 2147483647; recv q y; send q -y - 1; recv q y; }", "0 0 0 0",
			"0.0 send 0 0; 0.1 w1=2147483647 recv 0 0; 0.2 r1=2147483647 send 0 1; 0.3 w1=-2147483648 recv 0 1 end", "done"},
		row{things + "thread main { recv q x; }", "", "", "stuck"},
		row{things + "thread main { send q b[x]; }", "0", "0.0 trap 3 r0=5", "trap 3 by 0 at 0"},
		// A place is asked ahead of the value: where there is no room nothing is worked out.
		row{things + "thread main { send q 1; send q 1 / 0; }", "0", "0.0 send 0 0", "stuck"},
		// The second waits until the first is received.
		row{things + "thread main { spawn t; send q 1; send q 2; } thread t { recv q x; recv q y; }", "0 0 1 0 1", "0.0 spawn 1; 0.1 send 0 0; 1.3 w0=1 recv 0 0; 0.2 send 0 1 end; 1.4 w1=2 recv 0 1 end", "done"},
	)
}

func TestSpawnAndJoin(t *testing.T) {
	wantRows(t,
		row{things + "thread main { join; }", "0", "0.0 end", "done"},
		row{things + "thread main { spawn t; spawn u; spawn t; join; join; } thread t { } thread u { print 4; }", "0 0 0 2 0 0",
			"0.0 spawn 1; 0.1 spawn 2; 0.2 spawn 3; 2.5 told 4 end; 0.3 join 1 join 2 join 3; 0.4 join 1 join 2 join 3 end", "done"},
		// Who is spawned by another is not asked.
		row{things + "thread t { spawn u; spawn u; join; } thread main { spawn t; spawn u; join; } thread u { print 1; }", "0 1 0 1 3 2 4 1 0",
			"0.3 spawn 1; 1.0 spawn 2; 0.4 spawn 3; 1.1 spawn 4; 3.6 told 1 end; 2.6 told 1 end; 4.6 told 1 end; 1.2 join 2 join 4 end; 0.5 join 1 join 3 end", "done"},
		row{things + "thread main { spawn t; join; } thread t { recv q x; }", "0", "0.0 spawn 1", "stuck"},
		// One that was joined may be of those that ended long ago.
		row{things + "thread main { spawn t; print 1; spawn t; join; } thread t { let u = 3; print u; }", "0 1 1 0 0 2 2 0",
			"0.0 spawn 1; 1.4; 1.5 told 3 end; 0.1 told 1; 0.2 spawn 2; 2.4; 2.5 told 3 end; 0.3 join 1 join 2 end", "done"},
		// A thread may spawn its own declaration, and main's.
		row{things + "thread main { if z == 2 { } else { z = z + 1; spawn main; } }", "0 0 0 1 1 1 2", "0.0 r2=0; 0.1 r2=0 w2=1; 0.2 spawn 1 end; 1.0 r2=1; 1.1 r2=1 w2=2; 1.2 spawn 2 end; 2.0 r2=2 value 1 end", "done"},
	)
}

func TestThereAreSoManyThreadsAtMost(t *testing.T) {
	// Those that are ended count, too.
	for _, body := range []string{"", "print 1;"} {
		s := made(t, "thread main { while 1 { spawn t; } } thread t { "+body+" }")
		for i := 1; i < api.MaxThreads; i++ {
			if got, want := play(t, s, 0, 0), fmt.Sprintf("0.0 value 1; 0.1 spawn %d", i); got != want {
				t.Errorf("%s; want %s", got, want)
			}
			if s.Threads() != i+1 {
				t.Errorf("%d threads; want %d", s.Threads(), i+1)
			}
		}
		if got := play(t, s, 0, 0); got != "0.0 value 1; 0.1 trap 5" || outcome(s.Outcome()) != "trap 5 by 0 at 1" || s.Threads() != api.MaxThreads {
			t.Errorf("%s, %s, %d threads", got, outcome(s.Outcome()), s.Threads())
		}
		wantOver(t, s)
	}
	// By whomever: of those that others spawned no more are there.
	s := made(t, "thread main { spawn main; }")
	if got := play(t, s, 0, 1, 2, 3, 4, 5, 6, 7); !strings.HasSuffix(got, "; 6.0 spawn 7 end; 7.0 trap 5") || outcome(s.Outcome()) != "trap 5 by 7 at 0" {
		t.Error(got, outcome(s.Outcome()))
	}
}

func TestPrint(t *testing.T) {
	wantRows(t,
		row{things + "thread main { print 0; }", "0", "0.0 told 0 end", "done"},
		row{things + "thread main { print -x; print y; }", "0 0", "0.0 r0=5 told -5; 0.1 r1=-7 told -7 end", "done"},
		row{things + "thread main { print x / z; print 1; }", "0", "0.0 trap 1 r0=5 r2=0", "trap 1 by 0 at 0"},
	)
}

func TestAThreadWithoutStatementsIsEndedAsItIsSpawned(t *testing.T) {
	s := made(t, "thread main { }")
	if s.Threads() != 1 || outcome(s.Outcome()) != "done" || !slices.Equal(threads(s), []string{"0 ended [] -1 []"}) {
		t.Error(threads(s), outcome(s.Outcome()))
	}
	wantOver(t, s)
	s = made(t, "thread t { } thread main { spawn t; print 1; }")
	if got := play(t, s, 0); got != "0.0 spawn 1" || !slices.Equal(threads(s), []string{"1 goes [] 1 [1]", "0 ended [] -1 []"}) || !slices.Equal(s.Can(), []int{0}) {
		t.Error(got, threads(s), s.Can())
	}
}

// What expressions are worth, and which cells they read.
func TestExpressions(t *testing.T) {
	const low = "(-2147483647 - 1)"
	for _, r := range []struct{ expr, want string }{
		{"7", "told 7"}, {"2147483647", "told 2147483647"}, {low, "told -2147483648"},
		{"x", "r0=5 told 5"}, {"u", "told 9"}, {"b[0]", "r5=0 told 0"}, {"b[x - 4]", "r0=5 r6=8 told 8"}, {"a[b[1] - 7]", "r6=8 r4=6 told 6"},
		{"b[3]", "trap 3"}, {"b[-1]", "trap 3"}, {"a[2]", "trap 3"}, {"b[x]", "trap 3 r0=5"}, {"b[" + low + "]", "trap 3"},
		{"-x", "r0=5 told -5"}, {"-y", "r1=-7 told 7"}, {"--x", "r0=5 told 5"}, {"-0", "told 0"}, {"-" + low, "trap 2"}, {"-2147483647", "told -2147483647"},
		{"!x", "r0=5 told 0"}, {"!z", "r2=0 told 1"}, {"!!x", "r0=5 told 1"}, {"!-1", "told 0"}, {"!" + low, "told 0"},
		{"x || y", "r0=5 told 1"}, {"z || y", "r2=0 r1=-7 told 1"}, {"z || z", "r2=0 r2=0 told 0"}, {"2 || 1 / 0", "told 1"}, {"0 || 1 / 0", "trap 1"}, {"-3 || b[9]", "told 1"},
		{"x && y", "r0=5 r1=-7 told 1"}, {"z && y", "r2=0 told 0"}, {"x && z", "r0=5 r2=0 told 0"}, {"0 && 1 / 0", "told 0"}, {"3 && 1 / 0", "trap 1"}, {"1 && 2 && 3", "told 1"},
		{"1 / z || x", "trap 1 r2=0"}, {"z || y && x", "r2=0 r1=-7 r0=5 told 1"}, {"x && z || y", "r0=5 r2=0 r1=-7 told 1"},
		{"x == 5", "r0=5 told 1"}, {"x == y", "r0=5 r1=-7 told 0"}, {"x != 5", "r0=5 told 0"}, {"x != y", "r0=5 r1=-7 told 1"},
		{"x < 5", "r0=5 told 0"}, {"x < 6", "r0=5 told 1"}, {"y < x", "r1=-7 r0=5 told 1"}, {"x < y", "r0=5 r1=-7 told 0"}, {low + " < 2147483647", "told 1"},
		{"x <= 5", "r0=5 told 1"}, {"x <= 4", "r0=5 told 0"}, {"y <= x", "r1=-7 r0=5 told 1"}, {"2147483647 <= " + low, "told 0"},
		{"x + y", "r0=5 r1=-7 told -2"}, {"2147483647 + 0", "told 2147483647"}, {"2147483647 + 1", "trap 2"}, {low + " + -1", "trap 2"}, {low + " + " + low, "trap 2"}, {low + " + 2147483647", "told -1"},
		{"x - y", "r0=5 r1=-7 told 12"}, {low + " - 0", "told -2147483648"}, {low + " - 1", "trap 2"}, {"2147483647 - -1", "trap 2"}, {"0 - " + low, "trap 2"}, {"-1 - " + low, "told 2147483647"},
		{"x * y", "r0=5 r1=-7 told -35"}, {"46341 * 46341", "trap 2"}, {"46340 * 46341", "told 2147441940"}, {low + " * " + low, "trap 2"}, {low + " * -1", "trap 2"}, {low + " * 1", "told -2147483648"}, {"65536 * -32768", "told -2147483648"}, {"2147483647 * 2147483647", "trap 2"}, {low + " * 0", "told 0"},
		{"y / 2", "r1=-7 told -3"}, {"7 / -2", "told -3"}, {"-7 / -2", "told 3"}, {"x / 2", "r0=5 told 2"}, {low + " / -1", "trap 2"}, {low + " / 1", "told -2147483648"}, {"x / z", "trap 1 r0=5 r2=0"}, {"0 / 0", "trap 1"}, {"z / x", "r2=0 r0=5 told 0"},
		{"y % 2", "r1=-7 told -1"}, {"7 % -2", "told 1"}, {"-7 % -2", "told -1"}, {"x % 5", "r0=5 told 0"}, {low + " % -1", "told 0"}, {"x % z", "trap 1 r0=5 r2=0"}, {low + " % 0", "trap 1"}, {"3 % " + low, "told 3"},
		// Each part is worked out ahead of what is made of it, from the left.
		{"1 / 0 + b[9]", "trap 1"}, {"b[9] + 1 / 0", "trap 3"}, {"2147483647 + 1 + 1 / 0", "trap 2"}, {"x + y / z", "trap 1 r0=5 r1=-7 r2=0"}, {"x * 2147483647 + y", "trap 2 r0=5"},
		{"x - y - z", "r0=5 r1=-7 r2=0 told 12"}, {"x - (y - x)", "r0=5 r1=-7 r0=5 told 17"}, {"x + x * x", "r0=5 r0=5 r0=5 told 30"}, {"(x || 1) + (z == 0)", "r0=5 r2=0 told 2"},
		{"b[1 / z]", "trap 1 r2=0"}, {"u * u - u", "told 72"},
	} {
		s := made(t, things+"thread main { let u = 9; b[1] = 8; a[1] = 6; print "+r.expr+"; }")
		play(t, s, 0, 0, 0)
		before := s.Copy()
		got := strings.TrimSuffix(strings.TrimPrefix(play(t, s, 0), "0.3 "), " end")
		if got != r.want {
			t.Errorf("%s: %s; want %s", r.expr, got, r.want)
		}
		if strings.HasPrefix(r.want, "trap") {
			wantTrapped(t, before, s)
		}
	}
}

// wantTrapped: a trap leaves all as it was but for the outcome.
func wantTrapped(t *testing.T, before, s *source.State) {
	t.Helper()
	if !slices.Equal(before.Cells(), s.Cells()) || !slices.Equal(threads(before), threads(s)) || !sameSync(before, s) {
		t.Errorf("a trap left %v %v; there was %v %v", s.Cells(), threads(s), before.Cells(), threads(before))
	}
	if s.Outcome().Kind != api.RunTrap || source.Same(before, s) {
		t.Error("no trap is kept")
	}
	wantOver(t, s)
}

func TestEachTrapLeavesAllAsItWas(t *testing.T) {
	for _, last := range []string{
		"x = 1 / 0;", "let v = 2147483647 + 1;", "a[2] = x;", "a[0] = b[3];", "if 0 % 0 { print 1; }", "while a[-1] { }", "lock m;", "unlock n;", "wait c n;", "wait c k;", "unlock k;",
		"send r 1 / 0;", "spawn t;", "print b[x];", "u = x / z;",
	} {
		text := things + "mutex k; thread main { let u = 4; spawn w; spawn t; spawn t; spawn t; spawn t; spawn t; spawn t; lock m; x = 6; b[1] = 2; send r 3; " + last + " print 1; } thread t { lock k; join; } thread w { lock n; wait d n; }"
		s := made(t, text)
		play(t, s, 0, 0, 1, 1, 0, 0, 0, 0, 0, 0, 2, 0, 0, 0, 0)
		before := s.Copy()
		ev, e := s.Do(0)
		if e != api.OK || ev.Trap == api.TrapNone || ev.Told || ev.Out != 0 || ev.Value != 0 || ev.Woke || len(ev.Syncs) != 0 {
			t.Errorf("%s: %+v, %v", last, ev, e)
		}
		if got := s.Outcome(); got != (api.Outcome{Kind: api.RunTrap, Trap: ev.Trap, Thread: 0, Stmt: 12}) || ev.Stmt != 12 || ev.Thread != 0 {
			t.Errorf("%s: %+v, %+v", last, got, ev)
		}
		wantTrapped(t, before, s)
	}
}
