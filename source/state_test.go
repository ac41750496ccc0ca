package source_test

import (
	"fmt"
	"regexp"
	"slices"
	"strings"
	"testing"

	"warp/api"
	"warp/names"
	"warp/source"
	"warp/sync"
)

func sameSync(a, b *source.State) bool { return sync.Same(a.Sync(), b.Sync()) }

// P5.1: which threads can go on, behind each step.
func TestCan(t *testing.T) {
	for _, r := range []struct{ text, steps string }{
		// Each step: whose, and who can go on behind it.
		{"thread main { spawn t; print 1; } thread t { print 2; print 3; }", "0>0 1; 1>0 1; 0>1; 1>"},
		{"mutex m; thread main { spawn t; lock m; print 1; unlock m; print 2; } thread t { print 3; lock m; unlock m; }", "0>0 1; 0>0 1; 1>0; 0>0; 0>0 1; 1>0 1; 0>1; 1>"},
		// The thread itself can go on to lock its mutex, and unlock another's: these are traps.
		{"mutex m; thread main { spawn t; lock m; lock m; } thread t { unlock m; }", "0>0 1; 0>0 1; 0>"},
		{"mutex m; thread main { spawn t; lock m; lock m; } thread t { unlock m; }", "0>0 1; 0>0 1; 1>"},
		{"chan q 2; var x = 0; thread main { spawn t; send q 1; send q 2; send q 3; send q 4; } thread t { recv q x; recv q x; recv q x; recv q x; }", "0>0; 0>0 1; 0>1; 1>0 1; 0>1; 1>0 1; 0>1; 1>1; 1>"},
		{"chan q 1; var x = 0; thread main { spawn t; send q 1; send q 2; recv q x; } thread t { recv q x; }", "0>0; 0>1; 1>0; 0>0; 0>"},
		{"thread main { spawn t; spawn u; join; print 1; } thread t { print 2; } thread u { spawn t; }", "0>0 1; 0>1 2; 1>2; 2>0 3; 0>0 3; 3>0; 0>"},
		// Who waits can't; who wakes can, if nobody has the mutex, not even itself.
		{"mutex m; cond c; thread main { lock m; spawn t; spawn t; wait c m; unlock m; } thread t { lock m; all c; print 5; unlock m; }", "0>0; 0>0; 0>0; 0>1 2; 2>2; 2>2; 2>2; 2>0 1; 1>1; 1>1; 1>1; 1>0; 0>0; 0>"},
		{"mutex m; mutex n; cond c; thread main { spawn t; lock n; lock m; wait c m; print 1; } thread t { signal c; signal c; signal c; lock m; }", "0>0 1; 0>0 1; 1>0 1; 0>0 1; 0>1; 1>0 1; 1>0 1; 0>0; 0>"},
		// One that ended with a mutex has it.
		{"mutex m; thread main { spawn t; lock m; } thread t { lock m; }", "0>0 1; 0>"},
		{"thread main { while 1 { join; } }", "0>0; 0>0; 0>0"},
		{"thread main { }", ""},
		{"chan q 1; var x = 0; thread main { recv q x; }", ""},
	} {
		s := made(t, r.text)
		if r.steps == "" && len(s.Can()) != 0 {
			t.Errorf("%s: %v can go on", r.text, s.Can())
		}
		for part := range strings.SplitSeq(r.steps, ";") {
			who, can, _ := strings.Cut(part, ">")
			play(t, s, numbers(t, who)...)
			if got := s.Can(); !slices.Equal(got, numbers(t, can)) {
				t.Errorf("%s\n%s at %s: %v can go on", r.text, r.steps, part, got)
			}
			if goes := outcome(s.Outcome()) == "goes"; goes != (can != "") {
				t.Errorf("%s\n%s at %s: it stands %q", r.text, r.steps, part, outcome(s.Outcome()))
			}
			if can == "" {
				wantOver(t, s)
			}
		}
	}
}

const five = "thread main { spawn t; spawn t; spawn t; recv q x; } thread t { print 1; print 2; } chan q 1; var x = 0;"

// P5.1: Step picks among the threads that can go on, modulo how many these are.
func TestPicks(t *testing.T) {
	begin := func() *source.State {
		s := made(t, five)
		play(t, s, 0, 0, 0, 2)
		return s // 1, 2, 3 can go on
	}
	for _, pick := range []int{0, 1, 2, 3, 4, 5, 299, 300, -1, -2, -3, -4, -300, -301, minInt, minInt + 1, minInt + 2, maxInt, maxInt - 1, maxInt - 2, 1 << 32, -1 << 32, 1<<31 + 1} {
		can := begin().Can()
		if !slices.Equal(can, []int{1, 2, 3}) {
			t.Fatal(can)
		}
		// As the modulo of Go's is below 0 for such numbers, it is said by other means here.
		want := pick % 3
		for want < 0 {
			want += 3
		}
		s, other := begin(), begin()
		ev, e := s.Step(pick)
		same, _ := other.Do(can[want])
		if e != api.OK || ev.Thread != can[want] || told(ev) != told(same) || !source.Same(s, other) {
			t.Errorf("Step(%d): %s, %v; want thread %d", pick, told(ev), e, can[want])
		}
		// Run does the same.
		s = begin()
		if l, _ := s.Run(pick); len(l) != 1 || told(l[0]) != told(ev) || !source.Same(s, other) {
			t.Errorf("Run(%d): %s", pick, toldAll(l))
		}
	}
	// Of one there is nothing to pick.
	for _, pick := range []int{0, 1, -1, minInt, maxInt} {
		if ev, e := made(t, five).Step(pick); e != api.OK || ev.Thread != 0 {
			t.Errorf("Step(%d): %v, %v", pick, ev, e)
		}
	}
}

func TestRun(t *testing.T) {
	s := made(t, five)
	if l, end := s.Run(); len(l) != 0 || outcome(end) != "goes" || !source.Same(s, made(t, five)) {
		t.Errorf("no picks: %s, %s", toldAll(l), outcome(end))
	}
	l, end := s.Run(0, 0, 1)
	if toldAll(l) != "0.0 spawn 1; 0.1 spawn 2; 1.4 told 1" || outcome(end) != "goes" {
		t.Errorf("%s, %s", toldAll(l), outcome(end))
	}
	// It goes on from where it is, and up to the end: what is picked behind it is nothing.
	if l, end = s.Run(-3, -2, 7, 1, 1, 0, 9, 9, 9, 9, 9); toldAll(l) != "0.2 spawn 3; 2.4 told 1; 2.5 told 2 end; 3.4 told 1; 3.5 told 2 end; 1.5 told 2 end" || outcome(end) != "stuck" {
		t.Errorf("%s, %s", toldAll(l), outcome(end))
	}
	wantOver(t, s)
	// A trap is told, and the end.
	if l, end = made(t, "thread main { print 1; print 1 / 0; print 2; }").Run(0, 0, 0, 0); toldAll(l) != "0.0 told 1; 0.1 trap 1" || outcome(end) != "trap 1 by 0 at 1" {
		t.Errorf("%s, %s", toldAll(l), outcome(end))
	}
	// A list that is handed in stays.
	picks := []int{5, -5, 3, 8, 9}
	made(t, five).Run(picks[:3]...)
	if !slices.Equal(picks, []int{5, -5, 3, 8, 9}) {
		t.Errorf("%v", picks)
	}
}

// P5.1: which errors of Do are told, and which first.
func TestDo(t *testing.T) {
	s := made(t, five)
	for _, n := range []int{1, 2, -1, 8, minInt, maxInt, 1 << 32} {
		ev, e := s.Do(n)
		wantZero(t, ev, e, api.ErrArg)
	}
	play(t, s, 0, 0, 0, 1, 1)
	for n, want := range map[int]api.Errno{0: api.ErrBlocked, 1: api.ErrBlocked, 4: api.ErrArg, -1: api.ErrArg, maxInt: api.ErrArg} {
		before := s.Copy()
		ev, e := s.Do(n)
		wantZero(t, ev, e, want)
		if !source.Same(s, before) {
			t.Errorf("Do(%d) was refused, and changed something", n)
		}
	}
	if got := play(t, s, 3, 2, 3, 2); got != "3.4 told 1; 2.4 told 1; 3.5 told 2 end; 2.5 told 2 end" || outcome(s.Outcome()) != "stuck" {
		t.Error(got, outcome(s.Outcome()))
	}
	wantOver(t, s)
	// Where no thread can go on that is told ahead of which can't.
	ev, e := s.Do(0)
	wantZero(t, ev, e, api.ErrEnd)
	ev, e = s.Do(4)
	wantZero(t, ev, e, api.ErrArg)
	// Who waits, who wakes and does not get the mutex.
	s = made(t, "mutex m; cond c; thread main { lock m; spawn t; wait c m; } thread t { lock m; signal c; print 1; }")
	play(t, s, 0, 0, 0)
	ev, e = s.Do(0)
	wantZero(t, ev, e, api.ErrBlocked)
	play(t, s, 1, 1)
	ev, e = s.Do(0)
	wantZero(t, ev, e, api.ErrBlocked)
}

// P5.2: cells, threads, what a thread is like.
func TestWhatAStateTells(t *testing.T) {
	text := "array a 2; var x = -2147483647; thread t { let u = 1; let v = 2; lock m; wait c m; } var y = 7; mutex m; cond c; chan q 3; array b 1; thread main { let k = 3; spawn t; spawn t; b[0] = 4; a[1] = 5; lock m; all c; unlock m; join; }"
	p := found(t, text)
	s := begun(t, p)
	if source.Cells(p) != 5 || !slices.Equal(s.Cells(), []int64{-2147483647, 7, 0, 0, 0}) || s.Threads() != 1 {
		t.Error(source.Cells(p), s.Cells(), s.Threads())
	}
	for _, r := range []struct {
		who  string
		want []string
	}{
		{"", []string{"1 goes [0] 4 []"}},
		{"0 0", []string{"1 goes [3] 6 [1]", "0 goes [0 0] 0 []"}},
		{"0 1 1 1 1", []string{"1 goes [3] 7 [1 2]", "0 waits [1 2] 3 []", "0 goes [0 0] 0 []"}},
		{"2 2 2 2 0 0 0", []string{"1 goes [3] 10 [1 2]", "0 waits [1 2] 3 []", "0 waits [1 2] 3 []"}},
		{"0", []string{"1 goes [3] 11 [1 2]", "0 wakes [1 2] 3 []", "0 wakes [1 2] 3 []"}},
		{"0 2", []string{"1 goes [3] 12 [1 2]", "0 wakes [1 2] 3 []", "0 ended [1 2] -1 []"}},
	} {
		play(t, s, numbers(t, r.who)...)
		if got := threads(s); !slices.Equal(got, r.want) {
			t.Errorf("%q; want %q", got, r.want)
		}
	}
	if got := s.Cells(); !slices.Equal(got, []int64{-2147483647, 7, 0, 5, 4}) || outcome(s.Outcome()) != "stuck" {
		t.Error(got, outcome(s.Outcome()))
	}
	if owner, e := s.Sync().Owner(0); owner != 2 || e != api.OK {
		t.Error(owner, e)
	}
	if room, e := s.Sync().Room(0); room != 3 || e != api.OK {
		t.Error(room, e)
	}
	for _, n := range []int{-1, 3, 8, minInt, maxInt, 1 << 32} {
		v, e := s.Thread(n)
		wantZero(t, v, e, api.ErrArg)
	}
}

// P5.2: the outcome.
func TestOutcomes(t *testing.T) {
	for text, want := range map[string]string{
		"thread main { print 1; }":                                    "goes, done",
		"thread main { }":                                             "done",
		"chan q 1; thread main { send q 1; send q 2; }":               "goes, stuck",
		"thread main { print 1; print 1 / 0; }":                       "goes, goes, trap 1 by 0 at 1",
		"thread main { spawn t; } thread t { print 2147483647 + 1; }": "goes, goes, trap 2 by 1 at 1",
		"mutex m; cond c; thread main { lock m; wait c m; }":          "goes, goes, stuck",
		"mutex m; thread main { lock m; }":                            "goes, done",
	} {
		s := made(t, text)
		got := outcome(s.Outcome())
		for len(s.Can()) > 0 {
			s.Step(0)
			got += ", " + outcome(s.Outcome())
		}
		if got != want {
			t.Errorf("%s: %s; want %s", text, got, want)
		}
	}
}

// P5.2, and what holds everywhere: of nil, and of one that no call made.
func TestOfNone(t *testing.T) {
	for _, s := range []*source.State{nil, new(source.State)} {
		if s.Can() != nil || s.Cells() != nil || s.Threads() != 0 || s.Sync() != nil || s.Copy() != nil || s.Outcome() != (api.Outcome{}) {
			t.Error("of none something is told")
		}
		for _, n := range []int{0, -1, 1, minInt, maxInt} {
			ev, e := s.Step(n)
			wantZero(t, ev, e, api.ErrNil)
			ev, e = s.Do(n)
			wantZero(t, ev, e, api.ErrNil)
			v, e := s.Thread(n)
			wantZero(t, v, e, api.ErrNil)
			if l, end := s.Run(n, n); len(l) != 0 || end != (api.Outcome{}) {
				t.Error(l, end)
			}
		}
		if l, end := s.Run(); len(l) != 0 || end != (api.Outcome{}) {
			t.Error(l, end)
		}
		some := made(t, "thread main { }")
		if !source.Same(s, nil) || !source.Same(nil, s) || !source.Same(s, new(source.State)) || !source.Same(s, s) || source.Same(s, some) || source.Same(some, s) {
			t.Error("a nil one is like a nil one alone")
		}
	}
}

// states are the steps after which the program below stands otherwise than after all others.
const alive = "var x = 0; array a 2; mutex m; cond c; chan q 2; chan r 2; thread main { spawn t; let u = 1; lock m; x = 1; a[1] = 1; send q 1; wait c m; print 1 / 0; } thread t { let u = 0; if x { spawn t; } recv q u; send r u; signal c; join; }"

func lives() []string {
	return []string{
		"", "0", "0 0", "0 0 0", "0 0 0 0", "0 0 0 0 0", "0 0 0 0 0 0", "0 0 0 0 0 0 0",
		"0 1", "0 1 1", "0 0 1", "0 0 1 1", "0 0 0 0 1", "0 0 0 0 1 1", "0 0 0 0 1 1 1",
		"0 0 0 0 0 0 0 1 1 1 1", "0 0 0 0 0 0 0 1 1 1 1 1", "0 0 0 0 0 0 0 1 1 1 1 1 1", "0 0 0 0 0 0 0 1 1 1 1 1 1 0", "0 0 0 0 0 0 0 1 1 1 1 1 1 0 0",
	}
}

func TestSameAsksAllThatThereIs(t *testing.T) {
	p := found(t, alive)
	for i, first := range lives() {
		for j, second := range lives() {
			a, b := begun(t, p), begun(t, p)
			play(t, a, numbers(t, first)...)
			play(t, b, numbers(t, second)...)
			if got := source.Same(a, b); got != (i == j) {
				t.Errorf("%q, %q: %v", first, second, got)
			}
		}
	}
}

// How it came to stand so is not asked.
func TestSameAsksNotHowItCameToBe(t *testing.T) {
	p := found(t, "var x = 1; var y = 2; mutex m; chan q 1; thread main { spawn t; spawn u; x = 1; y = 3; } thread t { x = 0; lock m; unlock m; } thread u { y = 3; send q 1; }")
	for first, second := range map[string]string{
		"0 0 1 2": "0 0 2 1", "0 1 0 0": "0 0 1 0", "0 0 1 1 1 2": "0 0 2 1 1 1", "0 0 2 2 1": "0 1 0 2 2", "0 0 1 2 0 0": "0 1 0 0 0 2",
	} {
		a, b := begun(t, p), begun(t, p)
		play(t, a, numbers(t, first)...)
		play(t, b, numbers(t, second)...)
		if !source.Same(a, b) || !source.Same(b, a) || !source.Same(a, a) || !source.Same(a, b.Copy()) {
			t.Errorf("%q, %q: not the same", first, second)
		}
	}
}

// What a thread has still to do is asked, of which program it is not; nor are names and places.
func TestSameOfTwoPrograms(t *testing.T) {
	texts := []string{
		"var x = 1; thread main { print x; }",
		"var x = 1; thread main { print x; print x; }",
		"var x = 1; thread main { print 1; }",
		"var x = 1; thread main { print 2; }",
		"var x = 1; thread main { print -x; }",
		"var x = 1; thread main { print x + 1; }",
		"var x = 1; thread main { print x - 1; }",
		"var x = 1; thread main { x = x; }",
		"var x = 1; thread main { let u = x; }",
		"var x = 1; thread main { if x { print x; } }",
		"var x = 1; thread main { while x { print x; } }",
		"var x = 1; thread main { while x { print 1; } }",
		"var x = 1; thread main { if x { } else { print x; } }",
		"var x = 2; thread main { print x; }",
		"var x = 1; var y = 0; thread main { print x; }",
		"var x = 1; array y 1; thread main { y[0] = x; }",
		"var x = 1; array y 1; thread main { y[1] = x; }",
		"var x = 1; array y 1; thread main { y[x] = 0; }",
		"var x = 1; mutex m; thread main { print x; }",
		"var x = 1; mutex m; thread main { lock m; }",
		"var x = 1; mutex m; thread main { unlock m; }",
		"var x = 1; cond c; thread main { print x; }",
		"var x = 1; cond c; mutex m; mutex n; thread main { wait c m; }",
		"var x = 1; cond c; mutex m; mutex n; thread main { wait c n; }",
		"var x = 1; chan q 1; thread main { print x; }",
		"var x = 1; chan q 2; thread main { print x; }",
		"thread t { } var x = 1; thread main { print x; }",
		"var x = 1; thread main { }",
		"var x = 1; thread main { join; print x; }",
	}
	for i, first := range texts {
		for j, second := range texts {
			if got := source.Same(made(t, first), made(t, second)); got != (i == j) {
				t.Errorf("%q, %q: %v", first, second, got)
			}
		}
		other := regexp.MustCompile(`\b[xymct]\b`).ReplaceAllString(first, "\n o$0 #\n")
		if !source.Same(made(t, first), made(t, other)) {
			t.Errorf("%q, %q: not the same", first, other)
		}
	}
	// What was done is not asked.
	a, b := made(t, "var x = 1; thread main { x = 2; print x; }"), made(t, "var x = 2; thread main { join; print x; } thread t { print 7; }")
	play(t, a, 0)
	play(t, b, 0)
	if !source.Same(a, b) {
		t.Error("what was done is asked")
	}
	// Nor in which blocks it stands what is left to do.
	a, b = made(t, "thread main { if 1 { print 1; print 2; } print 3; }"), made(t, "thread main { join; print 1; print 2; print 3; }")
	play(t, a, 0)
	play(t, b, 0)
	if !source.Same(a, b) {
		t.Error("blocks are asked")
	}
}

// States that are the same but for one thing.
func TestSameAsksEachThing(t *testing.T) {
	for what, r := range map[string]struct{ text, first, second string }{
		"a local":      {"var x = 0; thread main { spawn t; let u = x; print u; } thread t { x = 1; x = 0; }", "0 0 1 1", "0 1 0 1"},
		"how it is":    {"var x = 0; mutex m; cond c; thread main { spawn t; if x { lock m; } wait c m; } thread t { x = 1; x = 0; signal c; }", "0 1 0 0 0 1 1", "0 1 1 0 1"},
		"who spawned":  {"var x = 0; thread main { spawn u; x = 1; if x { x = 0; spawn t; } print 1; } thread u { if x { x = 0; spawn t; } print 2; } thread t { }", "0 0 0 0 0 1", "0 0 1 1 1 0"},
		"what it is":   {"var x = 0; thread main { spawn v; if x { spawn t; } else { spawn u; } print 1; } thread t { } thread u { } thread v { x = 1; x = 0; }", "0 0 0 1 1", "0 1 0 0 1"},
		"what is sent": {"var x = 0; chan q 1; thread main { spawn t; send q x; print 1; } thread t { x = 1; x = 0; }", "0 0 1 1", "0 1 0 1"},
		"a cell":       {"var x = 0; array a 2; thread main { spawn t; x = 1; } thread t { a[x] = 5; print 1; }", "0 1 0", "0 0 1"},
		"who traps":    {"thread main { spawn t; print 1 / 0; } thread t { print 1 / 0; }", "0 0", "0 1"},
	} {
		p := found(t, r.text)
		a, b := begun(t, p), begun(t, p)
		play(t, a, numbers(t, r.first)...)
		play(t, b, numbers(t, r.second)...)
		if source.Same(a, b) || source.Same(b, a) || !source.Same(a, a.Copy()) || !source.Same(b, b.Copy()) {
			t.Errorf("%s: %q, %q are the same", what, r.first, r.second)
		}
	}
}

// What two copies list is not in one memory: each spawns another one last.
func TestCopiesSpawnApart(t *testing.T) {
	for ahead := range api.MaxThreads - 2 {
		s := made(t, "thread main { spawn t; "+strings.Repeat("spawn e; ", ahead)+"spawn e; print 1; } thread t { spawn e; } thread e { }")
		for range ahead + 1 {
			play(t, s, 0)
		}
		a, b := s.Copy(), s.Copy()
		play(t, a, 0)
		before := threads(a)
		play(t, b, 1, 0)
		if !slices.Equal(threads(a), before) || threads(b)[0] == before[0] {
			t.Errorf("%q, then %q; %q", before, threads(a), threads(b))
		}
	}
}

// P5.2: a copy goes on apart.
func TestACopyGoesOnApart(t *testing.T) {
	p := found(t, alive)
	for _, first := range lives() {
		fresh := func() *source.State {
			s := begun(t, p)
			play(t, s, numbers(t, first)...)
			return s
		}
		a := fresh()
		b := a.Copy()
		c := b.Copy()
		if a == b || !source.Same(a, b) || !source.Same(b, c) || whole(p, a) != whole(p, b) {
			t.Errorf("%q: a copy stands otherwise", first)
		}
		for _, picks := range [][]int{{0}, {1}, {0, 0, 0, 0, 0, 0, 0, 0, 0, 0, 0, 0}, {1, 1, 1, 1, 1, 1, 1, 1, 1, 1, 1}, {0, 1, 0, 1, 0, 1, 0, 1, 0, 1, 0, 1}} {
			want := fresh()
			steps, _ := want.Run(picks...)
			before := whole(p, a)
			got, _ := b.Run(picks...)
			if toldAll(got) != toldAll(steps) || !source.Same(b, want) || whole(p, a) != before || !source.Same(a, fresh()) || !source.Same(c, fresh()) {
				t.Errorf("%q: %v of the copy: %s", first, picks, toldAll(got))
			}
			b = a.Copy()
			if got, _ = a.Run(picks...); toldAll(got) != toldAll(steps) || !source.Same(a, want) || !source.Same(b, fresh()) || !source.Same(c, fresh()) {
				t.Errorf("%q: %v is seen in a copy", first, picks)
			}
			a = fresh()
			b = a.Copy()
		}
	}
}

// What is handed out is not what stands within, and is not changed by what is done later.
func TestWhatIsHandedOutIsNotWhatStandsWithin(t *testing.T) {
	p := found(t, "var x = 1; mutex m; chan q 1; cond c; thread main { let u = 2; spawn t; spawn t; x = x + 1; x = x + 1; join; } thread t { print 1; print 2; }")
	fresh := func() *source.State {
		s := begun(t, p)
		play(t, s, 0, 0, 0, 1)
		return s
	}
	s := fresh()
	view, _ := s.Thread(0)
	again, _ := s.Thread(0)
	cells, can, inner := s.Cells(), s.Can(), s.Sync()
	spoil(view.Locals, 99)
	spoil(view.Spawned, 99)
	spoil(cells, 99)
	spoil(can, 99)
	inner.Lock(0, 5)
	inner.Wait(0, 5)
	inner.Send(0, 5)
	if !source.Same(s, fresh()) || whole(p, s) != whole(p, fresh()) {
		t.Error("what was handed out is what stands within")
	}
	cells = s.Cells()
	l, _ := s.Run(0, 0, 0)
	copied := toldAll(l)
	for _, ev := range l {
		spoil(ev.Accesses, api.Access{Cell: 99})
		spoil(ev.Syncs, api.SyncEvent{Kind: 7, Other: 99})
	}
	other := fresh()
	if want, _ := other.Run(0, 0, 0); toldAll(want) != copied || !source.Same(s, other) {
		t.Error("an event that was handed out is what stands within")
	}
	if !slices.Equal(again.Locals, []int64{2}) || !slices.Equal(again.Spawned, []int{1, 2}) || !slices.Equal(cells, []int64{1}) {
		t.Error("what was handed out is changed later", again, cells)
	}
}

// What is handed in is not changed, and not kept: what is done to it later is not seen.
func TestTheProgramThatIsHandedInIsNotKept(t *testing.T) {
	text := "var x = 1; var y = 2; array a 2; array b 2; mutex m; chan q 2; thread main { spawn t; while x < 3 { x = x + 1; if y { b[1] = x; send q 1; } } print x; join; } thread t { let u = 3; recv q u; recv q y; print u; }"
	p := found(t, text)
	before := fmt.Sprintf("%+v", p)
	s := begun(t, p)
	if fmt.Sprintf("%+v", p) != before {
		t.Error("what was handed in is changed")
	}
	want := begun(t, names.Copy(p))
	each(p, func(s *api.Stmt) {
		eachPart(s, func(e *api.Expr) { *e = api.Expr{Kind: api.ExprNum, Num: 1, Slot: 77, Op: 77} })
		s.Kind, s.ID, s.Slot, s.Other = api.StmtWait, 77, 77, 77
	})
	spoil(p.Vars, 77)
	spoil(p.Arrays, 77)
	spoil(p.Chans, 77)
	spoil(p.Threads, api.Thread{})
	if !source.Same(s, want) {
		t.Error("what was handed in is kept")
	}
	picks := make([]int, 40)
	for i := range picks {
		picks[i] = i * i
	}
	got, _ := s.Run(picks...)
	steps, _ := want.Run(picks...)
	if toldAll(got) != toldAll(steps) || outcome(s.Outcome()) != "done" || !source.Same(s, want) {
		t.Errorf("%s\nwant %s", toldAll(got), toldAll(steps))
	}
}

// P5.2: how many variables and cells a program has.
func TestCells(t *testing.T) {
	for _, r := range []struct {
		p    api.Prog
		want int
	}{
		{api.Prog{}, 0},
		{api.Prog{Vars: make([]int64, 3)}, 3},
		{api.Prog{Arrays: []int{2, 5}}, 7},
		{api.Prog{Vars: []int64{-5}, Arrays: []int{256}, Mutexes: 3, Conds: 4, Chans: []int{5}}, 257},
		{found(t, things+"thread main { let u = 1; }"), 8},
		{found(t, "thread main { let u = 1; }"), 0},
	} {
		if got := source.Cells(r.p); got != r.want {
			t.Errorf("%d; want %d", got, r.want)
		}
		if r.p.Threads != nil {
			if got := len(begun(t, r.p).Cells()); got != r.want {
				t.Errorf("%d cells; want %d", got, r.want)
			}
		}
	}
	for _, l := range [][]int{{-1}, {minInt}, {maxInt, maxInt, maxInt}, {minInt, minInt}} {
		source.Cells(api.Prog{Arrays: l})
	}
}
