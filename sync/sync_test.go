package sync_test

import (
	"fmt"
	"slices"
	"strings"
	"testing"

	"warp/api"
	"warp/sync"
)

func TestTheChaptersExamples(t *testing.T) {
	for _, lines := range []string{
		"Lock 0 1: true; Lock 0 2: false; Lock 0 1: false; Owner 0: 1; Unlock 0 2: ErrOwner; Unlock 0 1: OK; Owner 0: -1",
		"Wait 0 3: OK; Wait 0 1: OK; Wait 0 3: ErrWaits; Signal 0: 3 true; All 0: [1]; Signal 0: false",
		"Send 0 7: 0 true; Send 0 8: false; Recv 0: 7 0 true; Recv 0: false; Send 0 9: 1 true; Lock 1 0: ErrRange",
	} {
		play(t, made(t, 1, 1, 1), lines)
	}
}

// P4.1

func TestWhatMayNotBeMade(t *testing.T) {
	rooms := func(n int, behind ...int) []int { return append(slices.Repeat([]int{1}, n), behind...) }
	for _, row := range []struct {
		mutexes, conds int
		rooms          []int
		e              api.Errno
	}{
		{0, 0, nil, api.OK}, {0, 0, []int{}, api.OK}, {64, 0, nil, api.OK}, {0, 64, nil, api.OK}, {0, 0, rooms(64), api.OK}, {64, 64, rooms(63, 16), api.OK}, {1, 2, []int{16, 1, 2}, api.OK},
		{-1, 0, nil, api.ErrArg}, {65, 0, nil, api.ErrArg}, {minInt, 1, nil, api.ErrArg}, {maxInt, 1, nil, api.ErrArg}, {1 << 32, 1, nil, api.ErrArg},
		{0, -1, nil, api.ErrArg}, {0, 65, nil, api.ErrArg}, {1, minInt, nil, api.ErrArg}, {1, maxInt, nil, api.ErrArg}, {1, -1 << 32, nil, api.ErrArg},
		{0, 0, rooms(65), api.ErrArg}, {1, 1, rooms(1000000), api.ErrArg},
		{0, 0, []int{0}, api.ErrArg}, {0, 0, []int{-1}, api.ErrArg}, {0, 0, []int{17}, api.ErrArg}, {0, 0, []int{maxInt}, api.ErrArg}, {0, 0, []int{minInt}, api.ErrArg}, {0, 0, []int{1<<32 + 1}, api.ErrArg},
		{0, 0, rooms(63, 17), api.ErrArg}, {0, 0, rooms(63, 0), api.ErrArg}, {0, 0, []int{0, 1}, api.ErrArg}, {1, 1, []int{1, 17, 1}, api.ErrArg},
		{-1, -1, []int{-1}, api.ErrArg},
	} {
		s, e := sync.New(row.mutexes, row.conds, row.rooms...)
		if e != row.e || (s != nil) != (e == api.OK) {
			t.Errorf("New(%d, %d, %.100v): %v, %v; want %v", row.mutexes, row.conds, row.rooms, s, e, row.e)
		}
	}
}

func TestWhatIsMade(t *testing.T) {
	var rooms []int
	for i := range api.MaxNames {
		rooms = append(rooms, 1+i%api.MaxRoom)
	}
	s := made(t, 64, 64, rooms...)
	for i, room := range rooms {
		play(t, s, strings.ReplaceAll("Owner #: -1; Waits #: []; Values #: []; Signal #: false; All #: []; Recv #: false", "#", fmt.Sprint(i)))
		if got, e := s.Room(i); got != room || e != api.OK {
			t.Errorf("Room(%d): %d, %v; want %d", i, got, e, room)
		}
	}
	play(t, s, "Owner 64: ErrRange; Waits 64: ErrRange; Values 64: ErrRange; Room 64: ErrRange")
	play(t, made(t, 0, 0), "Owner 0: ErrRange; Waits 0: ErrRange; Values 0: ErrRange; Room 0: ErrRange; Lock 0 0: ErrRange; Wait 0 0: ErrRange; Send 0 0: ErrRange; Recv 0 0: ErrRange")
	// How many there are is of each kind apart.
	play(t, made(t, 1, 2, 1, 1, 1), "Owner 0: -1; Owner 1: ErrRange; Waits 1: []; Waits 2: ErrRange; Values 2: []; Values 3: ErrRange")
}

func TestTheRoomsThatAreHandedInStayAndAreNotKept(t *testing.T) {
	all := []int{2, 3, 77, 78}
	s := made(t, 0, 0, all[:2]...)
	play(t, s, "Send 0 1: 0 true; Send 1 1: 0 true; Send 0 2: 1 true; Send 0 3: false")
	if !slices.Equal(all, []int{2, 3, 77, 78}) {
		t.Errorf("what was handed in is %v now", all)
	}
	all[0], all[1] = 16, 1
	play(t, s, "Room 0: 2; Room 1: 3; Send 0 3: false; Send 1 2: 1 true; Send 2 0: ErrRange")
}

const some = "Lock 0 1; Lock 2 7; Wait 0 3; Wait 0 0; Wait 1 2; Send 0 5; Send 0 6; Recv 0; Send 1 -4; Send 1 9"

// states are such as stand alike with no other.
func states() []string {
	return []string{
		"", some, "Lock 0 0", "Lock 0 1", "Lock 1 0", "Lock 0 0; Lock 1 0", "Lock 0 0; Lock 1 1",
		"Wait 0 0", "Wait 0 1", "Wait 1 0", "Wait 0 0; Wait 0 1", "Wait 0 1; Wait 0 0", "Wait 0 0; Wait 1 1",
		"Send 0 0", "Send 0 1", "Send 1 0", "Send 0 0; Send 0 0", "Send 0 0; Send 0 1", "Send 0 1; Send 0 0",
		"Send 0 0; Recv 0", "Send 1 0; Recv 1", "Send 0 0; Recv 0; Send 0 0", "Send 0 0; Recv 0; Send 0 0; Recv 0", "Send 0 0; Send 1 0; Recv 0",
	}
}

func TestSameAsksAllThatStandsThere(t *testing.T) {
	for i, first := range states() {
		for j, second := range states() {
			a, b := play(t, made(t, 3, 2, 2, 3), first), play(t, made(t, 3, 2, 2, 3), second)
			if got := sync.Same(a, b); got != (i == j) {
				t.Errorf("%q, %q: %v", first, second, got)
			}
			// It asks, and changes nothing.
			if !sync.Same(a, play(t, made(t, 3, 2, 2, 3), first)) || !sync.Same(b, play(t, made(t, 3, 2, 2, 3), second)) {
				t.Errorf("%q, %q: changed", first, second)
			}
		}
	}
}

// How it came to stand so is not asked, but for how many values were sent.
func TestSameAsksNotHowItCameToBe(t *testing.T) {
	for first, second := range map[string]string{
		"Lock 0 1; Unlock 0 1":                      "",
		"Lock 0 1; Lock 0 2; Unlock 0 2":            "Lock 0 1",
		"Lock 0 1; Unlock 0 1; Lock 0 2":            "Lock 0 2",
		"Lock 1 2; Lock 0 1":                        "Lock 0 1; Lock 1 2",
		"Wait 0 1; Signal 0":                        "",
		"Wait 0 1; Wait 0 2; All 0":                 "Wait 1 5; Signal 1",
		"Wait 0 1; Wait 0 2; Signal 0":              "Wait 0 2",
		"Wait 0 1; Wait 0 2; Signal 0; Wait 0 1":    "Wait 0 2; Wait 0 1",
		"Wait 0 1; Signal 0; Wait 1 1":              "Wait 1 1",
		"Send 0 7; Recv 0":                          "Send 0 8; Recv 0",
		"Send 0 7; Send 0 8; Recv 0":                "Send 0 1; Recv 0; Send 0 8",
		"Send 0 7; Send 0 8; Send 0 9":              "Send 0 7; Send 0 8",
		"Recv 0; Signal 0; All 1; Send 0 1; Lock 9": "Send 0 1",
		"Send 1 7; Send 0 7":                        "Send 0 7; Send 1 7",
	} {
		a, b := play(t, made(t, 3, 2, 2, 3), first), play(t, made(t, 3, 2, 2, 3), second)
		if !sync.Same(a, b) || !sync.Same(b, a) || !sync.Same(a, a) || !sync.Same(a, b.Copy()) {
			t.Errorf("%q, %q: not the same", first, second)
		}
	}
}

func TestSameAsksWhatThereIs(t *testing.T) {
	l := []*sync.Sync{made(t, 0, 0), made(t, 1, 0), made(t, 2, 0), made(t, 0, 1), made(t, 0, 2), made(t, 0, 0, 1), made(t, 0, 0, 2), made(t, 0, 0, 1, 1), made(t, 0, 0, 1, 2), made(t, 0, 0, 2, 1), made(t, 1, 1, 1), nil}
	for i, a := range l {
		for j, b := range l {
			if got := sync.Same(a, b); got != (i == j) {
				t.Errorf("%d, %d: %v", i, j, got)
			}
		}
	}
	zero := new(sync.Sync)
	if !sync.Same(nil, zero) || !sync.Same(zero, nil) || !sync.Same(zero, new(sync.Sync)) || sync.Same(zero, l[0]) || sync.Same(l[0], zero) {
		t.Error("a zero one is like a nil one alone")
	}
}

func TestACopyGoesOnApart(t *testing.T) {
	for _, lines := range states() {
		for _, more := range []string{
			"Lock 1 4", "Unlock 0 1; Lock 0 3", "Lock 0 1; Unlock 0 1", "Wait 1 5", "Wait 0 6; Wait 0 7", "Signal 0", "All 0", "Wait 1 5; Wait 0 6; All 1; All 0",
			"Send 0 3; Send 1 3", "Recv 0", "Recv 1; Recv 1; Send 1 1", "Send 0 3; Recv 0; Recv 0",
		} {
			fresh := func() *sync.Sync { return play(t, made(t, 3, 2, 2, 3), lines) }
			want := play(t, fresh(), more)
			a := fresh()
			b := a.Copy()
			c := b.Copy()
			if !sync.Same(a, b) || !sync.Same(b, c) || a == b {
				t.Fatalf("%q: a copy stands otherwise", lines)
			}
			if play(t, b, more); !sync.Same(a, fresh()) || !sync.Same(b, want) || !sync.Same(c, fresh()) {
				t.Errorf("%q: %q of the copy is seen elsewhere, or not there", lines, more)
			}
			if play(t, a, more); !sync.Same(a, want) || !sync.Same(b, want) || !sync.Same(c, fresh()) {
				t.Errorf("%q: %q is seen in a copy, or not there", lines, more)
			}
			if play(t, c, more); !sync.Same(c, want) {
				t.Errorf("%q: %q of a copy's copy is not there", lines, more)
			}
		}
	}
}

func TestACopyOfNone(t *testing.T) {
	var none *sync.Sync
	if none.Copy() != nil || new(sync.Sync).Copy() != nil {
		t.Error("a copy of none")
	}
	if c := made(t, 0, 0).Copy(); c == nil || !sync.Same(c, made(t, 0, 0)) {
		t.Error("no copy of one that has nothing")
	}
}

// P4.2

func TestMutexes(t *testing.T) {
	for _, lines := range []string{
		"Owner 0: -1; Lock 0 0: true; Owner 0: 0; Lock 0 0: false; Owner 0: 0; Unlock 0 0: OK; Owner 0: -1; Lock 0 7: true; Owner 0: 7; Unlock 0 7: OK",
		"Lock 0 3: true; Lock 1 3: true; Lock 2 4: true; Owner 0: 3; Owner 1: 3; Owner 2: 4; Unlock 1 3: OK; Owner 0: 3; Owner 1: -1; Owner 2: 4; Lock 1 4: true; Lock 0 4: false; Owner 0: 3",
		"Unlock 0 0: ErrOwner; Unlock 0 7: ErrOwner; Owner 0: -1; Lock 0 1: true; Unlock 0 0: ErrOwner; Unlock 1 1: ErrOwner; Owner 0: 1; Unlock 0 1: OK; Unlock 0 1: ErrOwner; Owner 0: -1",
		// Who waits may lock all the same: that is for the layers above.
		"Wait 0 1: OK; Lock 0 1: true; Wait 0 1: ErrWaits; Owner 0: 1; Unlock 0 1: OK; Waits 0: [1]",
	} {
		play(t, made(t, 3, 2, 2, 3), lines)
	}
}

func TestWhichErrorsOfMutexesAreToldFirst(t *testing.T) {
	lines := ""
	for _, m := range []int{-1, 3, 4, 64, minInt, maxInt, 1 << 32, -1 << 32} {
		lines += fmt.Sprintf("Owner %d: ErrRange;", m)
		for _, thread := range []int{0, 7, -1, 8, minInt, maxInt} {
			lines += fmt.Sprintf("Lock %d %d: ErrRange; Unlock %d %d: ErrRange;", m, thread, m, thread)
		}
	}
	for _, thread := range []int{-1, 8, 9, 64, minInt, maxInt, 1 << 32, 1<<32 + 1} {
		// Of one that is nobody's, and of one that is a thread's.
		lines += fmt.Sprintf("Lock 0 %d: ErrArg; Unlock 0 %d: ErrArg; Lock 2 %d: ErrArg; Unlock 2 %d: ErrArg;", thread, thread, thread, thread)
	}
	wantUnchanged(t, lines)
}

// wantUnchanged holds that calls that are refused change nothing.
func wantUnchanged(t *testing.T, lines string) {
	t.Helper()
	for _, before := range []string{"Lock 2 1", some} {
		s := play(t, made(t, 3, 2, 2, 3), before)
		if play(t, s, lines); !sync.Same(s, play(t, made(t, 3, 2, 2, 3), before)) {
			t.Errorf("%q behind %q changed something", lines, before)
		}
	}
}

// P4.3

func TestConditions(t *testing.T) {
	for _, lines := range []string{
		"Waits 0: []; Signal 0: false; All 0: []; Wait 0 7: OK; Wait 0 0: OK; Wait 0 3: OK; Waits 0: [7 0 3]; Waits 0: [7 0 3]; All 0: [7 0 3]; Waits 0: []; All 0: []; Signal 0: false",
		"Wait 0 5: OK; Wait 0 2: OK; Wait 0 6: OK; Signal 0: 5 true; Waits 0: [2 6]; Signal 0: 2 true; Signal 0: 6 true; Waits 0: []; Signal 0: false; Signal 0: false",
		"Wait 0 0: OK; Signal 0: 0 true; Signal 0: false",
		// At one of them at most.
		"Wait 0 1: OK; Wait 1 1: ErrWaits; Wait 0 1: ErrWaits; Waits 0: [1]; Waits 1: []; Signal 1: false; Signal 0: 1 true; Wait 1 1: OK; Wait 0 1: ErrWaits; Waits 0: []; Waits 1: [1]; All 1: [1]; Wait 0 1: OK",
		// Who comes again stands behind all others.
		"Wait 0 1: OK; Wait 0 2: OK; Signal 0: 1 true; Wait 0 1: OK; Waits 0: [2 1]; Wait 0 0: OK; Signal 0: 2 true; Wait 0 2: OK; All 0: [1 0 2]",
		// Each condition apart.
		"Wait 0 4: OK; Wait 1 5: OK; Wait 0 6: OK; Wait 1 3: OK; Signal 1: 5 true; Waits 0: [4 6]; Waits 1: [3]; All 0: [4 6]; Waits 1: [3]; All 1: [3]",
		// All threads that there are.
		"Wait 0 0; Wait 0 1; Wait 0 2; Wait 0 3; Wait 0 4; Wait 0 5; Wait 0 6; Wait 0 7: OK; Wait 0 3: ErrWaits; Waits 0: [0 1 2 3 4 5 6 7]; All 0: [0 1 2 3 4 5 6 7]",
		// A condition asks no mutex: that is for the layers above.
		"Lock 0 1: true; Wait 0 2: OK; Wait 0 1: OK; Owner 0: 1",
	} {
		play(t, made(t, 3, 2, 2, 3), lines)
	}
}

func TestWhichErrorsOfConditionsAreToldFirst(t *testing.T) {
	lines := ""
	for _, c := range []int{-1, 2, 3, 64, minInt, maxInt, 1 << 32, -1 << 32} {
		lines += strings.ReplaceAll("Waits #: ErrRange; Signal #: ErrRange; All #: ErrRange;", "#", fmt.Sprint(c))
		for _, thread := range []int{3, 5, -1, 8, minInt, maxInt} {
			lines += fmt.Sprintf("Wait %d %d: ErrRange;", c, thread)
		}
	}
	for _, thread := range []int{-1, 8, 9, 64, minInt, maxInt, 1 << 32, 1<<32 + 3} {
		lines += fmt.Sprintf("Wait 0 %d: ErrArg; Wait 1 %d: ErrArg;", thread, thread)
	}
	wantUnchanged(t, lines)
	play(t, made(t, 3, 2, 2, 3), some+"; Wait 0 3: ErrWaits; Wait 1 3: ErrWaits; Wait 1 0: ErrWaits; Wait 0 2: ErrWaits; Wait 2 3: ErrRange; Waits 0: [3 0]; Waits 1: [2]")
}

// P4.4

func TestChannels(t *testing.T) {
	for _, lines := range []string{
		"Recv 0: false; Values 0: []; Send 0 7: 0 true; Values 0: [7]; Values 0: [7]; Send 0 8: 1 true; Send 0 9: false; Values 0: [7 8]; Recv 0: 7 0 true; Values 0: [8]; Send 0 10: 2 true; Recv 0: 8 1 true; Recv 0: 10 2 true; Recv 0: false; Recv 0: false; Values 0: []",
		// What found no room was not sent: it has no number.
		"Send 0 1: 0 true; Send 0 1: 1 true; Send 0 2: false; Send 0 3: false; Recv 0: 1 0 true; Send 0 4: 2 true; Recv 0: 1 1 true; Recv 0: 4 2 true; Send 0 5: 3 true",
		// Each channel apart.
		"Send 1 1: 0 true; Send 0 2: 0 true; Send 1 3: 1 true; Send 1 4: 2 true; Send 1 5: false; Send 0 6: 1 true; Recv 1: 1 0 true; Values 0: [2 6]; Values 1: [3 4]; Recv 0: 2 0 true; Recv 1: 3 1 true",
		"Send 0 0: 0 true; Recv 0: 0 0 true; Send 0 2147483647: 1 true; Send 0 -2147483648: 2 true; Values 0: [2147483647 -2147483648]; Recv 0: 2147483647 1 true; Recv 0: -2147483648 2 true",
		"Room 0: 2; Room 1: 3; Send 0 1; Recv 0; Send 0 1; Send 0 2; Room 0: 2; Room 1: 3",
	} {
		play(t, made(t, 3, 2, 2, 3), lines)
	}
}

func TestWhichErrorsOfChannelsAreToldFirst(t *testing.T) {
	lines := "Send 0 1; Send 0 2; Send 0 3: false;"
	notValues := []int{least - 1, greatest + 1, minInt, maxInt, 1 << 32, -1 << 32}
	for _, q := range []int{-1, 2, 3, 64, minInt, maxInt, 1 << 32, -1 << 32} {
		lines += strings.ReplaceAll("Recv #: ErrRange; Values #: ErrRange; Room #: ErrRange;", "#", fmt.Sprint(q))
		for _, v := range append([]int{0, least, greatest}, notValues...) {
			lines += fmt.Sprintf("Send %d %d: ErrRange;", q, v)
		}
	}
	for _, v := range notValues {
		// Of one that is full, and of one that is not.
		lines += fmt.Sprintf("Send 0 %d: ErrArg; Send 1 %d: ErrArg;", v, v)
	}
	s := play(t, made(t, 3, 2, 2, 3), lines+"Values 1: []; Send 1 4: 0 true; Recv 0: 1 0 true; Send 0 5: 2 true")
	if !sync.Same(s, play(t, made(t, 3, 2, 2, 3), "Send 0 1; Send 0 2; Recv 0; Send 0 5; Send 1 4")) {
		t.Error("what was refused changed something")
	}
}

func TestAChannelIsFullAtItsRoom(t *testing.T) {
	for room := 1; room <= api.MaxRoom; room++ {
		s := made(t, 0, 0, room)
		lines := ""
		for i := range room {
			lines += fmt.Sprintf("Send 0 %d: %d true;", 100-i, i)
		}
		play(t, s, lines+fmt.Sprintf("Send 0 1: false; Room 0: %d; Recv 0: 100 0 true; Send 0 1: %d true; Send 0 2: false", room, room))
		if l, e := s.Values(0); len(l) != room || e != api.OK {
			t.Errorf("%v, %v", l, e)
		}
	}
}

func TestMethodsOfNone(t *testing.T) {
	for _, s := range []*sync.Sync{nil, {}} {
		for _, name := range names() {
			for _, n := range []int{0, -1, 1, minInt, maxInt} {
				for _, x := range []int{0, -1, 8, minInt, maxInt} {
					if got := answer(s, call{name, n, x}); got != "ErrNil" {
						t.Errorf("%s(%d, %d): %s", name, n, x, got)
					}
				}
			}
		}
	}
}

func names() []string {
	return []string{"Owner", "Lock", "Unlock", "Wait", "Waits", "Signal", "All", "Send", "Recv", "Values", "Room"}
}

// What is handed out is not what stands within: to change it changes nothing there, and what is done later does not change it.
func TestWhatIsHandedOutIsNotWhatStandsWithin(t *testing.T) {
	const before = "Wait 0 4; Wait 0 5; Wait 0 6; Send 1 4; Send 1 5; Send 1 6"
	fresh := func() *sync.Sync { return play(t, made(t, 3, 2, 2, 3), before) }
	s := fresh()
	waits, _ := s.Waits(0)
	values, _ := s.Values(1)
	again, _ := s.Waits(0)
	spoil(waits, 99)
	spoil(values, 99)
	if !sync.Same(s, fresh()) || !slices.Equal(again, []int{4, 5, 6}) {
		t.Error("what was handed out is what stands within")
	}
	values, _ = s.Values(1)
	play(t, s, "Signal 0: 4 true; Recv 1: 4 0 true; Wait 0 7: OK; Send 1 7: 3 true; Waits 0: [5 6 7]; Values 1: [5 6 7]")
	if !slices.Equal(again, []int{4, 5, 6}) || !slices.Equal(values, []int64{4, 5, 6}) {
		t.Errorf("what was handed out is changed: %v, %v", again, values)
	}
	woken, _ := s.All(0)
	play(t, s, "Wait 0 1: OK; Wait 0 2: OK; Wait 0 3: OK")
	if !slices.Equal(woken, []int{5, 6, 7}) {
		t.Errorf("who was woken is changed: %v", woken)
	}
	spoil(woken, 99)
	play(t, s, "Waits 0: [1 2 3]")
	// Nor is what a copy hands out.
	c := s.Copy()
	waits, _ = c.Waits(0)
	values, _ = c.Values(1)
	spoil(waits, 99)
	spoil(values, 99)
	if !sync.Same(s, c) {
		t.Error("what a copy hands out is what stands within")
	}
}

// spoil changes a list, and the spare room behind it.
func spoil[T any](l []T, x T) {
	for i := range l[:cap(l)] {
		l[:cap(l)][i] = x
	}
}
