package sync_test

import (
	"fmt"
	"reflect"
	"strings"
	"testing"

	"warp/api"
	"warp/sync"
)

// What all tests of the package make and look at.

const (
	least    = -1 << 31
	greatest = 1<<31 - 1
	minInt   = -1 << 63
	maxInt   = 1<<63 - 1
)

// face is what sync.Sync answers, and the model of it.
type face interface {
	Owner(m int) (int, api.Errno)
	Lock(m, t int) (bool, api.Errno)
	Unlock(m, t int) api.Errno
	Wait(c, t int) api.Errno
	Waits(c int) ([]int, api.Errno)
	Signal(c int) (int, bool, api.Errno)
	All(c int) ([]int, api.Errno)
	Send(q int, v int64) (int, bool, api.Errno)
	Recv(q int) (int64, int, bool, api.Errno)
	Values(q int) ([]int64, api.Errno)
	Room(q int) (int, api.Errno)
}

// call is one of a face: which thing, and a thread or a value, if it takes one.
type call struct {
	name string
	n, x int
}

func (c call) String() string { return fmt.Sprintf("%s(%d, %d)", c.name, c.n, c.x) }

// answer does a call, and tells what it answers: all but the error, if that is OK.
func answer(f face, c call) string {
	switch c.name {
	case "Owner":
		owner, e := f.Owner(c.n)
		return told(e, owner)
	case "Lock":
		ok, e := f.Lock(c.n, c.x)
		return told(e, ok)
	case "Unlock":
		return told(f.Unlock(c.n, c.x))
	case "Wait":
		return told(f.Wait(c.n, c.x))
	case "Waits":
		l, e := f.Waits(c.n)
		return told(e, l)
	case "Signal":
		t, ok, e := f.Signal(c.n)
		return told(e, t, ok)
	case "All":
		l, e := f.All(c.n)
		return told(e, l)
	case "Send":
		number, ok, e := f.Send(c.n, int64(c.x))
		return told(e, number, ok)
	case "Recv":
		v, number, ok, e := f.Recv(c.n)
		return told(e, v, number, ok)
	case "Values":
		l, e := f.Values(c.n)
		return told(e, l)
	case "Room":
		room, e := f.Room(c.n)
		return told(e, room)
	}
	return "no such call"
}

// told tells an error by its name; beside it, or beside a false, all else that there is must be zero.
func told(e api.Errno, l ...any) string {
	var all []string
	empty := true
	for _, x := range l {
		if v := reflect.ValueOf(x); v.Kind() != reflect.Slice || v.Len() > 0 {
			empty = empty && v.IsZero()
		}
		all = append(all, fmt.Sprint(x))
	}
	text := strings.Join(all, " ")
	switch {
	case e != api.OK && empty:
		return nameOf(e)
	case e != api.OK:
		return text + " beside " + nameOf(e)
	case len(l) == 0:
		return "OK"
	case l[len(l)-1] == any(false) && empty:
		return "false"
	}
	return text
}

func nameOf(e api.Errno) string {
	switch e {
	case api.ErrNil:
		return "ErrNil"
	case api.ErrArg:
		return "ErrArg"
	case api.ErrRange:
		return "ErrRange"
	case api.ErrOwner:
		return "ErrOwner"
	case api.ErrWaits:
		return "ErrWaits"
	}
	return e.Error()
}

func made(t *testing.T, mutexes, conds int, rooms ...int) *sync.Sync {
	t.Helper()
	s, e := sync.New(mutexes, conds, rooms...)
	if e != api.OK || s == nil {
		t.Fatalf("New(%d, %d, %v): %v, %v", mutexes, conds, rooms, s, e)
	}
	return s
}

// read takes lines such as
//
//	Lock 0 1: true; Lock 0 2: false; Owner 0: 1
//
// Where nothing is said of the answer, it is "".
func read(t *testing.T, lines string) ([]call, []string) {
	t.Helper()
	var calls []call
	var answers []string
	for part := range strings.SplitSeq(lines, ";") {
		if strings.TrimSpace(part) == "" {
			continue
		}
		words, want, _ := strings.Cut(part, ":")
		var c call
		if n, err := fmt.Sscan(words, &c.name, &c.n, &c.x); n < 2 {
			t.Fatalf("%q: %v", part, err)
		}
		calls, answers = append(calls, c), append(answers, strings.TrimSpace(want))
	}
	return calls, answers
}

// play does calls, and holds the answers against those that are said.
func play(t *testing.T, s *sync.Sync, lines string) *sync.Sync {
	t.Helper()
	calls, answers := read(t, lines)
	for i, c := range calls {
		if got := answer(s, c); answers[i] != "" && got != answers[i] {
			t.Errorf("%v, call %d of %q: %s; want %s", c, i, lines, got, answers[i])
		}
	}
	return s
}
