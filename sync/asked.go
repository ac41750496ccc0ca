package sync

import "warp/api"

// asked is what was asked ahead of a call.
type asked struct {
	made  bool // is there such a thing at all?
	there bool // is there a mutex, a condition, a channel of that number?
	fits  bool // is what it is handed beside a thread, a value?
	may   bool // may the thread do so as things stand?
}

// find tells the one of that number; where there is none an empty one, so that it may be asked all the same.
func find[T any](s state, l []T, n int) (*T, asked) {
	if !within(0, len(l)-1, n) {
		return new(T), asked{made: s.made}
	}
	return &l[n], asked{made: s.made, there: true}
}

// refused tells the first error of those up to the last one that a call names.
// A call goes in at its last one and falls through to the first, as the one that is asked last is told.
func (a asked) refused(last api.Errno) (e api.Errno) {
	switch last {
	case api.ErrOwner, api.ErrWaits:
		if !a.may {
			e = last
		}
		fallthrough
	case api.ErrArg:
		if !a.fits {
			e = api.ErrArg
		}
		fallthrough
	case api.ErrRange:
		if !a.there {
			e = api.ErrRange
		}
		fallthrough
	default:
		if !a.made {
			e = api.ErrNil
		}
	}
	return e
}

// within tells whether numbers are all from one to another.
func within[N int | int64](from, to N, numbers ...N) bool {
	for _, n := range numbers {
		if n < from || n > to {
			return false
		}
	}
	return true
}

func thread(t int) bool { return within(0, api.MaxThreads-1, t) }

func value(v int64) bool { return within(-1<<31, 1<<31-1, v) }
