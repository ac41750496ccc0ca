package ops_test

import (
	"fmt"
	"testing"

	"warp/api"
	"warp/ops"
)

// P6.3

func TestTheChaptersTexts(t *testing.T) {
	for _, r := range []struct {
		i    api.Ins
		text string
		e    api.Errno
	}{
		{api.Ins{Code: api.InsWait, A: 1, B: 2}, "wait 1 2", api.OK},
		{api.Ins{Code: api.InsPush, Num: -7}, "push -7", api.OK},
		{api.Ins{Code: api.InsEnd}, "end", api.OK},
		{api.Ins{Code: api.InsPush, A: 1}, "", api.ErrArg},
		{api.Ins{Code: api.InsPush}, "push 0", api.OK},
		{api.Ins{Code: api.InsPush, Num: greatest}, "push 2147483647", api.OK},
		{api.Ins{Code: api.InsPush, Num: least}, "push -2147483648", api.OK},
		{api.Ins{Code: api.InsPush, Num: greatest + 1}, "", api.ErrArg},
		{api.Ins{Code: api.InsWait}, "wait 0 0", api.OK},
		{api.Ins{Code: api.InsWait, B: 65535}, "wait 0 65535", api.OK},
		{api.Ins{Code: api.InsWait, A: 65536}, "", api.ErrArg},
		{api.Ins{Code: api.InsJumpNZ, A: 65535}, "jumpnz 65535", api.OK},
		{api.Ins{Code: api.InsSetVar, A: 10}, "setvar 10", api.OK},
		{api.Ins{Code: api.InsSetVar, B: 10}, "", api.ErrArg},
		{api.Ins{Code: api.InsMark, A: -1}, "", api.ErrArg},
		{api.Ins{Code: api.InsJoin, Num: 1}, "", api.ErrArg},
		{api.Ins{}, "", api.ErrArg},
	} {
		if text, e := ops.Text(r.i); text != r.text || e != r.e {
			t.Errorf("Text(%+v) = %q, %v; want %q, %v", r.i, text, e, r.text, r.e)
		}
	}
}

func TestEachCodesNameAndText(t *testing.T) {
	for _, c := range table() {
		name, a, b, num := ops.Names(c.code)
		if name != c.name || a != c.a || b != c.b || num != c.num {
			t.Errorf("Names(%d) = %q, %v, %v, %v; want %+v", c.code, name, a, b, num, c)
		}
		i, want := api.Ins{Code: c.code}, c.name
		if c.a {
			i.A = 12
			want += " 12"
		}
		if c.b {
			i.B = 340
			want += " 340"
		}
		if c.num {
			i.Num = -56
			want += " -56"
		}
		if text, e := ops.Text(i); text != want || e != api.OK {
			t.Errorf("Text(%+v) = %q, %v; want %q", i, text, e, want)
		}
	}
}

// The chapter's numbers, and package api's.
func TestTheCodesNumbers(t *testing.T) {
	for want, c := range map[string]api.InsCode{
		"push": 1, "setcell": 7, "not": 9, "ne": 11, "le": 13, "mod": 18, "jump": 19, "bool": 22, "mark": 23, "lock": 24, "unlock": 25, "wait": 26, "recv": 30, "join": 32, "print": 33, "end": 34,
	} {
		if name, _, _, _ := ops.Names(c); name != want {
			t.Errorf("%d is %q; want %q", c, name, want)
		}
	}
	if last := api.InsCode(len(table())); last != api.InsEnd {
		t.Errorf("the last one is %d", last)
	}
}

func TestNothingOfNoCode(t *testing.T) {
	for _, c := range none() {
		if name, a, b, num := ops.Names(c); name != "" || a || b || num {
			t.Errorf("Names(%d) = %q, %v, %v, %v", c, name, a, b, num)
		}
		for _, i := range []api.Ins{{Code: c}, {Code: c, A: 1}, {Code: c, B: 1}, {Code: c, Num: 1}} {
			if text, e := ops.Text(i); text != "" || e != api.ErrArg {
				t.Errorf("Text(%s) = %q, %v", fmt.Sprintf("%+v", i), text, e)
			}
		}
	}
}
