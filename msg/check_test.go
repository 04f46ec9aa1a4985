package msg

import (
	"bytes"
	"math"
	"testing"

	"portage/api"
)

// P13.1: Check

func TestCheckOfNodes(t *testing.T) {
	for _, x := range []struct {
		n    int
		want api.Errno
	}{
		{math.MinInt, api.ErrRange},
		{-1, api.ErrRange},
		{0, api.OK},
		{1, api.OK},
		{62, api.OK},
		{63, api.OK},
		{64, api.ErrRange},
		{255, api.ErrRange},
		{256, api.ErrRange}, // as a byte it is right
		{1 << 32, api.ErrRange},
		{math.MaxInt, api.ErrRange},
	} {
		if e := Check(api.Id{Origin: x.n, Dest: 5, Epoch: 1, Counter: 1}); e != x.want {
			t.Errorf("an Origin of %d: %d, not %d", x.n, e, x.want)
		}
		if e := Check(api.Id{Origin: 5, Dest: x.n, Epoch: 1, Counter: 1}); e != x.want {
			t.Errorf("a Dest of %d: %d, not %d", x.n, e, x.want)
		}
		want := x.want
		if want == api.OK {
			want = api.ErrForm
		}
		if e := Check(api.Id{Origin: x.n, Dest: x.n, Epoch: 1, Counter: 1}); e != want {
			t.Errorf("both of %d: %d, not %d", x.n, e, want)
		}
	}
}

func TestCheckOfAllNodes(t *testing.T) {
	for n := range nodes {
		for m := range nodes {
			want := api.OK
			if n == m {
				want = api.ErrForm
			}
			if e := Check(api.Id{Origin: n, Dest: m, Epoch: 1, Counter: 1}); e != want {
				t.Errorf("%d to %d: %d, not %d", n, m, e, want)
			}
		}
	}
}

func TestCheckOfEpochsAndCounters(t *testing.T) {
	for _, x := range []struct {
		n    int
		want api.Errno
	}{
		{math.MinInt, api.ErrRange},
		{-65535, api.ErrRange},
		{-1, api.ErrRange},
		{0, api.ErrRange},
		{1, api.OK},
		{2, api.OK},
		{64, api.OK},
		{256, api.OK},
		{65534, api.OK},
		{65535, api.OK},
		{65536, api.ErrRange},
		{65537, api.ErrRange}, // as two bytes it is right
		{1<<32 + 1, api.ErrRange},
		{math.MaxInt, api.ErrRange},
	} {
		if e := Check(api.Id{Origin: 1, Dest: 2, Epoch: x.n, Counter: 1}); e != x.want {
			t.Errorf("an Epoch of %d: %d, not %d", x.n, e, x.want)
		}
		if e := Check(api.Id{Origin: 1, Dest: 2, Epoch: 1, Counter: x.n}); e != x.want {
			t.Errorf("a Counter of %d: %d, not %d", x.n, e, x.want)
		}
		if e := Check(api.Id{Origin: 1, Dest: 2, Epoch: x.n, Counter: x.n}); e != x.want {
			t.Errorf("both of %d: %d, not %d", x.n, e, x.want)
		}
	}
}

func TestCheckTellsARangeAheadOfAForm(t *testing.T) {
	for _, i := range []api.Id{
		{},
		{Origin: 5, Dest: 5, Epoch: 0, Counter: 1},
		{Origin: 5, Dest: 5, Epoch: 1, Counter: 0},
		{Origin: 5, Dest: 5, Epoch: 65536, Counter: 1},
		{Origin: 5, Dest: 5, Epoch: 1, Counter: 65536},
		{Origin: 64, Dest: 64, Epoch: 1, Counter: 1},
		{Origin: -1, Dest: -1, Epoch: 1, Counter: 1},
		{Origin: math.MaxInt, Dest: math.MaxInt, Epoch: math.MaxInt, Counter: math.MaxInt},
		{Origin: math.MinInt, Dest: math.MinInt, Epoch: math.MinInt, Counter: math.MinInt},
	} {
		if e := Check(i); e != api.ErrRange {
			t.Errorf("%+v: %d", i, e)
		}
	}
}

func TestCheckOfManyIds(t *testing.T) {
	met := map[api.Errno]int{}
	for _, i := range allIds() {
		want := wantedOf(i)
		met[want]++
		if e := Check(i); e != want {
			t.Errorf("%+v: %d, not %d", i, e, want)
		}
	}
	for _, e := range []api.Errno{api.OK, api.ErrRange, api.ErrForm} {
		if met[e] == 0 {
			t.Errorf("%d was not met", e)
		}
	}
}

// P13.1: CheckMsg

func TestCheckMsgOfData(t *testing.T) {
	for _, x := range []struct {
		data []byte
		want api.Errno
	}{
		{nil, api.ErrForm},
		{[]byte{}, api.ErrForm},
		{make([]byte, 0, 48), api.ErrForm},
		{[]byte{0}, api.OK},
		{fill(1), api.OK},
		{fill(2), api.OK},
		{fill(47), api.OK},
		{fill(48), api.OK},
		{make([]byte, 48), api.OK},
		{fill(100)[:48], api.OK},
		{fill(49), api.ErrLong},
		{fill(54), api.ErrLong},
		{fill(128), api.ErrLong},
		{fill(256), api.ErrLong},
		{fill(1<<16 + 1), api.ErrLong},
	} {
		if e := CheckMsg(api.Msg{Id: api.Id{Origin: 1, Dest: 2, Epoch: 3, Counter: 4}, Data: x.data}); e != x.want {
			t.Errorf("%d bytes: %d, not %d", len(x.data), e, x.want)
		}
	}
}

func TestCheckMsgTellsTheIdsErrorAhead(t *testing.T) {
	for _, data := range [][]byte{nil, {}, fill(1), fill(48), fill(49), fill(1000)} {
		for _, x := range []struct {
			i    api.Id
			want api.Errno
		}{
			{api.Id{}, api.ErrRange},
			{api.Id{Origin: 64, Dest: 2, Epoch: 3, Counter: 4}, api.ErrRange},
			{api.Id{Origin: 1, Dest: -1, Epoch: 3, Counter: 4}, api.ErrRange},
			{api.Id{Origin: 1, Dest: 2, Epoch: 0, Counter: 4}, api.ErrRange},
			{api.Id{Origin: 1, Dest: 2, Epoch: 3, Counter: 65536}, api.ErrRange},
			{api.Id{Origin: 1, Dest: 1, Epoch: 0, Counter: 4}, api.ErrRange},
			{api.Id{Origin: 1, Dest: 1, Epoch: 3, Counter: 4}, api.ErrForm},
			{api.Id{Origin: 63, Dest: 63, Epoch: 65535, Counter: 65535}, api.ErrForm},
		} {
			if e := CheckMsg(api.Msg{Id: x.i, Data: data}); e != x.want {
				t.Errorf("%+v, %d bytes: %d, not %d", x.i, len(data), e, x.want)
			}
		}
	}
}

func TestCheckMsgOfManyIds(t *testing.T) {
	met := map[api.Errno]int{}
	for _, i := range allIds() {
		for _, length := range []int{0, 1, 48, 49} {
			m := api.Msg{Id: i, Data: fill(length)}
			want := wantedOfMsg(m)
			met[want]++
			if e := CheckMsg(m); e != want {
				t.Errorf("%+v, %d bytes: %d, not %d", i, length, e, want)
			}
		}
	}
	for _, e := range []api.Errno{api.OK, api.ErrRange, api.ErrForm, api.ErrLong} {
		if met[e] == 0 {
			t.Errorf("%d was not met", e)
		}
	}
}

// P13.1: Same

func TestSame(t *testing.T) {
	base := api.Msg{Id: api.Id{Origin: 1, Dest: 2, Epoch: 3, Counter: 4}, Data: []byte("ab")}
	for name, change := range map[string]func(*api.Msg){
		"Origin":             func(m *api.Msg) { m.Id.Origin = 3 },
		"Dest":               func(m *api.Msg) { m.Id.Dest = 3 },
		"Epoch":              func(m *api.Msg) { m.Id.Epoch = 4 },
		"Counter":            func(m *api.Msg) { m.Id.Counter = 5 },
		"Origin and Dest":    func(m *api.Msg) { m.Id.Origin, m.Id.Dest = 2, 1 },
		"Epoch and Counter":  func(m *api.Msg) { m.Id.Epoch, m.Id.Counter = 4, 3 },
		"Origin, below 0":    func(m *api.Msg) { m.Id.Origin = -1 },
		"Origin by 2^8":      func(m *api.Msg) { m.Id.Origin += 1 << 8 },
		"Dest by 2^8":        func(m *api.Msg) { m.Id.Dest += 1 << 8 },
		"Epoch by 2^16":      func(m *api.Msg) { m.Id.Epoch += 1 << 16 },
		"Counter by 2^16":    func(m *api.Msg) { m.Id.Counter += 1 << 16 },
		"Counter by 2^32":    func(m *api.Msg) { m.Id.Counter += 1 << 32 },
		"Dest, the least":    func(m *api.Msg) { m.Id.Dest = math.MinInt },
		"Epoch, the most":    func(m *api.Msg) { m.Id.Epoch = math.MaxInt },
		"no Data":            func(m *api.Msg) { m.Data = nil },
		"an empty list":      func(m *api.Msg) { m.Data = []byte{} },
		"a byte fewer":       func(m *api.Msg) { m.Data = []byte("a") },
		"a byte more":        func(m *api.Msg) { m.Data = []byte("abc") },
		"a nought more":      func(m *api.Msg) { m.Data = []byte("ab\x00") },
		"another last byte":  func(m *api.Msg) { m.Data = []byte("ac") },
		"another first byte": func(m *api.Msg) { m.Data = []byte("bb") },
		"another order":      func(m *api.Msg) { m.Data = []byte("ba") },
		"other letters":      func(m *api.Msg) { m.Data = []byte("AB") },
		"too much Data":      func(m *api.Msg) { m.Data = fill(1000) },
		"all":                func(m *api.Msg) { *m = api.Msg{} },
	} {
		other := base
		change(&other)
		if Same(base, other) || Same(other, base) {
			t.Errorf("%s: the same", name)
		}
		again := other
		again.Data = bytes.Clone(other.Data)
		if !Same(other, other) || !Same(other, again) || !Same(again, other) {
			t.Errorf("%s: not the same as itself", name)
		}
	}
}

func TestSameOfNoData(t *testing.T) {
	for _, i := range []api.Id{{}, {Origin: 1, Dest: 2, Epoch: 3, Counter: 4}, {Origin: -1, Dest: 64, Epoch: 1 << 40, Counter: -7}} {
		a, b := api.Msg{Id: i}, api.Msg{Id: i, Data: []byte{}}
		if !Same(a, b) || !Same(b, a) || !Same(a, a) || !Same(b, b) {
			t.Errorf("%+v: a list without elements is nil's like", i)
		}
		c := api.Msg{Id: i, Data: []byte{0}}
		if Same(a, c) || Same(c, a) || Same(b, c) || Same(c, b) {
			t.Errorf("%+v: none and one nought are the same", i)
		}
	}
}

func TestSameOfOneUnlikeByte(t *testing.T) {
	for _, length := range []int{1, 2, 47, 48, 49, 1000} {
		a := api.Msg{Id: api.Id{Origin: 1, Dest: 2, Epoch: 3, Counter: 4}, Data: some(length, 1)}
		for at := range length {
			b := api.Msg{Id: a.Id, Data: bytes.Clone(a.Data)}
			if !Same(a, b) {
				t.Fatalf("%d bytes: not the same", length)
			}
			b.Data[at] ^= 1
			if Same(a, b) || Same(b, a) {
				t.Errorf("%d bytes, unlike at %d: the same", length, at)
			}
			b.Data[at] ^= 0x81
			if Same(a, b) || Same(b, a) {
				t.Errorf("%d bytes, unlike at %d: the same", length, at)
			}
		}
		if b := (api.Msg{Id: a.Id, Data: a.Data[:length-1]}); Same(a, b) || Same(b, a) {
			t.Errorf("%d bytes, one fewer: the same", length)
		}
	}
}

func TestSameOfManyIds(t *testing.T) {
	all := allIds()
	for x, a := range all {
		for _, y := range []int{x, x + 1, x + 2, x + 6, x + 46} {
			b := all[y%len(all)]
			if got := Same(api.Msg{Id: a, Data: fill(3)}, api.Msg{Id: b, Data: fill(3)}); got != (a == b) {
				t.Errorf("%+v, %+v: %t", a, b, got)
			}
		}
	}
}
