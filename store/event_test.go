package store

import (
	"bytes"
	"math"
	"math/rand"
	"slices"
	"testing"

	"portage/api"
)

// P15.4

// checkPut asks that an event has these bytes, and they are its (P15.9).
func checkPut(t *testing.T, e api.Ev, want []byte) {
	t.Helper()
	p, fault := PutEv(e)
	if fault != api.OK || !bytes.Equal(p, want) {
		t.Fatalf("PutEv(%+v): %x, %d; not %x", e, p, fault, want)
	}
	back, fault := GetEv(p)
	if fault != api.OK || !sameEv(back, e) {
		t.Fatalf("GetEv(%x): %+v, %d; not %+v", p, back, fault, e)
	}
}

func sameEv(a, b api.Ev) bool {
	return a.Kind == b.Kind && a.Msg.Id == b.Msg.Id && bytes.Equal(a.Msg.Data, b.Msg.Data)
}

func checkPutErrs(t *testing.T, e api.Ev, want api.Errno) {
	t.Helper()
	if p, fault := PutEv(e); p != nil || fault != want {
		t.Fatalf("PutEv(%+v): %x, %d; not %d", e, p, fault, want)
	}
}

func checkGetErrs(t *testing.T, p []byte) {
	t.Helper()
	if e, fault := GetEv(p); fault != api.ErrForm || !sameEv(e, api.Ev{}) || e.Msg.Data != nil {
		t.Fatalf("GetEv(%x): %+v, %d", p, e, fault)
	}
}

func TestPutEvOfEachKind(t *testing.T) {
	checkPut(t, boot(), []byte{1})
	checkPut(t, api.Ev{Kind: 1, Msg: api.Msg{Data: []byte{}}}, []byte{1})
	checkPut(t, hold(id(1, 2, 3, 4), "x"), []byte{2, 1, 2, 0, 3, 0, 4, 'x'})
	checkPut(t, release(id(1, 2, 3, 4)), []byte{3, 1, 2, 0, 3, 0, 4})
	checkPut(t, deliver(id(1, 2, 3, 4)), []byte{4, 1, 2, 0, 3, 0, 4})
	checkPut(t, api.Ev{Kind: 3, Msg: ms(id(1, 2, 3, 4), "")}, []byte{3, 1, 2, 0, 3, 0, 4})
	checkPut(t, hold(id(0, 1, 1, 1), "\x00"), []byte{2, 0, 1, 0, 1, 0, 1, 0})
	checkPut(t, hold(id(63, 0, 65535, 258), long(48)), append([]byte{2, 63, 0, 255, 255, 1, 2}, long(48)...))
	checkPut(t, release(id(0, 63, 256, 65535)), []byte{3, 0, 63, 1, 0, 255, 255})
	checkPut(t, deliver(id(63, 62, 1, 65280)), []byte{4, 63, 62, 0, 1, 255, 0})
	checkPut(t, hold(id(1, 2, 3, 4), "\x02\x01\x02"), []byte{2, 1, 2, 0, 3, 0, 4, 2, 1, 2})
}

func TestPutEvOfWrongEvents(t *testing.T) {
	for _, kind := range []int{math.MinInt, -255, -1, 0, 5, 6, 255, 256, 257, 258, 1<<32 + 1, math.MaxInt} {
		checkPutErrs(t, api.Ev{Kind: kind}, api.ErrRange)
		checkPutErrs(t, api.Ev{Kind: kind, Msg: ms(id(1, 2, 3, 4), "x")}, api.ErrRange)
		checkPutErrs(t, api.Ev{Kind: kind, Msg: ms(id(1, 1, 3, 4), long(49))}, api.ErrRange)
	}
	for _, m := range []api.Msg{ms(id(0, 0, 0, 0), "x"), {Id: id(1, 0, 0, 0)}, {Id: id(0, 1, 0, 0)}, {Id: id(0, 0, 1, 0)}, {Id: id(0, 0, 0, 1)}, {Id: id(1, 2, 3, 4)}, ms(id(64, 2, 3, 4), "x"), ms(id(1, 2, 3, 4), long(49))} {
		checkPutErrs(t, api.Ev{Kind: 1, Msg: m}, api.ErrForm)
	}
	for _, i := range wrongIds() {
		checkPutErrs(t, hold(i, "x"), wantedId(i))
		checkPutErrs(t, hold(i, ""), wantedId(i))
		checkPutErrs(t, hold(i, long(49)), wantedId(i))
		for _, kind := range []int{3, 4} {
			checkPutErrs(t, api.Ev{Kind: kind, Msg: api.Msg{Id: i}}, wantedId(i))
			checkPutErrs(t, api.Ev{Kind: kind, Msg: ms(i, "x")}, wantedId(i))
		}
	}
	right := id(1, 2, 3, 4)
	checkPutErrs(t, hold(right, ""), api.ErrForm)
	checkPutErrs(t, api.Ev{Kind: 2, Msg: api.Msg{Id: right}}, api.ErrForm)
	checkPutErrs(t, hold(right, long(49)), api.ErrLong)
	checkPutErrs(t, hold(right, long(1000)), api.ErrLong)
	for _, kind := range []int{3, 4} {
		checkPutErrs(t, api.Ev{Kind: kind, Msg: ms(right, "x")}, api.ErrForm)
		checkPutErrs(t, api.Ev{Kind: kind, Msg: ms(right, long(49))}, api.ErrForm)
	}
}

// An event may be right, and no store would take it.
func TestPutEvAsksNoStore(t *testing.T) {
	checkPut(t, deliver(id(1, 2, 65535, 65535)), []byte{4, 1, 2, 255, 255, 255, 255})
	checkPut(t, release(id(62, 63, 65535, 65535)), []byte{3, 62, 63, 255, 255, 255, 255})
}

func TestGetEvOfWrongBytes(t *testing.T) {
	checkGetErrs(t, nil)
	checkGetErrs(t, []byte{})
	i := []byte{1, 2, 0, 3, 0, 4}
	for kind := range 256 { // of a kind that is none
		if kind >= 1 && kind <= 4 {
			continue
		}
		checkGetErrs(t, []byte{byte(kind)})
		checkGetErrs(t, append([]byte{byte(kind)}, i...))
		checkGetErrs(t, append([]byte{byte(kind)}, append(i, 'x')...))
	}
	for n := range 60 { // too few and too many
		rest := append(slices.Clone(i), long(60)...)[:n]
		if n != 0 {
			checkGetErrs(t, append([]byte{1}, rest...))
		}
		if n < 7 || n > 54 {
			checkGetErrs(t, append([]byte{2}, rest...))
		}
		if n != 6 {
			checkGetErrs(t, append([]byte{3}, rest...))
			checkGetErrs(t, append([]byte{4}, rest...))
		}
	}
}

func TestGetEvOfIdsThatAreNotRight(t *testing.T) {
	for _, i := range [][]byte{{64, 2, 0, 1, 0, 1}, {1, 64, 0, 1, 0, 1}, {255, 2, 0, 1, 0, 1}, {1, 2, 0, 0, 0, 1}, {1, 2, 0, 1, 0, 0}, {1, 1, 0, 1, 0, 1}, {0, 0, 0, 0, 0, 0}} {
		checkGetErrs(t, append([]byte{2}, append(slices.Clone(i), 'x')...))
		checkGetErrs(t, append([]byte{3}, i...))
		checkGetErrs(t, append([]byte{4}, i...))
	}
}

// P15.9, of events as they come
func TestGetEvOfPutEv(t *testing.T) {
	rnd := rand.New(rand.NewSource(4))
	for range 5000 {
		i := id(rnd.Intn(64), rnd.Intn(64), 1+rnd.Intn(most), 1+rnd.Intn(most))
		if i.Origin == i.Dest {
			continue
		}
		e := api.Ev{Kind: 2 + rnd.Intn(3), Msg: api.Msg{Id: i}}
		want := []byte{byte(e.Kind), byte(i.Origin), byte(i.Dest), byte(i.Epoch >> 8), byte(i.Epoch), byte(i.Counter >> 8), byte(i.Counter)}
		if e.Kind == 2 {
			e.Msg.Data = make([]byte, 1+rnd.Intn(payload))
			rnd.Read(e.Msg.Data)
			want = append(want, e.Msg.Data...)
		}
		checkPut(t, e, want)
	}
}

// P15.9, of bytes as they come
func TestPutEvOfGetEv(t *testing.T) {
	rnd := rand.New(rand.NewSource(9))
	met := map[int]int{}
	for range 50000 {
		p := make([]byte, rnd.Intn(10))
		for at := range p {
			p[at] = byte(rnd.Intn(3))
		}
		if len(p) > 0 {
			p[0] = byte(rnd.Intn(6))
		}
		e, fault := GetEv(p)
		if fault != api.OK {
			checkGetErrs(t, p)
			continue
		}
		met[e.Kind]++
		if wantedEv(e) != api.OK {
			t.Fatalf("GetEv(%x): %+v", p, e)
		}
		checkPut(t, e, p)
	}
	for kind := 1; kind <= 4; kind++ {
		if met[kind] < 20 {
			t.Errorf("the kind %d: met %d times", kind, met[kind])
		}
	}
}
