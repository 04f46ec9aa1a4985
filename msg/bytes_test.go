package msg

import (
	"bytes"
	"math/rand"
	"testing"

	"portage/api"
)

// P13.2: Put, Get, PutId, GetId

func TestBytes(t *testing.T) {
	for _, x := range []struct {
		i    api.Id
		want []byte
	}{
		{api.Id{Origin: 1, Dest: 2, Epoch: 3, Counter: 4}, []byte{1, 2, 0, 3, 0, 4}},
		{api.Id{Origin: 0, Dest: 1, Epoch: 1, Counter: 1}, []byte{0, 1, 0, 1, 0, 1}},
		{api.Id{Origin: 1, Dest: 0, Epoch: 1, Counter: 1}, []byte{1, 0, 0, 1, 0, 1}},
		{api.Id{Origin: 63, Dest: 62, Epoch: 65535, Counter: 65535}, []byte{63, 62, 255, 255, 255, 255}},
		{api.Id{Origin: 62, Dest: 63, Epoch: 65535, Counter: 1}, []byte{62, 63, 255, 255, 0, 1}},
		{api.Id{Origin: 10, Dest: 20, Epoch: 258, Counter: 772}, []byte{10, 20, 1, 2, 3, 4}},
		{api.Id{Origin: 10, Dest: 20, Epoch: 256, Counter: 255}, []byte{10, 20, 1, 0, 0, 255}},
		{api.Id{Origin: 10, Dest: 20, Epoch: 255, Counter: 256}, []byte{10, 20, 0, 255, 1, 0}},
	} {
		if p, e := PutId(x.i); e != api.OK || !bytes.Equal(p, x.want) {
			t.Errorf("PutId(%+v): % x %d, not % x", x.i, p, e, x.want)
		}
		if i, e := GetId(x.want); e != api.OK || i != x.i {
			t.Errorf("GetId(% x): %+v %d, not %+v", x.want, i, e, x.i)
		}
		for _, data := range [][]byte{{0}, {255}, []byte("x"), []byte("hello"), fill(47), fill(48), some(48, 3), make([]byte, 48)} {
			m := api.Msg{Id: x.i, Data: data}
			want := append(bytes.Clone(x.want), data...)
			if p, e := Put(m); e != api.OK || !bytes.Equal(p, want) {
				t.Errorf("Put(%+v): % x %d, not % x", m, p, e, want)
			}
			if got, e := Get(want); e != api.OK || !sameMsg(got, m) {
				t.Errorf("Get(% x): %+v %d, not %+v", want, got, e, m)
			}
		}
	}
}

func TestPutIdOfManyIds(t *testing.T) {
	for _, i := range append(allIds(), rightIds()...) {
		checkPutId(t, i)
	}
}

func TestPutOfManyMessages(t *testing.T) {
	for _, i := range append(allIds(), rightIds()...) {
		for _, length := range []int{0, 1, 48, 49} {
			checkPut(t, api.Msg{Id: i, Data: some(length, int64(length))})
		}
		checkPut(t, api.Msg{Id: i})
	}
	for length := range 300 {
		checkPut(t, api.Msg{Id: api.Id{Origin: 1, Dest: 2, Epoch: 3, Counter: 4}, Data: some(length, int64(length))})
	}
	checkPut(t, api.Msg{Id: api.Id{Origin: 1, Dest: 2, Epoch: 3, Counter: 4}, Data: fill(1 << 20)})
}

func TestPutRefusesByTheErrorNamedFirst(t *testing.T) {
	good := api.Id{Origin: 1, Dest: 2, Epoch: 3, Counter: 4}
	own := api.Id{Origin: 1, Dest: 1, Epoch: 3, Counter: 4}
	for _, x := range []struct {
		m    api.Msg
		want api.Errno
	}{
		{api.Msg{}, api.ErrRange},
		{api.Msg{Data: fill(49)}, api.ErrRange},
		{api.Msg{Id: own}, api.ErrForm},
		{api.Msg{Id: own, Data: fill(49)}, api.ErrForm},
		{api.Msg{Id: good}, api.ErrForm},
		{api.Msg{Id: good, Data: []byte{}}, api.ErrForm},
		{api.Msg{Id: good, Data: fill(49)}, api.ErrLong},
	} {
		if p, e := Put(x.m); e != x.want || len(p) != 0 {
			t.Errorf("%+v: % x %d, not %d", x.m, p, e, x.want)
		}
	}
}

func TestGetByLength(t *testing.T) {
	row := append([]byte{1, 2, 0, 3, 0, 4}, some(1000, 5)...)
	for length := range row {
		if ok := checkGet(t, row[:length]); ok != (length >= 7 && length <= 54) {
			t.Errorf("%d bytes: %t", length, ok)
		}
		if ok := checkGet(t, bytes.Clone(row[:length])); ok != (length >= 7 && length <= 54) {
			t.Errorf("%d bytes, cut: %t", length, ok)
		}
	}
	for _, p := range [][]byte{nil, {}, {1}, {1, 2, 0, 3, 0}, {1, 2, 0, 3, 0, 4}} {
		if m, e := Get(p); e != api.ErrForm || !isZero(m) {
			t.Errorf("% x: %+v %d", p, m, e)
		}
	}
	if m, e := Get(append([]byte{1, 2, 0, 3, 0, 4}, fill(1<<20)...)); e != api.ErrForm || !isZero(m) {
		t.Errorf("2^20 bytes: %d bytes, %d", len(m.Data), e)
	}
}

func TestGetIdByLength(t *testing.T) {
	row := []byte{1, 2, 0, 3, 0, 4, 0, 5, 9, 9, 9, 9}
	for length := range row {
		if ok := checkGetId(t, row[:length]); ok != (length == 6) {
			t.Errorf("%d bytes: %t", length, ok)
		}
		if ok := checkGetId(t, bytes.Clone(row[:length])); ok != (length == 6) {
			t.Errorf("%d bytes, cut: %t", length, ok)
		}
	}
	for _, p := range [][]byte{nil, {}, row[:5], row[:7], fill(54), fill(1 << 20)} {
		if i, e := GetId(p); e != api.ErrForm || (i != api.Id{}) {
			t.Errorf("%d bytes: %+v %d", len(p), i, e)
		}
	}
}

func TestGetOfIdsThatAreNotRight(t *testing.T) {
	for _, p := range [][]byte{
		{64, 2, 0, 3, 0, 4},
		{255, 2, 0, 3, 0, 4},
		{128, 2, 0, 3, 0, 4},
		{1, 64, 0, 3, 0, 4},
		{1, 255, 0, 3, 0, 4},
		{1, 2, 0, 0, 0, 4},
		{1, 2, 0, 3, 0, 0},
		{0, 0, 0, 3, 0, 4},
		{5, 5, 0, 3, 0, 4},
		{63, 63, 255, 255, 255, 255},
		{64, 64, 0, 3, 0, 4},
		{0, 0, 0, 0, 0, 0},
		{255, 255, 255, 255, 255, 255},
	} {
		if i, e := GetId(p); e != api.ErrForm || (i != api.Id{}) {
			t.Errorf("GetId(% x): %+v %d", p, i, e)
		}
		for _, length := range []int{0, 1, 48, 49} {
			row := append(bytes.Clone(p), fill(length)...)
			if m, e := Get(row); e != api.ErrForm || !isZero(m) {
				t.Errorf("Get(% x): %+v %d", row, m, e)
			}
		}
	}
}

func TestGetOfEachFirstBytes(t *testing.T) {
	for n := range 256 {
		for m := range 256 {
			checkGetId(t, []byte{byte(n), byte(m), 0, 3, 0, 4})
			checkGet(t, []byte{byte(n), byte(m), 0, 3, 0, 4, 'x'})
		}
	}
}

func TestGetOfEachEpochAndCounter(t *testing.T) {
	for n := range 256 {
		for m := range 256 {
			checkGetId(t, []byte{1, 2, byte(n), byte(m), 0, 4})
			checkGetId(t, []byte{1, 2, 0, 3, byte(n), byte(m)})
			checkGet(t, []byte{1, 2, byte(n), byte(m), 0, 4, 'x'})
			checkGet(t, []byte{1, 2, 0, 3, byte(n), byte(m), 'x'})
		}
	}
}

func TestGetOfAnyBytes(t *testing.T) {
	r := rand.New(rand.NewSource(14))
	met := 0
	for range 50000 {
		p := make([]byte, r.Intn(60))
		r.Read(p)
		for at := range min(2, len(p)) {
			p[at] %= 66
		}
		if checkGet(t, p) {
			met++
		}
		checkGetId(t, p[:min(len(p), naming)])
	}
	if met == 0 {
		t.Error("none was met")
	}
}

// P13.3

func TestGetIdOfPutId(t *testing.T) {
	for _, i := range rightIds() {
		p, e := PutId(i)
		if e != api.OK || len(p) != naming {
			t.Fatalf("%+v: % x %d", i, p, e)
		}
		if got, e := GetId(p); e != api.OK || got != i {
			t.Errorf("%+v: %+v %d", i, got, e)
		}
	}
	for n := 1; n <= most; n++ {
		for _, i := range []api.Id{{Origin: 1, Dest: 2, Epoch: n, Counter: 7}, {Origin: 63, Dest: 2, Epoch: 7, Counter: n}} {
			p, _ := PutId(i)
			if got, e := GetId(p); e != api.OK || got != i {
				t.Errorf("%+v: %+v %d", i, got, e)
			}
		}
	}
}

func TestPutIdOfGetId(t *testing.T) {
	r := rand.New(rand.NewSource(15))
	met := 0
	for range 50000 {
		p := make([]byte, naming)
		r.Read(p)
		p[0], p[1] = p[0]&127, p[1]&127
		i, e := GetId(p)
		if e != api.OK {
			continue
		}
		met++
		if again, e := PutId(i); e != api.OK || !bytes.Equal(again, p) {
			t.Errorf("% x: % x %d", p, again, e)
		}
	}
	if met == 0 {
		t.Error("none was met")
	}
}

func TestGetOfPut(t *testing.T) {
	for at, i := range rightIds() {
		for _, length := range []int{1, 2, 47, 48} {
			m := api.Msg{Id: i, Data: some(length, int64(at))}
			p, e := Put(m)
			if e != api.OK || len(p) != naming+length {
				t.Fatalf("%+v: % x %d", m, p, e)
			}
			got, e := Get(p)
			if e != api.OK || !sameMsg(got, m) || !Same(got, m) {
				t.Errorf("%+v: %+v %d", m, got, e)
			}
			if again, e := Put(got); e != api.OK || !bytes.Equal(again, p) {
				t.Errorf("% x: % x %d", p, again, e)
			}
			if named, e := GetId(p[:naming]); e != api.OK || named != i {
				t.Errorf("% x: %+v %d", p, named, e)
			}
		}
	}
}

func TestPutOfGet(t *testing.T) {
	r := rand.New(rand.NewSource(16))
	met := 0
	for range 50000 {
		p := make([]byte, naming+r.Intn(52))
		r.Read(p)
		p[0], p[1] = p[0]&127, p[1]&127
		m, e := Get(p)
		if e != api.OK {
			continue
		}
		met++
		if again, e := Put(m); e != api.OK || !bytes.Equal(again, p) {
			t.Errorf("% x: % x %d", p, again, e)
		}
	}
	if met == 0 {
		t.Error("none was met")
	}
}

// What is handed in is neither changed nor kept, and what is answered is new memory.

func TestPutSharesNothing(t *testing.T) {
	for _, length := range []int{1, 2, 10, 47, 48} {
		room := append(fill(length), 1, 2, 3, 4, 5, 6, 7, 8, 9)
		was := bytes.Clone(room)
		m := api.Msg{Id: api.Id{Origin: 1, Dest: 2, Epoch: 3, Counter: 4}, Data: room[:length]}
		one, _ := Put(m)
		two, _ := Put(m)
		want := append([]byte{1, 2, 0, 3, 0, 4}, fill(length)...)
		if !bytes.Equal(one, want) {
			t.Errorf("%d bytes: % x", length, one)
		}
		for _, p := range [][]byte{one[:cap(one)]} {
			for at := range p {
				p[at] ^= 0xff
			}
		}
		if !bytes.Equal(room, was) || !bytes.Equal(two, want) {
			t.Errorf("%d bytes: % x; % x", length, room, two)
		}
		clear(room)
		if !bytes.Equal(two, want) {
			t.Errorf("%d bytes, kept: % x", length, two)
		}
	}
}

func TestPutIdSharesNothing(t *testing.T) {
	i := api.Id{Origin: 1, Dest: 2, Epoch: 3, Counter: 4}
	one, _ := PutId(i)
	two, _ := PutId(i)
	one = one[:cap(one)]
	for at := range one {
		one[at] ^= 0xff
	}
	three, _ := PutId(i)
	want := []byte{1, 2, 0, 3, 0, 4}
	if !bytes.Equal(two, want) || !bytes.Equal(three, want) {
		t.Errorf("% x; % x", two, three)
	}
}

func TestGetSharesNothing(t *testing.T) {
	for _, length := range []int{1, 2, 10, 47, 48} {
		room := append([]byte{1, 2, 0, 3, 0, 4}, fill(length)...)
		end := len(room)
		room = append(room, 9, 9, 9, 9)
		was := bytes.Clone(room)
		one, _ := Get(room[:end])
		two, _ := Get(room[:end])
		data := one.Data[:cap(one.Data)]
		for at := range data {
			data[at] = 'z'
		}
		if !bytes.Equal(room, was) || !bytes.Equal(two.Data, fill(length)) {
			t.Errorf("%d bytes: % x; % x", length, room, two.Data)
		}
		clear(room)
		if !bytes.Equal(two.Data, fill(length)) {
			t.Errorf("%d bytes, kept: % x", length, two.Data)
		}
	}
}

func TestNothingIsChangedByAsking(t *testing.T) {
	room := append([]byte{1, 2, 0, 3, 0, 4}, fill(60)...)
	was := bytes.Clone(room)
	for length := range room {
		data := room[:length]
		m := api.Msg{Id: api.Id{Origin: 1, Dest: 2, Epoch: 3, Counter: 4}, Data: data}
		CheckMsg(m)
		Put(m)
		Get(data)
		GetId(data)
		Same(m, api.Msg{Id: m.Id, Data: room[:length/2]})
		if !bytes.Equal(room, was) {
			t.Fatalf("%d bytes: % x", length, room)
		}
	}
}
