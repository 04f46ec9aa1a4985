package bits

import (
	"bytes"
	"encoding/binary"
	"math"
	mathbits "math/bits"
	"math/rand"
	"testing"

	"portage/api"
)

// numbers answers numbers of each length, the ones beside each power of two among them.
func numbers() []uint64 {
	out := []uint64{0, math.MaxUint64, 0xaaaaaaaaaaaaaaaa, 0x5555555555555555, 0x0102030405060708, 0x8000000000000001}
	for i := range 64 {
		out = append(out, 1<<i, 1<<i-1, 1<<i+1)
	}
	r := rand.New(rand.NewSource(1))
	for range 200 {
		out = append(out, r.Uint64()>>r.Intn(64))
	}
	return out
}

// lowest answers n's lowest size bits, reckoned bit by bit.
func lowest(n uint64, size int) uint64 {
	var out uint64
	for i := range size {
		if n&(1<<i) != 0 {
			out |= 1 << i
		}
	}
	return out
}

func numberInBytes(n uint64, size int) []byte {
	return binary.BigEndian.AppendUint64(nil, n)[8-size:]
}

// P1.1

func TestPut(t *testing.T) {
	for _, c := range []struct {
		b    []byte
		n    uint64
		size int
		want []byte
		e    api.Errno
	}{
		{nil, 258, 2, []byte{1, 2}, api.OK},
		{[]byte{}, 258, 2, []byte{1, 2}, api.OK},
		{[]byte{9, 8}, 258, 3, []byte{9, 8, 0, 1, 2}, api.OK},
		{nil, 0, 1, []byte{0}, api.OK},
		{[]byte{7}, 0, 8, []byte{7, 0, 0, 0, 0, 0, 0, 0, 0}, api.OK},
		{nil, 255, 1, []byte{255}, api.OK},
		{nil, 256, 1, nil, api.ErrLong},
		{[]byte{9}, 256, 1, nil, api.ErrLong},
		{nil, 0xffff, 2, []byte{255, 255}, api.OK},
		{nil, 0x10000, 2, nil, api.ErrLong},
		{nil, 0x0100, 1, nil, api.ErrLong},
		{nil, 1 << 56, 7, nil, api.ErrLong},
		{nil, 1<<56 - 1, 7, bytes.Repeat([]byte{255}, 7), api.OK},
		{nil, math.MaxUint64, 7, nil, api.ErrLong},
		{nil, math.MaxUint64, 8, bytes.Repeat([]byte{255}, 8), api.OK},
		{nil, 0, 0, nil, api.ErrRange},
		{[]byte{9}, 0, 9, nil, api.ErrRange},
		{nil, 0, -1, nil, api.ErrRange},
		{nil, 0, math.MaxInt, nil, api.ErrRange},
		{nil, 0, math.MinInt, nil, api.ErrRange},
		{nil, 256, 0, nil, api.ErrRange}, // ErrRange is named ahead of ErrLong
	} {
		got, e := Put(c.b, c.n, c.size)
		if !bytes.Equal(got, c.want) || e != c.e {
			t.Errorf("Put(%x, %d, %d): %x %d, want %x %d", c.b, c.n, c.size, got, e, c.want, c.e)
		}
		if e != api.OK && got != nil {
			t.Errorf("Put(%x, %d, %d): bytes beside an error", c.b, c.n, c.size)
		}
	}
}

func TestPutOfEverySize(t *testing.T) {
	for _, n := range numbers() {
		for size := 1; size <= 8; size++ {
			got, e := Put([]byte("ab"), n, size)
			if lowest(n, 8*size) != n {
				if got != nil || e != api.ErrLong {
					t.Fatalf("Put(.., %#x, %d): %x %d", n, size, got, e)
				}
				continue
			}
			want := append([]byte("ab"), numberInBytes(n, size)...)
			if !bytes.Equal(got, want) || e != api.OK {
				t.Fatalf("Put(.., %#x, %d): %x %d, want %x", n, size, got, e, want)
			}
		}
	}
}

func TestPutSharesNothing(t *testing.T) {
	room := []byte{1, 2, 77, 77, 77, 77}
	b := room[:2]
	one, _ := Put(b, 5, 2)
	two, _ := Put(b, 6, 2)
	if !bytes.Equal(room, []byte{1, 2, 77, 77, 77, 77}) {
		t.Errorf("the room behind the list's end was changed: %v", room)
	}
	one[0], room[1] = 99, 99
	if !bytes.Equal(one, []byte{99, 2, 0, 5}) || !bytes.Equal(two, []byte{1, 2, 0, 6}) {
		t.Errorf("memory is shared: %v %v", one, two)
	}
}

func TestGet(t *testing.T) {
	p := []byte{9, 1, 2, 255}
	for _, c := range []struct {
		p        []byte
		at, size int
		want     uint64
		e        api.Errno
	}{
		{p, 1, 2, 258, api.OK},
		{p, 0, 4, 0x090102ff, api.OK},
		{p, 3, 1, 255, api.OK},
		{p, 3, 2, 0, api.ErrForm},
		{p, 0, 5, 0, api.ErrForm},
		{p, 4, 1, 0, api.ErrForm},
		{p, 5, 1, 0, api.ErrForm},
		{p[:2], 1, 2, 0, api.ErrForm}, // what lies behind the end is not of p
		{p, math.MaxInt, 1, 0, api.ErrForm},
		{p, math.MaxInt - 7, 8, 0, api.ErrForm},
		{nil, 0, 1, 0, api.ErrForm},
		{nil, math.MaxInt, 8, 0, api.ErrForm},
		{p, -1, 1, 0, api.ErrRange},
		{p, math.MinInt, 8, 0, api.ErrRange},
		{p, 0, 0, 0, api.ErrRange},
		{p, 0, -1, 0, api.ErrRange},
		{p, 0, 9, 0, api.ErrRange},
		{make([]byte, 20), 0, 9, 0, api.ErrRange},
		{p, 0, math.MaxInt, 0, api.ErrRange},
		{p, 0, math.MinInt, 0, api.ErrRange},
		{nil, 1, 9, 0, api.ErrRange}, // ErrRange is named ahead of ErrForm
	} {
		got, e := Get(c.p, c.at, c.size)
		if got != c.want || e != c.e {
			t.Errorf("Get(%x, %d, %d): %d %d, want %d %d", c.p, c.at, c.size, got, e, c.want, c.e)
		}
	}
	if !bytes.Equal(p, []byte{9, 1, 2, 255}) {
		t.Errorf("what was handed in was changed: %v", p)
	}
}

func TestGetOfEverySize(t *testing.T) {
	p := []byte{0x80, 0x01, 0, 0xff, 0x7f, 0xfe, 3, 4, 5, 6, 0xf0}
	for size := 1; size <= 8; size++ {
		for at := 0; at+size <= len(p); at++ {
			var whole [8]byte
			copy(whole[8-size:], p[at:at+size])
			want := binary.BigEndian.Uint64(whole[:])
			if got, e := Get(p, at, size); got != want || e != api.OK {
				t.Errorf("Get(.., %d, %d): %#x %d, want %#x", at, size, got, e, want)
			}
		}
	}
}

// P1.2

var wrongFields = [][2]int{
	{0, 0}, {0, -1}, {0, 65}, {-1, 1}, {-1, 0}, {64, 1}, {63, 2}, {60, 5}, {1, 64}, {65, 0}, {64, 0}, {66, -2},
	{math.MaxInt, 1}, {math.MaxInt, math.MaxInt}, {1, math.MaxInt}, {math.MinInt, 1},
	{0, math.MinInt}, {math.MinInt, math.MinInt}, {math.MinInt, math.MaxInt}, {math.MaxInt, math.MinInt},
}

func TestField(t *testing.T) {
	if got, e := Field(0b11011000, 3, 2); got != 3 || e != api.OK {
		t.Errorf("%d %d", got, e)
	}
	for _, n := range numbers() {
		for size := 1; size <= 64; size++ {
			for at := 0; at+size <= 64; at++ {
				if got, e := Field(n, at, size); got != lowest(n>>at, size) || e != api.OK {
					t.Fatalf("Field(%#x, %d, %d): %#x %d", n, at, size, got, e)
				}
			}
		}
	}
}

func TestFieldOfWrongFields(t *testing.T) {
	for _, f := range wrongFields {
		if got, e := Field(math.MaxUint64, f[0], f[1]); got != 0 || e != api.ErrRange {
			t.Errorf("Field(.., %d, %d): %d %d", f[0], f[1], got, e)
		}
	}
}

func TestSet(t *testing.T) {
	for _, c := range []struct {
		n        uint64
		at, size int
		v, want  uint64
		e        api.Errno
	}{
		{0, 4, 4, 15, 240, api.OK},
		{0, 4, 4, 16, 0, api.ErrLong},
		{0xff, 2, 3, 0, 0xe3, api.OK},
		{0xff, 2, 3, 5, 0xf7, api.OK},
		{0, 0, 1, 1, 1, api.OK},
		{0, 0, 1, 2, 0, api.ErrLong},
		{0, 63, 1, 1, 1 << 63, api.OK},
		{math.MaxUint64, 63, 1, 0, 1<<63 - 1, api.OK},
		{math.MaxUint64, 63, 1, 2, 0, api.ErrLong},
		{math.MaxUint64, 0, 64, 0, 0, api.OK},
		{0, 0, 64, math.MaxUint64, math.MaxUint64, api.OK},
		{0, 0, 63, 1 << 63, 0, api.ErrLong},
		{0, 1, 63, 1 << 63, 0, api.ErrLong},
		{0, 60, 5, 1 << 63, 0, api.ErrRange}, // ErrRange is named ahead of ErrLong
	} {
		if got, e := Set(c.n, c.at, c.size, c.v); got != c.want || e != c.e {
			t.Errorf("Set(%#x, %d, %d, %#x): %#x %d, want %#x %d", c.n, c.at, c.size, c.v, got, e, c.want, c.e)
		}
	}
	for _, f := range wrongFields {
		if got, e := Set(math.MaxUint64, f[0], f[1], 0); got != 0 || e != api.ErrRange {
			t.Errorf("Set(.., %d, %d, 0): %d %d", f[0], f[1], got, e)
		}
	}
}

// P1.3

func TestMirror(t *testing.T) {
	for _, c := range []struct {
		n    uint64
		size int
		want uint64
		e    api.Errno
	}{
		{1, 4, 8, api.OK},
		{0b1101, 4, 0b1011, api.OK},
		{0b1101, 6, 0b101100, api.OK},
		{16, 4, 0, api.ErrLong},
		{15, 4, 15, api.OK},
		{1, 1, 1, api.OK},
		{0, 1, 0, api.OK},
		{2, 1, 0, api.ErrLong},
		{1, 64, 1 << 63, api.OK},
		{1 << 63, 63, 0, api.ErrLong},
		{math.MaxUint64, 64, math.MaxUint64, api.OK},
		{0, 0, 0, api.ErrRange},
		{0, -1, 0, api.ErrRange},
		{0, 65, 0, api.ErrRange},
		{0, math.MaxInt, 0, api.ErrRange},
		{0, math.MinInt, 0, api.ErrRange},
		{1, 0, 0, api.ErrRange}, // ErrRange is named ahead of ErrLong
	} {
		if got, e := Mirror(c.n, c.size); got != c.want || e != c.e {
			t.Errorf("Mirror(%#x, %d): %#x %d, want %#x %d", c.n, c.size, got, e, c.want, c.e)
		}
	}
}

func TestMirrorOfEverySize(t *testing.T) {
	for _, n := range numbers() {
		for size := 1; size <= 64; size++ {
			got, e := Mirror(n, size)
			if lowest(n, size) != n {
				if got != 0 || e != api.ErrLong {
					t.Fatalf("Mirror(%#x, %d): %#x %d", n, size, got, e)
				}
				continue
			}
			if want := mathbits.Reverse64(n) >> (64 - size); got != want || e != api.OK {
				t.Fatalf("Mirror(%#x, %d): %#x %d, want %#x", n, size, got, e, want)
			}
		}
	}
}

func TestCount(t *testing.T) {
	for n, want := range map[uint64]int{0: 0, 1: 1, 1 << 63: 1, 0b1011: 3, math.MaxUint64: 64, math.MaxUint64 >> 1: 63} {
		if got := Count(n); got != want {
			t.Errorf("Count(%#x): %d, want %d", n, got, want)
		}
	}
	for _, n := range numbers() {
		if got := Count(n); got != mathbits.OnesCount64(n) {
			t.Errorf("Count(%#x): %d", n, got)
		}
	}
}

// P1.4

func TestGetOfPut(t *testing.T) {
	for _, b := range [][]byte{nil, {9}, []byte("hello, hop")} {
		for _, n := range numbers() {
			for size := 1; size <= 8; size++ {
				p, e := Put(b, n, size)
				if e != api.OK {
					continue
				}
				if got, e := Get(p, len(b), size); got != n || e != api.OK {
					t.Fatalf("Get of Put(%x, %#x, %d): %#x %d", b, n, size, got, e)
				}
			}
		}
	}
}

// P1.5

func TestFieldOfSet(t *testing.T) {
	for _, n := range []uint64{0, math.MaxUint64, 0x0123456789abcdef, 0xaaaaaaaaaaaaaaaa} {
		for size := 1; size <= 64; size++ {
			for at := 0; at+size <= 64; at++ {
				for _, v := range []uint64{0, 1, lowest(math.MaxUint64, size), lowest(0x5a5a5a5a5a5a5a5a, size)} {
					got, e := Set(n, at, size, v)
					if e != api.OK {
						t.Fatalf("Set(%#x, %d, %d, %#x): %d", n, at, size, v, e)
					}
					if f, e := Field(got, at, size); f != v || e != api.OK {
						t.Fatalf("Field of Set(%#x, %d, %d, %#x): %#x %d", n, at, size, v, f, e)
					}
					if (got^n)&^(lowest(math.MaxUint64, size)<<at) != 0 {
						t.Fatalf("Set(%#x, %d, %d, %#x): %#x has other bits outside the field", n, at, size, v, got)
					}
				}
			}
		}
	}
}

// P1.6

func TestMirrorOfMirror(t *testing.T) {
	for _, n := range numbers() {
		for size := 1; size <= 64; size++ {
			once, e := Mirror(n, size)
			if e != api.OK {
				continue
			}
			if twice, e := Mirror(once, size); twice != n || e != api.OK {
				t.Fatalf("Mirror of Mirror(%#x, %d): %#x %d", n, size, twice, e)
			}
			if Count(once) != Count(n) {
				t.Fatalf("Mirror(%#x, %d): %d ones, not %d", n, size, Count(once), Count(n))
			}
		}
	}
}
