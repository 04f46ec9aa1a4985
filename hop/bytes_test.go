package hop_test

import (
	"bytes"
	"fmt"
	"math/rand"
	"slices"
	"strings"
	"testing"

	"portage/api"
	"portage/hop"
)

// P20.1: Put and Get; P20.4

func TestBytesOfNoWord(t *testing.T) {
	unread(t, nil)
	unread(t, []byte{})
	for kind := range 256 {
		unread(t, []byte{byte(kind)})
	}
	whole := []byte{0, 1, 1, 2, 0, 3, 0, 4, 'x'}
	for kind := range 256 {
		if kind >= 1 && kind <= 4 {
			continue
		}
		for n := range whole {
			unread(t, append([]byte{byte(kind)}, whole[:n+1]...))
		}
		unread(t, append([]byte{byte(kind)}, make([]byte, nodes)...))
	}
}

// Of bytes of each length just these are words.
func TestBytesOfEachLength(t *testing.T) {
	row := append([]byte{0, 7, 1, 2, 0, 3, 0, 4}, slices.Repeat([]byte{5}, 300)...)
	for n := range len(row) {
		for kind, want := range []bool{0: false, 1: n >= 9 && n <= 8+payload, 2: n == 8, 3: n == 8, 4: n == nodes} {
			p := append([]byte{byte(kind)}, row[:n]...)
			h, e := hop.Get(p)
			if (e == api.OK) != want {
				t.Fatalf("Get of %d bytes of kind %d: %d", n, kind, e)
			}
			if !want {
				unread(t, p)
				continue
			}
			if h.Kind != kind {
				t.Fatalf("Get of %d bytes of kind %d: %+v", n, kind, h)
			}
		}
	}
	unread(t, append([]byte{4}, make([]byte, 1<<20)...))
	unread(t, append([]byte{1, 0, 7, 1, 2, 0, 3, 0, 4}, make([]byte, 1<<20)...))
}

func TestBytesOfIdsThatAreNotRight(t *testing.T) {
	for kind := byte(1); kind <= 3; kind++ {
		for _, p := range [][]byte{
			{64, 2, 0, 3, 0, 4}, {1, 64, 0, 3, 0, 4}, {255, 2, 0, 3, 0, 4}, {1, 255, 0, 3, 0, 4}, {1, 1, 0, 3, 0, 4}, {0, 0, 0, 3, 0, 4}, {1, 2, 0, 0, 0, 4}, {1, 2, 0, 3, 0, 0}, {0, 0, 0, 0, 0, 0},
		} {
			p = append([]byte{kind, 0, 7}, p...)
			if kind == 1 {
				p = append(p, 'x')
			}
			unread(t, p)
		}
	}
	unread(t, []byte{1, 0, 7, 1, 2, 0, 3, 0, 4})
	unread(t, append([]byte{1, 0, 7, 1, 2, 0, 3, 0, 4}, make([]byte, payload+1)...))
}

func TestBytesOfCosts(t *testing.T) {
	for at := range nodes {
		for n := range 256 {
			p := append([]byte{4}, slices.Repeat([]byte{3}, nodes)...)
			p[1+at] = byte(n)
			if n > far {
				unread(t, p)
				continue
			}
			h, e := hop.Get(p)
			if e != api.OK || h.Costs[at] != n || h.N != 0 || len(h.Costs) != nodes {
				t.Fatalf("Get of %v: %+v, %d", p, h, e)
			}
		}
	}
}

func TestEachNumberComesBack(t *testing.T) {
	for n := range last + 1 {
		for _, h := range []api.Hop{offer(n, m("1>2:3.4", "x")), acked(n, "1>2:3.4"), refused(n, "1>2:3.4")} {
			p, e := hop.Put(h)
			if e != api.OK || p[1] != byte(n>>8) || p[2] != byte(n) {
				t.Fatalf("Put of %+v: %v, %d", h, p, e)
			}
			if got, e := hop.Get(p); e != api.OK || !same(got, h) {
				t.Fatalf("Get of %v: %+v, %d", p, got, e)
			}
		}
	}
}

// No word needs more than 65 bytes: those of routes; an offer has at most 57.
func TestNoWordNeedsMoreThan65Bytes(t *testing.T) {
	for _, x := range []struct {
		h    api.Hop
		want int
	}{
		{offer(last, m("63>62:65535.65535", strings.Repeat("x", payload))), 57},
		{acked(last, "63>62:65535.65535"), 9},
		{refused(last, "63>62:65535.65535"), 9},
		{routes(slices.Repeat([]int{far}, nodes)), 65},
	} {
		if p, e := hop.Put(x.h); e != api.OK || len(p) != x.want {
			t.Fatalf("Put of %+v: %d bytes, %d", x.h, len(p), e)
		}
	}
}

// An independent reading of the chapter: what is right, and its bytes.

func idError(i api.Id) api.Errno {
	if i.Origin < 0 || i.Origin > 63 || i.Dest < 0 || i.Dest > 63 || i.Epoch < 1 || i.Epoch > 65535 || i.Counter < 1 || i.Counter > 65535 {
		return api.ErrRange
	}
	if i.Origin == i.Dest {
		return api.ErrForm
	}
	return api.OK
}

func wordError(h api.Hop) api.Errno {
	kinds := h.Kind == 1 || h.Kind == 2 || h.Kind == 3 || h.Kind == 4
	if !kinds || h.N < 0 || h.N > 65535 {
		return api.ErrRange
	}
	if h.Kind == 4 {
		whole := h.N == 0 && h.Msg.Id == (api.Id{}) && len(h.Msg.Data) == 0 && len(h.Costs) == 64
		for _, n := range h.Costs {
			whole = whole && n >= 0 && n <= 16
		}
		if !whole {
			return api.ErrForm
		}
		return api.OK
	}
	if e := idError(h.Msg.Id); e != api.OK {
		return e
	}
	n := len(h.Msg.Data)
	switch {
	case h.Kind == 1 && n == 0:
		return api.ErrForm
	case h.Kind == 1 && n > 48:
		return api.ErrLong
	case h.Kind != 1 && n > 0 || len(h.Costs) > 0:
		return api.ErrForm
	}
	return api.OK
}

func wordBytes(h api.Hop) []byte {
	two := func(n int) []byte { return []byte{byte(n / 256), byte(n % 256)} }
	out := []byte{byte(h.Kind)}
	if h.Kind == 4 {
		for _, n := range h.Costs {
			out = append(out, byte(n))
		}
		return out
	}
	i := h.Msg.Id
	return slices.Concat(out, two(h.N), []byte{byte(i.Origin), byte(i.Dest)}, two(i.Epoch), two(i.Counter), h.Msg.Data)
}

// someWord answers a word that is right, but for some numbers and lengths at and beyond their edges.
func someWord(r *rand.Rand, wrong int) api.Hop {
	number := func(low, high int) int {
		if r.Intn(100) < wrong {
			return []int{low - 1, high + 1, beyond[r.Intn(len(beyond))]}[r.Intn(3)]
		}
		return []int{low, high, low + r.Intn(high-low+1)}[r.Intn(3)]
	}
	h := api.Hop{Kind: number(1, 4), N: number(0, 65535)}
	others := r.Intn(100) < wrong
	if h.Kind == api.HRoutes && !others {
		h.N = 0
	}
	if h.Kind != api.HRoutes || others {
		h.Msg.Id = api.Id{Origin: number(0, 63), Dest: number(0, 63), Epoch: number(1, 65535), Counter: number(1, 65535)}
	}
	if h.Kind == api.HOffer || others {
		h.Msg.Data = make([]byte, []int{0, 1, 2 + r.Intn(46), 48, 49}[r.Intn(5)])
		r.Read(h.Msg.Data)
	}
	if h.Kind == api.HRoutes || r.Intn(100) < wrong {
		for range []int{64, 64, 64, 64, 63, 65, 0}[r.Intn(7)] {
			h.Costs = append(h.Costs, r.Intn(17))
		}
		if len(h.Costs) > 0 && r.Intn(100) < wrong {
			h.Costs[r.Intn(len(h.Costs))] = number(0, 16)
		}
	}
	return h
}

func TestRandomWords(t *testing.T) {
	met := map[string]int{}
	r := rand.New(rand.NewSource(20))
	for n := range 60000 {
		h := someWord(r, []int{0, 4, 20}[n%3])
		want := wordError(h)
		met[fmt.Sprint(h.Kind, want)]++
		if want != api.OK {
			checks(t, h, want)
			continue
		}
		right(t, h, wordBytes(h))
	}
	for kind := 1; kind <= 4; kind++ {
		for _, e := range []api.Errno{api.OK, api.ErrRange, api.ErrForm} {
			if met[fmt.Sprint(kind, e)] < 100 {
				t.Errorf("of kind %d just %d are answered by %d", kind, met[fmt.Sprint(kind, e)], e)
			}
		}
	}
}

// Whatever is read has these bytes; what is not read is no word's.
func TestRandomBytes(t *testing.T) {
	read := 0
	r := rand.New(rand.NewSource(21))
	for range 60000 {
		var p []byte
		if h := someWord(r, 0); wordError(h) == api.OK {
			p = wordBytes(h)
		}
		for range r.Intn(3) {
			switch at := r.Intn(len(p) + 1); {
			case at < len(p) && r.Intn(2) == 0:
				p[at] = byte(r.Intn(1 << (1 + r.Intn(8))))
			case r.Intn(2) == 0:
				p = p[:at]
			default:
				p = slices.Insert(p, at, byte(r.Intn(20)))
			}
		}
		got, e := hop.Get(p)
		if e == api.OK {
			read++
			if wordError(got) != api.OK || !bytes.Equal(wordBytes(got), p) {
				t.Fatalf("Get of %v: %+v", p, got)
			}
			if again, e := hop.Put(got); e != api.OK || !bytes.Equal(again, p) {
				t.Fatalf("Put of Get of %v: %v, %d", p, again, e)
			}
			continue
		}
		unread(t, p)
		if h, ok := reading(p); ok {
			t.Fatalf("%v are the bytes of %+v", p, h)
		}
	}
	if read < 10000 {
		t.Errorf("just %d were read", read)
	}
}

// reading answers the right word of which p are the bytes, by trying what it would be.
func reading(p []byte) (api.Hop, bool) {
	if len(p) == 0 {
		return api.Hop{}, false
	}
	h := api.Hop{Kind: int(p[0])}
	if h.Kind == 4 {
		for _, b := range p[1:] {
			h.Costs = append(h.Costs, int(b))
		}
	} else {
		if len(p) < 9 {
			return api.Hop{}, false
		}
		h.N = int(p[1])*256 + int(p[2])
		h.Msg.Id = api.Id{Origin: int(p[3]), Dest: int(p[4]), Epoch: int(p[5])*256 + int(p[6]), Counter: int(p[7])*256 + int(p[8])}
		h.Msg.Data = p[9:]
	}
	return h, wordError(h) == api.OK && bytes.Equal(wordBytes(h), p)
}
