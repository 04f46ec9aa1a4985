package hop_test

import (
	"math"
	"slices"
	"strings"
	"testing"

	"portage/api"
	"portage/hop"
)

// P20.1: Check, and what Put answers of what is not right

var edges = []int{0, 1, 2, 255, 256, 257, 32767, 32768, last - 1, last}

func TestWordsThatAreRight(t *testing.T) {
	for _, n := range edges {
		hi, lo := byte(n/256), byte(n%256)
		right(t, offer(n, m("1>2:3.4", "x")), []byte{1, hi, lo, 1, 2, 0, 3, 0, 4, 'x'})
		right(t, acked(n, "1>2:3.4"), []byte{2, hi, lo, 1, 2, 0, 3, 0, 4})
		right(t, refused(n, "63>0:65535.258"), []byte{3, hi, lo, 63, 0, 255, 255, 1, 2})
	}
	whole := strings.Repeat("w", payload)
	right(t, offer(last, m("0>63:1.65535", whole)), append([]byte{1, 255, 255, 0, 63, 0, 1, 255, 255}, whole...))
	right(t, offer(0, m("0>63:1.1", "\x00")), []byte{1, 0, 0, 0, 63, 0, 1, 0, 1, 0})
	costs, want := rising(nodes), []byte{4}
	for _, n := range costs {
		want = append(want, byte(n))
	}
	right(t, routes(costs), want)
	for _, n := range []int{0, 1, 15, far} {
		right(t, routes(slices.Repeat([]int{n}, nodes)), append([]byte{4}, slices.Repeat([]byte{byte(n)}, nodes)...))
	}
}

// A list without elements is nil's like.
func TestListsWithoutElements(t *testing.T) {
	for _, h := range []api.Hop{offer(1, m("1>2:3.4", "x")), acked(1, "1>2:3.4"), refused(1, "1>2:3.4"), routes(rising(nodes))} {
		want, e := hop.Put(h)
		if e != api.OK {
			t.Fatal(e)
		}
		if h.Costs == nil {
			h.Costs = []int{}
		}
		if h.Msg.Data == nil {
			h.Msg.Data = []byte{}
		}
		right(t, h, want)
	}
	checks(t, api.Hop{Kind: api.HOffer, Msg: api.Msg{Id: id("1>2:3.4"), Data: []byte{}}}, api.ErrForm)
	checks(t, api.Hop{Kind: api.HRoutes, Costs: []int{}}, api.ErrForm)
}

func TestKindsThatAreNone(t *testing.T) {
	words := []api.Hop{{}, offer(1, m("1>2:3.4", "x")), acked(1, "1>2:3.4"), refused(1, "1>2:3.4"), routes(rising(nodes)), offer(-1, m("1>1:3.4", ""))}
	for _, h := range words {
		for _, kind := range append([]int{0, 5, 6, 7, 128, 255, 256, 257, 258, 259, 260, 512, 1 << 16, 1<<16 + 1, 1<<32 + 2}, beyond...) {
			h.Kind = kind
			checks(t, h, api.ErrRange)
		}
	}
}

// words answers a right word of each kind.
func words() []api.Hop {
	return []api.Hop{offer(0, m("1>2:3.4", "x")), acked(0, "1>2:3.4"), refused(0, "1>2:3.4"), routes(rising(nodes))}
}

func TestNumbersOutOfRange(t *testing.T) {
	for _, h := range words() {
		for _, n := range beyond {
			h.N = n
			checks(t, h, api.ErrRange)
		}
	}
}

// Routes have no number: one that an offer could have is not out of its range, but of their form.
func TestNumbersOfRoutes(t *testing.T) {
	for _, n := range edges {
		h := routes(rising(nodes))
		h.N = n
		if n == 0 {
			if e := hop.Check(h); e != api.OK {
				t.Fatal(e)
			}
			continue
		}
		checks(t, h, api.ErrForm)
	}
}

// wrongIds are ids that are not right, and layer 13's errors.
func wrongIds() map[api.Id]api.Errno {
	out := map[api.Id]api.Errno{{}: api.ErrRange}
	for _, text := range []string{
		"-1>2:3.4", "64>2:3.4", "1>-1:3.4", "1>64:3.4", "1>2:0.4", "1>2:-1.4", "1>2:65536.4", "1>2:3.0", "1>2:3.-1", "1>2:3.65536",
		"257>2:3.4", "1>258:3.4", "1>2:65539.4", "1>2:3.65540", "1>1:0.1", "1>1:1.0", "64>64:1.1", "-1>-1:1.1",
	} {
		out[id(text)] = api.ErrRange
	}
	for _, text := range []string{"1>1:3.4", "0>0:1.1", "63>63:65535.65535"} {
		out[id(text)] = api.ErrForm
	}
	for _, n := range []int{math.MinInt, math.MaxInt} {
		out[api.Id{Origin: n, Dest: 2, Epoch: 3, Counter: 4}] = api.ErrRange
		out[api.Id{Origin: 1, Dest: n, Epoch: 3, Counter: 4}] = api.ErrRange
		out[api.Id{Origin: 1, Dest: 2, Epoch: n, Counter: 4}] = api.ErrRange
		out[api.Id{Origin: 1, Dest: 2, Epoch: 3, Counter: n}] = api.ErrRange
		out[api.Id{Origin: n, Dest: n, Epoch: n, Counter: n}] = api.ErrRange
	}
	return out
}

func TestIdsThatAreNotRight(t *testing.T) {
	for i, want := range wrongIds() {
		for _, h := range words()[:3] {
			h.Msg.Id = i
			checks(t, h, want)
			// an id is asked for ahead of Data and Costs
			for _, n := range []int{0, payload + 1} {
				h.Msg.Data = make([]byte, n)
				checks(t, h, want)
				h.Costs = rising(nodes)
				checks(t, h, want)
				h.Costs = nil
			}
			h.N = -1
			checks(t, h, api.ErrRange)
			h.N = last + 1
			checks(t, h, api.ErrRange)
		}
	}
}

func TestDataOfOffers(t *testing.T) {
	for _, n := range []int{1, 2, payload - 1, payload} {
		if e := hop.Check(offer(1, m("1>2:3.4", strings.Repeat("x", n)))); e != api.OK {
			t.Fatalf("%d: %d", n, e)
		}
	}
	for n, want := range map[int]api.Errno{0: api.ErrForm, payload + 1: api.ErrLong, payload + 2: api.ErrLong, 256: api.ErrLong, 257: api.ErrLong, 65536: api.ErrLong, 65537: api.ErrLong} {
		h := offer(1, m("1>2:3.4", strings.Repeat("x", n)))
		checks(t, h, want)
		// Data are asked for ahead of Costs
		h.Costs = []int{0}
		checks(t, h, want)
		h.N = last + 1
		checks(t, h, api.ErrRange)
	}
}

func TestDataOfAnswers(t *testing.T) {
	for _, h := range words()[1:3] {
		for _, n := range []int{1, 2, payload, payload + 1, 256} {
			h.Msg.Data = make([]byte, n)
			h.N = 1
			checks(t, h, api.ErrForm)
			h.N = -1
			checks(t, h, api.ErrRange)
		}
	}
}

func TestCostsOfOthers(t *testing.T) {
	for _, h := range words()[:3] {
		for _, costs := range [][]int{{0}, {far}, {-1}, rising(nodes - 1), rising(nodes), rising(nodes + 1)} {
			h.N, h.Costs = 1, costs
			checks(t, h, api.ErrForm)
			h.N = last + 1
			checks(t, h, api.ErrRange)
		}
	}
}

func TestCostsOfRoutes(t *testing.T) {
	for _, n := range []int{0, 1, nodes - 1, nodes + 1, nodes + 2, 2 * nodes, 256 + nodes} {
		checks(t, routes(rising(n)), api.ErrForm)
	}
	checks(t, routes(nil), api.ErrForm)
	for _, at := range []int{0, 1, nodes / 2, nodes - 1} {
		for _, n := range []int{0, 1, far - 1, far} {
			costs := rising(nodes)
			costs[at] = n
			if e := hop.Check(routes(costs)); e != api.OK {
				t.Fatalf("%v: %d", costs, e)
			}
		}
		for _, n := range []int{-1, far + 1, far + 2, 255, 256, 256 + far, math.MinInt, math.MaxInt} {
			costs := rising(nodes)
			costs[at] = n
			checks(t, routes(costs), api.ErrForm)
			h := routes(costs)
			h.N = -1
			checks(t, h, api.ErrRange)
		}
	}
}

func TestMessagesOfRoutes(t *testing.T) {
	for _, x := range []api.Msg{
		{Id: api.Id{Origin: 1}}, {Id: api.Id{Dest: 1}}, {Id: api.Id{Epoch: 1}}, {Id: api.Id{Counter: 1}}, {Data: []byte{0}},
		{Id: api.Id{Origin: -1}}, {Id: api.Id{Dest: 64}}, {Id: api.Id{Epoch: 65536}}, {Id: api.Id{Counter: math.MinInt}}, {Data: make([]byte, payload+1)},
		m("1>2:3.4", ""), m("1>2:3.4", "x"), m("1>1:3.4", ""), m("64>1:3.4", "x"),
	} {
		h := routes(rising(nodes))
		h.Msg = x
		checks(t, h, api.ErrForm)
		h.N = 1
		checks(t, h, api.ErrForm)
		h.N = last + 1
		checks(t, h, api.ErrRange)
	}
}
