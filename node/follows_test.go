package node_test

import (
	"fmt"
	"math/rand"
	"slices"
	"strings"
	"testing"

	"portage/api"
	"portage/disk"
	"portage/hop"
	"portage/msg"
	"portage/node"
)

// two are two nodes that are linked, 0 and 1; nothing is lost between them.
type two struct {
	t     *testing.T
	nodes [2]*node.Node
	disks [2]*disk.Disk
	s     api.Settings
	delay int         // exchanges that bytes need
	way   [2][][]byte // what is on its way from each of them, exchange by exchange

	accepted, delivered [2][]string // at each of them
}

func linked(t *testing.T, s api.Settings) *two {
	t.Helper()
	w := &two{t: t, s: s, delay: s.Delay}
	for self := range 2 {
		w.disks[self] = newDisk(t)
		w.begins(self)
	}
	return w
}

func (w *two) begins(self int) {
	w.t.Helper()
	n, e := node.New(self, []int{1 - self}, w.disks[self], w.s)
	ok(w.t, e)
	w.nodes[self] = n
	w.way = [2][][]byte{}
}

// exchange takes bytes from each, and lets the other receive what has come.
func (w *two) exchange() {
	w.t.Helper()
	for self, n := range w.nodes {
		w.way[self] = append(w.way[self], n.Take(1-self))
	}
	for self := range w.nodes {
		if len(w.way[self]) > w.delay {
			ok(w.t, w.nodes[1-self].Receive(self, w.way[self][0]))
			w.way[self] = w.way[self][1:]
		}
	}
	for self, n := range w.nodes {
		w.delivered[self] = append(w.delivered[self], texts(n.Delivered())...)
	}
}

func (w *two) tick() {
	w.t.Helper()
	for _, n := range w.nodes {
		ok(w.t, n.Tick())
	}
}

func (w *two) submit(self int, data string) {
	w.t.Helper()
	i, e := w.nodes[self].Submit(1-self, []byte(data))
	ok(w.t, e)
	w.accepted[self] = append(w.accepted[self], fmt.Sprintf("%s %s", text(i), data))
}

func (w *two) held(self int) int {
	return len(w.nodes[self].State().Held)
}

// Example 1. Without a tick nobody tells any routes, and nobody knows a next hop: so one passes ahead of the Submit's exchanges.
func TestTwoNodesThatAreLinked(t *testing.T) {
	w := linked(t, with(func(s *api.Settings) { s.Timer = 1; s.Tries = mostTimer }))
	up := func(want bool) {
		t.Helper()
		if w.nodes[0].Up(1) != want || w.nodes[1].Up(0) != want {
			t.Fatalf("up: %t, %t", w.nodes[0].Up(1), w.nodes[1].Up(0))
		}
	}
	up(false)
	w.exchange()
	up(false)
	w.exchange()
	up(true)
	w.submit(0, "x")
	w.tick()
	w.exchange()
	if len(w.delivered[1]) != 0 {
		t.Fatalf("%q", w.delivered[1])
	}
	w.exchange()
	if !slices.Equal(w.delivered[1], []string{"0>1:1.1 x"}) || w.held(0) != 1 {
		t.Fatalf("delivered %q, %d held", w.delivered[1], w.held(0))
	}
	w.exchange()
	if w.held(0) != 0 || w.held(1) != 0 || len(w.delivered[1]) != 1 || len(w.delivered[0]) != 0 {
		t.Fatalf("%d, %d held, delivered %q, %q", w.held(0), w.held(1), w.delivered[0], w.delivered[1])
	}
}

// The same where the clocks go on at each exchange.
func TestTwoNodesWhoseClocksGoOn(t *testing.T) {
	w := linked(t, with(func(s *api.Settings) { s.Timer = 1; s.Tries = mostTimer }))
	step := func() { w.tick(); w.exchange() }
	step()
	step()
	if !w.nodes[0].Up(1) || !w.nodes[1].Up(0) {
		t.Fatal("they are not up")
	}
	w.submit(0, "x")
	step()
	step()
	if !slices.Equal(w.delivered[1], []string{"0>1:1.1 x"}) {
		t.Fatalf("delivered %q", w.delivered[1])
	}
	step()
	if w.held(0) != 0 {
		t.Fatalf("%d held", w.held(0))
	}
}

// A route that was set needs no tick.
func TestTwoNodesWithARoute(t *testing.T) {
	w := linked(t, roomy())
	w.exchange()
	w.exchange()
	ok(t, w.nodes[0].Route(1, 1))
	w.submit(0, "x")
	w.exchange()
	if !slices.Equal(w.delivered[1], []string{"0>1:1.1 x"}) {
		t.Fatalf("delivered %q", w.delivered[1])
	}
	w.exchange()
	if w.held(0) != 0 {
		t.Fatalf("%d held", w.held(0))
	}
}

// P21.4: what the one accepts for the other is delivered there, once, in order, as it was, and held no more.
func TestWhatIsAcceptedIsDelivered(t *testing.T) {
	all := 0
	for seed := range 60 {
		rnd := rand.New(rand.NewSource(int64(seed)))
		w := linked(t, with(func(s *api.Settings) {
			s.Quota.Gaps = 0 // none is needed
			s.Window = 1 + rnd.Intn(mostWindow)
			s.Timer = 1 + rnd.Intn(8)
			s.Tries = 1 + rnd.Intn(4)
			s.Wait = 1 + rnd.Intn(8)
			s.Delay = rnd.Intn(3)
			s.Segment = 1<<14 + rnd.Intn(1<<14)
		}))
		most := [][2]int{{30, 30}, {200, 0}, {0, 200}}[seed%3] // so many are held at once: where both hold more than an end takes, acks find no room
		for range 40 {
			for self := range 2 {
				for range rnd.Intn(most[self] - min(w.held(self), most[self]) + 1) {
					w.submit(self, long(1+rnd.Intn(mostPayload)))
					all++
				}
			}
			if rnd.Intn(3) > 0 {
				w.tick()
			}
			for range rnd.Intn(4) {
				w.exchange()
			}
			if rnd.Intn(20) == 0 {
				ok(t, w.nodes[rnd.Intn(2)].Compact())
			}
		}
		for n := 0; w.held(0)+w.held(1) > 0; n++ {
			if n > 500 {
				t.Fatalf("seed %d: %d, %d are held still", seed, w.held(0), w.held(1))
			}
			w.tick()
			for range 8 * (w.delay + 1) {
				w.exchange()
			}
		}
		for self := range 2 {
			if !slices.Equal(w.delivered[1-self], w.accepted[self]) {
				t.Fatalf("seed %d: accepted %q; delivered %q", seed, w.accepted[self], w.delivered[1-self])
			}
			if bad := w.nodes[self].Bad(); bad != 0 {
				t.Fatalf("seed %d: bad %d", seed, bad)
			}
		}
	}
	if all < 10000 {
		t.Fatalf("only %d were accepted", all)
	}
}

// P21.4, while each of them loses its power now and then, and what is on its way with it.
func TestWhatIsAcceptedIsDeliveredBehindCrashes(t *testing.T) {
	for seed := range 60 {
		rnd := rand.New(rand.NewSource(int64(seed)))
		w := linked(t, with(func(s *api.Settings) { s.Timer = 1 + rnd.Intn(5); s.Segment = 1 << 16 }))
		for range 150 {
			self := rnd.Intn(2)
			switch rnd.Intn(12) {
			case 0:
				ok(t, w.disks[self].Crash([]int{rnd.Intn(40), rnd.Intn(40)}))
				w.begins(self)
			case 1, 2, 3:
				w.submit(self, long(1+rnd.Intn(mostPayload)))
			case 4, 5:
				w.tick()
			default:
				w.exchange()
			}
		}
		for range 300 {
			w.tick()
			w.exchange()
		}
		for self := range 2 {
			if w.held(self) > 0 {
				t.Fatalf("seed %d: %d are held", seed, w.held(self))
			}
			slices.Sort(w.delivered[1-self])
			slices.Sort(w.accepted[self])
			if !slices.Equal(w.delivered[1-self], w.accepted[self]) {
				t.Fatalf("seed %d: accepted %q; delivered %q", seed, w.accepted[self], w.delivered[1-self])
			}
		}
	}
}

// P21.5

// anyOffer answers an offer of one of a few messages, new ones and others.
func anyOffer(rnd *rand.Rand, n int) api.Hop {
	i := api.Id{Origin: rnd.Intn(4), Dest: []int{self, self, 1, 2, 5, 63}[rnd.Intn(6)], Epoch: 1 + rnd.Intn(2), Counter: 1 + rnd.Intn(12)}
	if i.Origin == i.Dest {
		i.Origin = 9
	}
	return api.Hop{Kind: api.HOffer, N: n, Msg: api.Msg{Id: i, Data: []byte(fmt.Sprint(i))}}
}

// has answers whether a state says that i is held, or was delivered.
func has(st api.State, i api.Id) bool {
	if slices.ContainsFunc(st.Held, func(m api.Msg) bool { return m.Id == i && string(m.Data) == fmt.Sprint(i) }) {
		return true
	}
	return i.Dest == st.Self && arrived(st, i)
}

// What is refused changes nothing; what is acked is held, or delivered, by what of the disk is safe.
func TestOffersThatAreRefusedAndAcked(t *testing.T) {
	counts := map[int]int{}
	for seed := range 60 {
		rnd := rand.New(rand.NewSource(int64(seed)))
		b := usualOf(t, with(func(s *api.Settings) {
			s.Quota = api.Quota{Held: 1 + rnd.Intn(8), Bytes: 50 + rnd.Intn(100), Gaps: rnd.Intn(5)}
			s.Segment = 16 + rnd.Intn(200)
		}))
		acked := map[api.Id]bool{} // what is acked, and not let go since
		for n := range 120 {
			if n%40 == 20 {
				ok(t, b.d.Limit(b.d.Used()+rnd.Intn(60)))
			}
			if n%40 == 0 {
				ok(t, b.d.Limit(mostDisk))
			}
			from, h := around[rnd.Intn(3)], anyOffer(rnd, n)
			was, safely := fmt.Sprint(b.n.State()), b.safe()
			b.says(from, h)
			answer := answerTo(t, b, from, h)
			counts[answer]++
			delivered := b.n.Delivered()
			switch answer {
			case api.HRefuse:
				if fmt.Sprint(b.n.State()) != was || delivered != nil {
					t.Fatalf("%s is refused: %s; not %s", word(h), b.view(), was)
				}
				st := b.safe() // what was let go may have become safe by that, but nothing else
				st.Held = slices.DeleteFunc(safely.Held, func(m api.Msg) bool { return !has(st, m.Id) && !has(b.n.State(), m.Id) })
				if fmt.Sprint(st) != fmt.Sprint(b.safe()) {
					t.Fatalf("%s is refused: safely there is %v; not %v", word(h), b.safe(), st)
				}
			case api.HAck:
				acked[h.Msg.Id] = true
				if len(delivered) > 1 || len(delivered) == 1 && !msg.Same(delivered[0], h.Msg) {
					t.Fatalf("%v", delivered)
				}
			}
			if rnd.Intn(3) == 0 { // one of those that are offered is let go
				if held := b.n.State().Held; len(held) > 0 {
					delete(acked, b.letGo(t, rnd))
				}
			}
			st := b.safe()
			for i := range acked {
				if !has(st, i) {
					t.Fatalf("%v was acked; safely there is %v", i, st)
				}
			}
		}
	}
	if counts[api.HRefuse] < 500 || counts[api.HAck] < 500 {
		t.Fatalf("%v", counts)
	}
}

// answerTo answers the kind of what goes out as the answer to an offer.
func answerTo(t *testing.T, b *bench, from int, h api.Hop) int {
	t.Helper()
	kind := 0
	for _, c := range b.take(from) {
		if c.Kind != api.CI {
			continue
		}
		got, e := hop.Get(c.Data)
		ok(t, e)
		if got.Kind == api.HOffer || got.Kind == api.HRoutes {
			continue
		}
		if kind != 0 || got.N != h.N || got.Msg.Id != h.Msg.Id {
			t.Fatalf("to %s: %s", word(h), word(got))
		}
		kind = got.Kind
	}
	if kind == 0 {
		t.Fatalf("nobody answers %s", word(h))
	}
	return kind
}

// letGo lets a side ack the last of the offers that it has heard, and answers its id.
func (b *bench) letGo(t *testing.T, rnd *rand.Rand) api.Id {
	t.Helper()
	b.settle()
	from := around[rnd.Intn(2)]
	heard := b.sides[from].heard
	for _, s := range slices.Backward(heard) {
		var n int
		var name string
		if strings.HasPrefix(s, "offer ") {
			if _, e := fmt.Sscanf(s, "offer %d %s", &n, &name); e != nil {
				t.Fatal(e)
			}
			b.says(from, ack(n, name))
			b.settle()
			return id(name)
		}
	}
	return api.Id{}
}

// P21.6, of any bytes
func TestRandomBytesOfWhichNoGoodFrameComes(t *testing.T) {
	asWas := laden(t).becomes()
	for seed := range 40 {
		rnd := rand.New(rand.NewSource(int64(seed)))
		b := laden(t)
		for range rnd.Intn(20) {
			p := make([]byte, rnd.Intn(400))
			for i := range p {
				p[i] = []byte{0x7e, 0x7d, 0x5e, 3, byte(rnd.Intn(256)), byte(rnd.Intn(256))}[rnd.Intn(6)]
			}
			ok(t, b.n.Receive(around[rnd.Intn(3)], p))
		}
		alike(t, fmt.Sprintf("seed %d", seed), b.becomes(), asWas)
	}
}
