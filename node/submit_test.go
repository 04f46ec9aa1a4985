package node_test

import (
	"fmt"
	"testing"

	"portage/api"
)

// P21.2: Submit

func TestSubmitToANeighbour(t *testing.T) {
	b := usual(t)
	b.submits(1, "abc", "3>1:1.1")
	b.holds("3>1:1.1 abc")
	b.safelyHolds("3>1:1.1 abc")
	b.goesOut(1, "i 0/1 offer 0 3>1:1.1 abc")
	b.goesOut(2)
	b.goesOut(6)
	b.settle()
	b.heard(1, "offer 0 3>1:1.1 abc")
	b.submits(2, "de", "3>2:1.1")
	b.submits(1, "f", "3>1:1.2")
	b.holds("3>1:1.1 abc", "3>2:1.1 de", "3>1:1.2 f")
	b.hears(1, "offer 2 3>1:1.2 f")
	b.hears(2, "offer 1 3>2:1.1 de")
	b.hears(6)
	b.delivers()
}

func TestSubmitToANodeFarAway(t *testing.T) {
	b := usual(t)
	b.submits(5, "abc", "3>5:1.1")
	b.submits(9, "de", "3>9:1.1")
	b.hears(2, "offer 0 3>5:1.1 abc", "offer 1 3>9:1.1 de")
	b.hears(1)
	b.hears(6)
}

// It is held till a way is known, also where nobody has ever heard of that node.
func TestSubmitToANodeThatNoWayLeadsTo(t *testing.T) {
	b := usual(t)
	b.submits(6, "x", "3>6:1.1") // a neighbour, but it said nothing of itself
	b.submits(63, "y", "3>63:1.1")
	b.submits(0, "z", "3>0:1.1")
	b.nobodyHears()
	b.holds("3>6:1.1 x", "3>63:1.1 y", "3>0:1.1 z")
	b.says(6, tells(6, 0, 0, 15)) // 0 costs 16 by it
	b.hears(6, "offer 0 3>6:1.1 x")
	b.says(2, tells(2, 0, 63, 14, 0, 2))
	b.hears(2, "offer 1 3>63:1.1 y", "offer 2 3>0:1.1 z")
	b.hears(1)
}

func TestSubmitToANeighbourThatIsNotUp(t *testing.T) {
	b := alone(t, roomy(), around...)
	b.submits(1, "x", "3>1:1.1")
	b.goesOut(1, "sabme")
	ok(t, b.n.Route(1, 1)) // the next hop is known, but its end is not up
	b.submits(1, "y", "3>1:1.2")
	b.goesOut(1)
	b.holds("3>1:1.1 x", "3>1:1.2 y")
	ok(t, b.back(1))
	ok(t, b.back(1))
	b.hears(1, "offer 0 3>1:1.1 x", "offer 1 3>1:1.2 y") // once it is
	b.hears(2)
}

func TestSubmitOfAsMuchAsAMessageMayHold(t *testing.T) {
	b := usual(t)
	for n, size := range []int{1, 2, mostPayload - 1, mostPayload} {
		i := fmt.Sprintf("3>5:1.%d", n+1)
		b.submits(5, long(size), i)
		b.hears(2, fmt.Sprintf("offer %d %s %s", n, i, long(size)))
	}
	p := make([]byte, mostPayload) // any bytes
	for i := range p {
		p[i] = byte(0x70 + i)
	}
	b.submits(5, string(p), "3>5:1.5")
	b.hears(2, "offer 4 3>5:1.5 "+string(p))
}

func wrongSubmits() map[api.Errno][]called {
	out := map[api.Errno][]called{
		api.ErrForm: {submitting(self, "x"), submitting(self, ""), submitting(self, long(mostPayload+1)), submitting(1, ""), submitting(5, ""), submitting(63, "")},
		api.ErrLong: {submitting(1, long(mostPayload+1)), submitting(63, long(1000)), submitting(5, long(1<<17))},
	}
	for _, dest := range beyond {
		out[api.ErrRange] = append(out[api.ErrRange], submitting(dest, "x"), submitting(dest, ""), submitting(dest, long(mostPayload+1)))
	}
	return out
}

func TestSubmitThatIsRefused(t *testing.T) {
	for want, calls := range wrongSubmits() {
		for _, c := range calls {
			leaves(t, func() *bench { return laden(t) }, want, c)
		}
	}
}

// laden answers a node that holds some messages: one that is offered, one that waits, one that lies; and that has delivered one.
func laden(t *testing.T) *bench {
	t.Helper()
	return ladenOf(t, roomy())
}

func ladenOf(t *testing.T, s api.Settings) *bench {
	t.Helper()
	b := usualOf(t, s)
	b.submits(1, "offered", "3>1:1.1")
	b.submits(5, "waits", "3>5:1.1")
	b.submits(63, "lies", "3>63:1.1")
	b.hears(1, "offer 0 3>1:1.1 offered")
	b.hears(2, "offer 1 3>5:1.1 waits")
	b.says(2, refuse(1, "3>5:1.1"), offer(9, "2>3:1.1", "came"))
	b.hears(2, "ack 9 2>3:1.1")
	return b
}

func TestSubmitWithQuotasThatAreFull(t *testing.T) {
	held := func() *bench {
		return ladenOf(t, with(func(s *api.Settings) { s.Quota.Held = 3 }))
	}
	leaves(t, held, api.ErrFull, submitting(1, "x"), submitting(5, long(mostPayload)), submitting(63, "x"))
	leaves(t, held, api.ErrForm, submitting(1, ""), submitting(self, "x"))
	leaves(t, held, api.ErrLong, submitting(1, long(mostPayload+1)))
	leaves(t, held, api.ErrRange, submitting(nodes, "x"))
	bytes := func() *bench {
		return ladenOf(t, with(func(s *api.Settings) { s.Quota.Bytes = 20 })) // 16 are held
	}
	leaves(t, bytes, api.ErrFull, submitting(1, "12345"), submitting(63, long(mostPayload)))
	b := bytes()
	b.submits(1, "1234", "3>1:1.2")
	none := func() *bench {
		return usualOf(t, with(func(s *api.Settings) { s.Quota = api.Quota{} }))
	}
	leaves(t, none, api.ErrFull, submitting(1, "x"), submitting(63, "x"))
	// Behind an ack there is room again.
	b = held()
	b.says(1, ack(0, "3>1:1.1"))
	b.submits(1, "x", "3>1:1.2")
	b.hears(1, "offer 2 3>1:1.2 x")
}

func TestSubmitWithADiskThatIsFull(t *testing.T) {
	b := laden(t)
	ok(t, b.d.Limit(b.d.Used()))
	_, e := b.n.Submit(1, []byte("x"))
	answers(t, e, api.ErrFull)
	b.nobodyHears()
	b.holds("3>1:1.1 offered", "3>5:1.1 waits", "3>63:1.1 lies")
	b.safelyHolds("3>1:1.1 offered", "3>5:1.1 waits", "3>63:1.1 lies")
	if b.n.Down() {
		t.Fatal("it is down")
	}
	ok(t, b.d.Limit(mostDisk))
	b.submits(1, "x", "3>1:1.2")
	b.hears(1, "offer 2 3>1:1.2 x")
}

// No counter is left.
func TestSubmitBehindTheLastCounter(t *testing.T) {
	b := on(t, having(t, api.State{Self: self, Epoch: mostNumber, Next: []api.Next{{Dest: 1, Counter: 7}}}), roomy(), 1) // nor an epoch
	for _, dest := range []int{1, 2} {
		_, e := b.n.Submit(dest, []byte("x"))
		answers(t, e, api.ErrOver)
	}
	_, e := b.n.Submit(self, []byte("x"))
	answers(t, e, api.ErrForm)
	_, e = b.n.Submit(nodes, []byte("x"))
	answers(t, e, api.ErrRange)
	b.holds()
	b = usualOf(t, with(func(s *api.Settings) { s.Quota.Held = 1 }))
	for n := 1; n <= mostNumber; n++ {
		i, e := b.n.Submit(1, []byte("x"))
		if e != api.OK || i.Counter != n {
			t.Fatalf("%v, %d", i, e)
		}
		b.hears(1, fmt.Sprintf("offer %d %s x", n-1, text(i)))
		b.says(1, ack(n-1, text(i)))
		if n%5000 == 0 {
			ok(t, b.n.Compact())
		}
	}
	_, e = b.n.Submit(1, []byte("x"))
	answers(t, e, api.ErrOver)
	b.submits(2, "x", "3>2:1.1")
}
