package node_test

import (
	"fmt"
	"slices"
	"strings"
	"testing"

	"portage/api"
	"portage/node"
)

// P21.7

// needing are calls that change something on the disk of a laden node, and how many changes each of them makes.
func needing() map[int][]called {
	word := func(text string, from int, words ...api.Hop) called {
		return called{text, func(b *bench) api.Errno { return b.say(from, words...) }}
	}
	return map[int][]called{
		1: {word("an ack", 1, ack(0, "3>1:1.1"))},
		2: {
			submitting(1, "x"), submitting(63, long(mostPayload)),
			word("an offer for itself", 2, offer(20, "9>3:1.1", "x")), word("an offer for another", 6, offer(21, "9>1:1.1", "x")),
		},
		3: {word("an ack and an offer", 1, ack(0, "3>1:1.1"), offer(22, "9>3:1.1", "x"))},
		4: {compacting()}, // the draft, twice, its name, the segment; the log itself is safe by then
	}
}

// hasGone asks that a node's power has gone: each call says so, nothing is changed, and nothing more goes out.
func (b *bench) hasGone() {
	b.t.Helper()
	if !b.n.Down() {
		b.t.Fatal("it is not down")
	}
	b.n.Delivered()
	for _, to := range around {
		b.n.Take(to)
	}
	was := b.view()
	b.pushes(2, offer(30, "9>3:1.2", "y"))
	calls := []called{
		submitting(1, "x"), submitting(self, ""), submitting(-1, long(49)), ticking(), compacting(),
		receiving(1, ""), receiving(2, string(b.sent(2))), receiving(self, ""), receiving(-1, "x"), receiving(6, string(frame([]byte("x")))),
		routing(1, 2), routing(self, 1), routing(-1, 1), routing(5, 63), routing(5, -1),
	}
	for range b.s.Timer {
		calls = append(calls, ticking())
	}
	for _, c := range calls {
		if e := c.do(b); e != api.ErrDown {
			b.t.Fatalf("%s: %d", c.text, e)
		}
		for _, to := range append(rising(nodes), beyond...) {
			if p := b.n.Take(to); p != nil {
				b.t.Fatalf("behind %s to %d goes out % x", c.text, to, p)
			}
		}
		if l := b.n.Delivered(); l != nil {
			b.t.Fatalf("behind %s is delivered %v", c.text, l)
		}
		alike(b.t, "behind "+c.text, b.view(), was)
	}
}

// The power goes in the midst of a call, at each of its changes; or behind the last one, which the next call notices that needs the disk.
func TestThePowerGoesInACall(t *testing.T) {
	for changes, calls := range needing() {
		for _, c := range calls {
			for n := range changes + 1 {
				t.Run(fmt.Sprintf("%s, %d of %d", c.text, n, changes), func(t *testing.T) {
					b := laden(t)
					b.delivers("2>3:1.1 came")
					held := texts(b.n.State().Held)
					ok(t, b.d.Arm(n))
					e := c.do(b)
					if n < changes {
						answers(t, e, api.ErrDown)
						b.saysNothing()
						if l := b.n.Delivered(); l != nil {
							t.Fatalf("delivered %v", l)
						}
					} else {
						ok(t, e)
						if b.n.Down() || !b.d.Down() {
							t.Fatal(b.view())
						}
						ok(t, b.n.Tick()) // that asks nothing of the disk
						_, e := b.n.Submit(1, []byte("y"))
						answers(t, e, api.ErrDown)
					}
					b.hasGone()
					b.lasts(held)
				})
			}
		}
	}
}

// saysNothing asks that no word goes out: neither an answer nor an offer.
func (b *bench) saysNothing() {
	b.t.Helper()
	for _, to := range around {
		for _, c := range b.take(to) {
			if c.Kind == api.CI {
				b.t.Fatalf("to %d goes out %s", to, told(c))
			}
		}
	}
}

// lasts asks that behind a crash all that was held is there again, but what was acked meanwhile may be gone; whatever is kept.
func (b *bench) lasts(held []string) {
	b.t.Helper()
	for _, keep := range []int{0, 3, 1000} {
		d := b.d.Fork()
		ok(b.t, d.Crash([]int{keep, keep, keep}))
		again := on(b.t, d, b.s, around...)
		if again.n.State().Epoch != 2 {
			b.t.Fatal(again.view())
		}
		got := texts(again.n.State().Held)
		for _, m := range held {
			if !slices.Contains(got, m) && !strings.HasPrefix(m, "3>1:1.1 ") {
				b.t.Fatalf("keeping %d: %q is not held: %q", keep, m, got)
			}
		}
	}
}

// What a node was told ahead of the power's going is told still.
func TestWhatIsToldWithoutPower(t *testing.T) {
	b := laden(t)
	ok(t, b.n.Receive(1, frame([]byte("x"))))
	ok(t, b.d.Arm(0))
	was := b.view()
	_, e := b.n.Submit(1, []byte("x"))
	answers(t, e, api.ErrDown)
	alike(t, "behind the call", strings.Replace(b.view(), "bad 1, down true", "bad 1, down false", 1), was)
	if !b.n.Up(1) || !b.n.Up(2) || !b.n.Up(6) || b.n.Up(5) || b.n.Cost(9) != 4 || b.n.Cost(self) != 0 || b.n.Bad() != 1 || !b.n.Down() {
		t.Fatal(b.view())
	}
	b.holds("3>1:1.1 offered", "3>5:1.1 waits", "3>63:1.1 lies")
	b.delivers("2>3:1.1 came")
	b.delivers()
	b.hasGone()
}

// The disk has power again, but the node is gone: another one begins on it.
func TestThePowerComesAgain(t *testing.T) {
	b := laden(t)
	ok(t, b.d.Arm(0))
	_, e := b.n.Submit(1, []byte("x"))
	answers(t, e, api.ErrDown)
	ok(t, b.d.Crash(nil))
	b.hasGone()
	again := on(t, b.d, roomy(), around...)
	again.holds("3>1:1.1 offered", "3>5:1.1 waits", "3>63:1.1 lies")
	again.meets(1)
	again.says(1, tells(1, 0))
	again.hears(1, "offer 0 3>1:1.1 offered")
	b.hasGone()
}

// When the power goes at a word, no further one of that call is looked at, of whatever content; nobody is answered, and nothing is offered.
func TestWordsBehindThePower(t *testing.T) {
	later := func(b *bench, from int) {
		b.pushes(from, tells(from, 0, 40, 1), offer(31, "9>3:1.2", "y"), ack(0, "3>1:1.1"), refuse(0, "3>1:1.1"))
		ok(b.t, b.sides[from].end.Push([]byte("no word")))
	}
	for _, c := range []struct {
		from int
		word api.Hop
	}{{1, offer(30, "9>3:1.1", "x")}, {2, offer(30, "9>1:1.1", "x")}, {6, offer(30, "9>63:1.1", "x")}, {1, ack(0, "3>1:1.1")}} {
		for n := range 2 {
			if n == 1 && c.word.Kind == api.HAck {
				continue // it makes one change alone
			}
			b := laden(t)
			b.delivers("2>3:1.1 came")
			was := view(b.n)
			b.pushes(c.from, c.word)
			later(b, c.from)
			ok(t, b.d.Arm(n))
			answers(t, b.back(c.from), api.ErrDown)
			alike(t, word(c.word), strings.Replace(view(b.n), "down true", "down false", 1), was)
			b.saysNothing()
			b.delivers()
			b.hasGone()
		}
	}
	// What came ahead of it was looked at.
	b := laden(t)
	b.n.Delivered()
	b.pushes(6, tells(6, 0, 40, 1), offer(29, "9>3:1.1", "x"))
	ok(t, b.sides[6].end.Push([]byte("no word")))
	b.pushes(6, offer(30, "9>63:1.1", "x"))
	later(b, 6)
	ok(t, b.d.Arm(2))
	answers(t, b.back(6), api.ErrDown)
	b.delivers("9>3:1.1 x")
	if b.n.Cost(40) != 2 || b.n.Bad() != 1 {
		t.Fatal(b.view())
	}
	b.hasGone()
}

// The frames of such a call are read all the same, and the end takes what stands in them.
func TestFramesBehindThePower(t *testing.T) {
	b := laden(t)
	b.pushes(6, offer(30, "9>3:1.1", "x"))
	p := b.sent(6)
	p = append(p, frame([]byte("no control"))...)
	ok(t, b.d.Arm(0))
	answers(t, b.n.Receive(6, p), api.ErrDown)
	if b.n.Bad() != 1 {
		t.Fatal(b.view())
	}
	b.hasGone()
}

// New is refused where the power goes in the midst of it, and can be had again; where it goes behind the last change, the first call notices that needs the disk.
func TestThePowerGoesInNew(t *testing.T) {
	b := laden(t)
	ok(t, b.n.Compact())
	b.submits(63, "x", "3>63:1.2")
	for changes := range 2 {
		d := b.d.Fork()
		ok(t, d.Crash(nil))
		ok(t, d.Arm(changes))
		if n, e := node.New(self, around, d, roomy()); n != nil || e != api.ErrDown {
			t.Fatalf("%v, %d", n != nil, e)
		}
		ok(t, d.Crash(nil))
		again := on(t, d, roomy(), around...)
		again.holds("3>1:1.1 offered", "3>5:1.1 waits", "3>63:1.1 lies", "3>63:1.2 x")
	}
	d := newDisk(t)
	ok(t, d.Arm(2))
	fresh := on(t, d, roomy(), around...)
	if fresh.n.Down() || !d.Down() {
		t.Fatal(fresh.view())
	}
	fresh.ticks(1)
	_, e := fresh.n.Submit(1, []byte("x"))
	answers(t, e, api.ErrDown)
	answers(t, fresh.n.Tick(), api.ErrDown)
}
