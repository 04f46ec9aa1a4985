package link

import (
	"bytes"
	"math"
	"slices"
	"testing"

	"portage/api"
	"portage/control"
)

const (
	mostBytes  = 121 // MaxFrame - 7
	mostSize   = 63  // MaxWindow
	mostTimer  = 64  // MaxTimer
	mostNumber = 65535
	mostQueue  = 64 // MaxQueue

	mine, other = 1, 7 // the incarnations of the ends that are tested, and of those that they talk to
)

// Controls, still without incarnations.

func ci(ns, nr int, p []byte) api.Ctl { return api.Ctl{Kind: api.CI, NS: ns, NR: nr, Data: p} }
func rr(nr int) api.Ctl               { return api.Ctl{Kind: api.CRR, NR: nr} }
func rnr(nr int) api.Ctl              { return api.Ctl{Kind: api.CRNR, NR: nr} }
func srej(nr int) api.Ctl             { return api.Ctl{Kind: api.CSREJ, NR: nr} }

func polled(c api.Ctl) api.Ctl {
	c.P = true
	return c
}

func between(me, peer int, c api.Ctl) api.Ctl {
	c.Me, c.Peer = me, peer
	return c
}

func from(c api.Ctl) api.Ctl { return between(other, mine, c) }
func to(c api.Ctl) api.Ctl   { return between(mine, other, c) }

func sabme(me int) api.Ctl    { return api.Ctl{Kind: api.CSABME, Me: me} }
func ua(me, peer int) api.Ctl { return api.Ctl{Kind: api.CUA, Me: me, Peer: peer} }
func dm(me, peer int) api.Ctl { return api.Ctl{Kind: api.CDM, Me: me, Peer: peer} }
func onePayload(n int) []byte { return []byte{byte(n >> 8), byte(n), 'p'} }
func payloads(l ...int) [][]byte {
	var out [][]byte
	for _, n := range l {
		out = append(out, onePayload(n))
	}
	return out
}

func sameLists(a, b [][]byte) bool {
	return slices.EqualFunc(a, b, bytes.Equal)
}

func made(t *testing.T, me, size, timer, tries int) *Link {
	t.Helper()
	l, e := New(me, size, timer, tries)
	if l == nil || e != api.OK {
		t.Fatalf("New(%d, %d, %d, %d): %v %v", me, size, timer, tries, l, e)
	}
	return l
}

// risen answers an end that is up, and has told all that it sent till then.
func risen(t *testing.T, size, timer, tries int) *Link {
	t.Helper()
	l := made(t, mine, size, timer, tries)
	get(t, l, ua(other, mine))
	sends(t, l, sabme(mine))
	return l
}

// laden answers an end that is up, and that so many payloads were pushed into: those of the numbers from 0 on.
func laden(t *testing.T, size, timer, tries, n int) *Link {
	t.Helper()
	l := risen(t, size, timer, tries)
	for i := range n {
		push(t, l, onePayload(i), api.OK)
	}
	l.Out()
	return l
}

func get(t *testing.T, l *Link, c api.Ctl) {
	t.Helper()
	if e := l.Receive(c); e != api.OK {
		t.Fatalf("Receive of %+v: %v", c, e)
	}
}

func push(t *testing.T, l *Link, p []byte, want api.Errno) {
	t.Helper()
	if e := l.Push(p); e != want {
		t.Fatalf("Push of %d bytes: %v, not %v", len(p), e, want)
	}
}

func busy(t *testing.T, l *Link, on bool) {
	t.Helper()
	if e := l.Busy(on); e != api.OK {
		t.Fatalf("Busy(%v): %v", on, e)
	}
}

// sends asks that just these were sent since the last time.
func sends(t *testing.T, l *Link, want ...api.Ctl) {
	t.Helper()
	got := l.Out()
	if !slices.EqualFunc(got, want, control.Same) {
		t.Fatalf("sent %+v\nnot  %+v", got, want)
	}
	for _, c := range got {
		if e := control.Check(c); e != api.OK {
			t.Fatalf("sent %+v: %v", c, e)
		}
	}
	if again := l.Out(); again != nil {
		t.Fatalf("sent once more %+v", again)
	}
}

// comesIn asks that just these have come in since the last time.
func comesIn(t *testing.T, l *Link, want ...[]byte) {
	t.Helper()
	if got := l.In(); !sameLists(got, want) {
		t.Fatalf("came in % x\nnot     % x", got, want)
	}
	if again := l.In(); again != nil {
		t.Fatalf("came in once more % x", again)
	}
}

func is(t *testing.T, l *Link, up bool, me, peer, resets, pending int) {
	t.Helper()
	if l.Up() != up || l.Me() != me || l.Peer() != peer || l.Resets() != resets || l.Pending() != pending {
		t.Fatalf("up %v, me %d, peer %d, resets %d, pending %d; not %v, %d, %d, %d, %d",
			l.Up(), l.Me(), l.Peer(), l.Resets(), l.Pending(), up, me, peer, resets, pending)
	}
}

func ticks(t *testing.T, l *Link, n int) {
	t.Helper()
	for range n {
		if e := l.Tick(); e != api.OK {
			t.Fatalf("Tick: %v", e)
		}
	}
}

// sendsAt asks that nothing is sent till the tick of that number from now on, and just these at it.
func sendsAt(t *testing.T, l *Link, tick int, want ...api.Ctl) {
	t.Helper()
	ticks(t, l, tick-1)
	sends(t, l)
	ticks(t, l, 1)
	sends(t, l, want...)
}

// doesNotCount asks that no tick lets anything be sent.
func doesNotCount(t *testing.T, l *Link) {
	t.Helper()
	ticks(t, l, 3*mostTimer)
	sends(t, l)
}

// P9.1

func TestNew(t *testing.T) {
	for _, me := range []int{0, 1, 2, 512, 65534, mostNumber} {
		for _, size := range []int{1, 2, 62, mostSize} {
			for _, timer := range []int{1, 2, 63, mostTimer} {
				for _, tries := range []int{1, 2, 63, mostTimer} {
					l := made(t, me, size, timer, tries)
					is(t, l, false, me, -1, 0, 0)
					comesIn(t, l)
					sends(t, l, sabme(me))
					sendsAt(t, l, timer, polled(sabme(me)))
					sendsAt(t, l, timer, polled(sabme(me)))
					is(t, l, false, me, -1, 0, 0)
				}
			}
		}
	}
}

func TestNewRefuses(t *testing.T) {
	far := []int{math.MinInt, math.MinInt + 1, -1 << 32, -65536, -1, 1 << 16, 1<<16 + 1, 1 << 32, 1<<32 + 1, math.MaxInt}
	mes := append([]int{-2, mostNumber + 1}, far...)
	sizes := append([]int{0, mostSize + 1, 127, 128, 256}, far...)
	timers := append([]int{0, mostTimer + 1, 128, 256}, far...)
	for i, lists := range [][4][]int{
		{mes, {1}, {1}, {1}},
		{{0}, sizes, {1}, {1}},
		{{mostNumber}, {mostSize}, timers, {mostTimer}},
		{{1}, {4}, {3}, timers},
		{{-1, mostNumber + 1}, {0, mostSize + 1}, {0, mostTimer + 1}, {0, mostTimer + 1}},
	} {
		for _, me := range lists[0] {
			for _, size := range lists[1] {
				for _, timer := range lists[2] {
					for _, tries := range lists[3] {
						if l, e := New(me, size, timer, tries); l != nil || e != api.ErrRange {
							t.Errorf("%d: New(%d, %d, %d, %d): %v %v", i, me, size, timer, tries, l, e)
						}
					}
				}
			}
		}
	}
}

func wrongPayloads() map[api.Errno][][]byte {
	return map[api.Errno][][]byte{
		api.ErrForm: {nil, {}, make([]byte, 0, 4)},
		api.ErrLong: {make([]byte, mostBytes+1), make([]byte, 128), make([]byte, 1<<16)},
	}
}

func TestPushOfAnEndThatIsNotUp(t *testing.T) {
	ends := map[string]*Link{"new": made(t, mine, 4, 3, 2), "called": made(t, mine, 4, 3, 2), "anew": risen(t, 4, 3, 2)}
	get(t, ends["called"], sabme(other))
	get(t, ends["anew"], dm(8, mine))
	for name, l := range ends {
		me, peer, resets := l.Me(), l.Peer(), l.Resets()
		l.Out()
		push(t, l, []byte("a"), api.ErrState)
		push(t, l, make([]byte, mostBytes), api.ErrState)
		for _, list := range wrongPayloads() {
			for _, p := range list {
				push(t, l, p, api.ErrState)
			}
		}
		is(t, l, false, me, peer, resets, 0)
		sends(t, l)
		if ticks(t, l, 3); len(l.Out()) != 1 { // it counts on as it did
			t.Errorf("%s: does not call when it has counted down", name)
		}
	}
}

func TestPushOfAllLengths(t *testing.T) {
	for n := 1; n <= mostBytes; n++ {
		l := risen(t, 1, 3, 2)
		p := bytes.Repeat([]byte{byte(n)}, n)
		push(t, l, p, api.OK)
		is(t, l, true, mine, other, 1, 1)
		sends(t, l, to(ci(0, 0, p)))
	}
}

func TestPushRefuses(t *testing.T) {
	for _, there := range []int{0, 1, 4, 5, mostQueue} {
		l := laden(t, 4, 3, 2, there)
		for want, list := range wrongPayloads() {
			for _, p := range list {
				push(t, l, p, want)
			}
		}
		if there == mostQueue {
			push(t, l, []byte("a"), api.ErrFull)
			push(t, l, make([]byte, mostBytes), api.ErrFull)
		}
		is(t, l, true, mine, other, 1, there)
		sends(t, l)
		if there == 0 {
			doesNotCount(t, l)
		}
	}
}

func TestPushTillTheQueueIsFull(t *testing.T) {
	for _, size := range []int{1, 2, 3, 31, 62, mostSize} {
		l := risen(t, size, 5, 2)
		for n := range mostQueue {
			push(t, l, onePayload(n), api.OK)
			is(t, l, true, mine, other, 1, n+1)
			if n < size {
				sends(t, l, to(ci(n, 0, onePayload(n))))
			}
			sends(t, l) // all of its numbers are under way
		}
		push(t, l, onePayload(64), api.ErrFull)
		is(t, l, true, mine, other, 1, mostQueue)
		get(t, l, from(rr(1)))
		sends(t, l, to(ci(size, 0, onePayload(size))))
		push(t, l, onePayload(64), api.OK)
		sends(t, l)
		sendsAt(t, l, 5, polled(to(ci(1, 0, onePayload(1)))))
	}
}

func TestPushTellsWhatItWaitsFor(t *testing.T) {
	l := risen(t, 3, 5, 2)
	get(t, l, from(ci(0, 0, []byte("x"))))
	l.Out()
	push(t, l, []byte("a"), api.OK)
	sends(t, l, to(ci(0, 1, []byte("a"))))
}

func TestPushCountsOnWhereItCounts(t *testing.T) {
	l := risen(t, 3, 5, 2)
	push(t, l, onePayload(0), api.OK)
	sends(t, l, to(ci(0, 0, onePayload(0))))
	ticks(t, l, 2)
	push(t, l, onePayload(1), api.OK)
	sends(t, l, to(ci(1, 0, onePayload(1))))
	sendsAt(t, l, 3, polled(to(ci(0, 0, onePayload(0)))))
}

func TestPushWithTheOtherEndBusy(t *testing.T) {
	l := risen(t, 2, 3, 2)
	get(t, l, from(rnr(0)))
	for n := range 3 {
		push(t, l, onePayload(n), api.OK)
	}
	is(t, l, true, mine, other, 1, 3)
	sends(t, l)
	doesNotCount(t, l) // it is counted where a CI goes out, or a CRNR comes
	get(t, l, from(rr(0)))
	sends(t, l, to(ci(0, 0, onePayload(0))), to(ci(1, 0, onePayload(1))))
	sendsAt(t, l, 3, polled(to(ci(0, 0, onePayload(0)))))
	for n := 3; n < mostQueue; n++ {
		push(t, l, onePayload(n), api.OK)
	}
	push(t, l, onePayload(64), api.ErrFull)
}

// P9.2

func TestTickOfAnEndThatIsNotUp(t *testing.T) {
	for _, timer := range []int{1, 2, 5, mostTimer} {
		l := made(t, mine, 4, timer, 1)
		sends(t, l, sabme(mine))
		for range 10 { // it never tires
			sendsAt(t, l, timer, polled(sabme(mine)))
			is(t, l, false, mine, -1, 0, 0)
		}
		if timer > 1 {
			ticks(t, l, 1)
		}
		get(t, l, sabme(other))
		sends(t, l, ua(mine, other))
		sendsAt(t, l, max(1, timer-1), polled(sabme(mine))) // it counts on as it did
		is(t, l, false, mine, other, 1, 0)
		get(t, l, sabme(other))
		sends(t, l, ua(mine, other))
		sendsAt(t, l, timer, polled(sabme(mine)))
		is(t, l, false, mine, other, 1, 0)
	}
}

func TestTickWithNothingToDo(t *testing.T) {
	for _, busyToo := range []bool{false, true} {
		l := risen(t, 4, 1, 1)
		if busyToo {
			get(t, l, from(rnr(0)))
		}
		doesNotCount(t, l)
		is(t, l, true, mine, other, 1, 0)
	}
	l := laden(t, 4, 2, 1, 2)
	get(t, l, from(rr(2)))
	doesNotCount(t, l)
	is(t, l, true, mine, other, 1, 0)
}

func TestTickWithSomeUnderWay(t *testing.T) {
	for _, timer := range []int{1, 2, 5, mostTimer} {
		for _, tries := range []int{1, 2, 7, mostTimer} {
			l := laden(t, 2, timer, tries, 5)
			for range tries {
				sendsAt(t, l, timer, polled(to(ci(0, 0, onePayload(0)))))
				is(t, l, true, mine, other, 1, 5)
			}
			sendsAt(t, l, timer, sabme(mine+1)) // once more than tries
			is(t, l, false, mine+1, -1, 2, 0)
			sendsAt(t, l, timer, polled(sabme(mine+1)))
			push(t, l, []byte("a"), api.ErrState)
		}
	}
}

func TestWhatIsSentAgainTellsWhatItWaitsForNow(t *testing.T) {
	l := laden(t, 2, 4, 3, 2)
	get(t, l, from(ci(0, 0, []byte("x"))))
	sends(t, l, to(rr(1)))
	sendsAt(t, l, 4, polled(to(ci(0, 1, onePayload(0)))))
	get(t, l, from(ci(2, 0, []byte("z"))))
	sends(t, l, to(srej(1)), to(rr(1)))
	get(t, l, from(ci(1, 1, []byte("y"))))
	sends(t, l, to(rr(3)))
	sendsAt(t, l, 4, polled(to(ci(1, 3, onePayload(1)))))
}

func TestWhatIsAcknowledgedLetsItTryAsOftenAgain(t *testing.T) {
	l := laden(t, 3, 4, 2, 3)
	for n := range 3 {
		for range 2 {
			sendsAt(t, l, 4, polled(to(ci(n, 0, onePayload(n)))))
		}
		ticks(t, l, 3)
		get(t, l, from(rr(n))) // nothing is gone: it counts on as it did, and has tried as often
		sends(t, l)
		get(t, l, from(rr(n+1)))
		sends(t, l)
	}
	doesNotCount(t, l)
	for n := 3; n < 5; n++ {
		push(t, l, onePayload(n), api.OK)
	}
	l.Out()
	sendsAt(t, l, 4, polled(to(ci(3, 0, onePayload(3)))))
	ticks(t, l, 1)
	get(t, l, from(rr(3)))
	sendsAt(t, l, 3, polled(to(ci(3, 0, onePayload(3)))))
	get(t, l, from(rr(3)))
	sendsAt(t, l, 4, sabme(mine+1))
}

func TestTickWithSomeUnderWayAndTheOtherEndBusy(t *testing.T) {
	l := laden(t, 2, 4, 2, 3)
	ticks(t, l, 1)
	get(t, l, from(rnr(0)))
	sendsAt(t, l, 3, polled(to(ci(0, 0, onePayload(0)))))
	get(t, l, from(rnr(1)))
	sendsAt(t, l, 4, polled(to(ci(1, 0, onePayload(1)))))
	get(t, l, from(rnr(1)))
	sendsAt(t, l, 4, polled(to(ci(1, 0, onePayload(1)))))
	get(t, l, from(rnr(1)))
	sendsAt(t, l, 4, sabme(mine+1)) // it is busy so long that it may be gone
	is(t, l, false, mine+1, -1, 2, 0)
}

func TestTickWithPayloadsThatWaitForABusyEnd(t *testing.T) {
	for _, timer := range []int{1, 2, 5, mostTimer} {
		l := laden(t, 2, timer, 1, 4)
		get(t, l, from(rnr(2)))
		is(t, l, true, mine, other, 1, 2)
		for range 5 { // that is no try
			sendsAt(t, l, timer, polled(to(rr(0))))
		}
		get(t, l, from(ci(0, 2, []byte("x"))))
		sends(t, l, to(rr(1)))
		sendsAt(t, l, timer, polled(to(rr(1))))
		busy(t, l, true)
		sendsAt(t, l, timer, polled(to(rr(1)))) // a CRR, though it is busy itself
		if timer > 1 {
			ticks(t, l, 1)
		}
		get(t, l, from(rnr(2)))
		sendsAt(t, l, max(1, timer-1), polled(to(rr(1))))
		is(t, l, true, mine, other, 1, 2)
		get(t, l, from(rr(2)))
		sends(t, l, to(ci(2, 1, onePayload(2))), to(ci(3, 1, onePayload(3))))
		sendsAt(t, l, timer, polled(to(ci(2, 1, onePayload(2)))))
	}
}

func TestBeginningAnew(t *testing.T) {
	for _, me := range []int{0, 1, 65533, 65534, 65535} {
		l := made(t, me, 4, 3, 1)
		get(t, l, ua(other, me))
		for range 2 {
			push(t, l, []byte("a"), api.OK)
		}
		get(t, l, between(other, me, ci(0, 0, []byte("x"))))
		get(t, l, between(other, me, ci(2, 0, []byte("z"))))
		get(t, l, between(other, me, rnr(1)))
		busy(t, l, true)
		is(t, l, true, me, other, 1, 1)
		l.Out()
		ticks(t, l, 6)
		next := me + 1
		if me == mostNumber {
			next = 0
		}
		is(t, l, false, next, -1, 2, 0)
		sends(t, l, polled(between(me, other, ci(1, 1, []byte("a")))), sabme(next))
		comesIn(t, l, []byte("x")) // what has come in has come in
		sendsAt(t, l, 3, polled(sabme(next)))
		get(t, l, ua(other, next)) // the same other end is a new peer
		is(t, l, true, next, other, 3, 0)
		doesNotCount(t, l)
		push(t, l, []byte("b"), api.OK) // the other end is not busy any more, the numbers begin at 0
		sends(t, l, between(next, other, ci(0, 0, []byte("b"))))
		get(t, l, between(other, next, ci(0, 0, []byte("y")))) // it is busy still
		sends(t, l, between(next, other, rnr(0)))
		comesIn(t, l)
		busy(t, l, false)
		sends(t, l, between(next, other, rr(0)))
		get(t, l, between(other, next, ci(0, 1, []byte("y"))))
		sends(t, l, between(next, other, rr(1)))
		comesIn(t, l, []byte("y"))
		push(t, l, []byte("c"), api.OK)
		sends(t, l, between(next, other, ci(1, 1, []byte("c"))))
		sendsAt(t, l, 3, polled(between(next, other, ci(1, 1, []byte("c"))))) // it has not tried yet
	}
}

// P9.3

func TestReceiveOfTheChapter(t *testing.T) {
	one, seven := made(t, 1, 4, 3, 2), made(t, 7, 4, 3, 2)
	sends(t, one, sabme(1))
	sends(t, seven, sabme(7))
	get(t, one, sabme(7))
	is(t, one, false, 1, 7, 1, 0)
	sends(t, one, ua(1, 7))
	get(t, seven, ua(1, 7))
	is(t, seven, true, 7, 1, 1, 0)
	sends(t, seven)
	push(t, seven, []byte("a"), api.OK)
	sends(t, seven, between(7, 1, ci(0, 0, []byte("a"))))
	get(t, one, between(7, 1, ci(0, 0, []byte("a"))))
	is(t, one, true, 1, 7, 1, 0)
	sends(t, one, between(1, 7, rr(1)))
	comesIn(t, one, []byte("a"))
	get(t, seven, between(1, 7, rr(1)))
	is(t, seven, true, 7, 1, 1, 0)
}

func wrongControls() map[api.Errno][]api.Ctl {
	return map[api.Errno][]api.Ctl{
		api.ErrRange: {
			{}, {Kind: 8, Me: other, Peer: mine}, {Kind: -1}, {Kind: math.MinInt}, {Kind: math.MaxInt},
			from(ci(128, 0, []byte("a"))), from(ci(-1, 0, []byte("a"))), from(ci(0, 128, []byte("a"))), from(rr(128)), from(rnr(-1)), from(srej(math.MaxInt)),
			sabme(-1), sabme(mostNumber + 1), ua(other, mostNumber+1), ua(-1, mine), dm(8, -1), dm(mostNumber+1, mine),
			from(ci(128, 0, nil)), from(ci(128, 0, make([]byte, mostBytes+1))), between(other, mostNumber+1, api.Ctl{Kind: api.CSABME, NR: 1}),
		},
		api.ErrForm: {
			from(ci(0, 0, nil)), from(ci(0, 0, []byte{})),
			{Kind: api.CRR, NS: 1, Me: other, Peer: mine}, {Kind: api.CRNR, Me: other, Peer: mine, Data: []byte("a")},
			{Kind: api.CSREJ, Me: other, Peer: mine, Data: make([]byte, mostBytes+1)},
			{Kind: api.CSABME, Me: 8, Peer: mine}, {Kind: api.CUA, Me: other, Peer: mine, NR: 1}, {Kind: api.CDM, Me: 8, Peer: mine, NS: 1},
		},
		api.ErrLong: {
			from(ci(0, 0, make([]byte, mostBytes+1))), from(ci(0, 0, make([]byte, 1<<16))), between(8, 9, ci(0, 0, make([]byte, mostBytes+1))),
		},
	}
}

func TestReceiveRefuses(t *testing.T) {
	for want, list := range wrongControls() {
		for _, c := range list {
			fresh, up, full := made(t, mine, 4, 3, 2), risen(t, 4, 3, 2), laden(t, 4, 3, 2, 6)
			fresh.Out()
			for _, l := range []*Link{fresh, up, full} {
				isUp, peer, resets, pending := l.Up(), l.Peer(), l.Resets(), l.Pending()
				if e := l.Receive(c); e != want {
					t.Errorf("Receive of %+v: %v, not %v", c, e, want)
				}
				is(t, l, isUp, mine, peer, resets, pending)
				sends(t, l)
				comesIn(t, l)
			}
			sendsAt(t, fresh, 3, polled(sabme(mine)))
			doesNotCount(t, up)
			sendsAt(t, full, 3, polled(to(ci(0, 0, onePayload(0)))))
		}
	}
}

func TestSabmeOfAnEndThatIsNotUp(t *testing.T) {
	for _, p := range []bool{false, true} {
		l := made(t, mine, 4, 5, 2)
		l.Out()
		ticks(t, l, 2)
		call, answer := sabme(other), ua(mine, other)
		call.P, answer.P = p, p
		get(t, l, call) // none was known
		is(t, l, false, mine, other, 1, 0)
		sends(t, l, answer)
		get(t, l, call) // it is known
		is(t, l, false, mine, other, 1, 0)
		sends(t, l, answer)
		call.Me, answer.Peer = 8, 8
		get(t, l, call) // it is a new one
		is(t, l, false, mine, 8, 2, 0)
		sends(t, l, answer)
		sendsAt(t, l, 3, polled(sabme(mine)))
		get(t, l, sabme(0)) // 0 is an incarnation as any other
		is(t, l, false, mine, 0, 3, 0)
		get(t, l, sabme(mine)) // so is one's own
		is(t, l, false, mine, mine, 4, 0)
		sends(t, l, ua(mine, 0), ua(mine, mine))
		sendsAt(t, l, 5, polled(sabme(mine)))
	}
}

func TestSabmeOfAnEndThatIsUp(t *testing.T) {
	for _, p := range []bool{false, true} {
		call, answer := sabme(other), ua(mine, other)
		call.P, answer.P = p, p
		l := laden(t, 2, 3, 2, 3)
		get(t, l, from(ci(0, 0, []byte("x"))))
		l.Out()
		ticks(t, l, 1)
		get(t, l, call) // of the one that is known nothing changes
		is(t, l, true, mine, other, 1, 3)
		sends(t, l, answer)
		sendsAt(t, l, 2, polled(to(ci(0, 1, onePayload(0)))))

		get(t, l, from(ci(2, 0, []byte("z"))))
		get(t, l, from(rnr(0)))
		l.Out()
		call.Me, answer.Peer = 8, 8
		get(t, l, call) // a new one: reset, and up still
		is(t, l, true, mine, 8, 2, 0)
		sends(t, l, answer)
		doesNotCount(t, l)
		push(t, l, []byte("a"), api.OK)
		sends(t, l, between(mine, 8, ci(0, 0, []byte("a"))))
		get(t, l, between(8, mine, ci(0, 0, []byte("y"))))
		sends(t, l, between(mine, 8, rr(1)))
		comesIn(t, l, []byte("x"), []byte("y"))
		for range 2 { // it has not tried yet
			ticks(t, l, 3)
			sends(t, l, polled(between(mine, 8, ci(0, 1, []byte("a")))))
		}
		ticks(t, l, 3)
		sends(t, l, sabme(mine+1))
	}
}

func TestUa(t *testing.T) {
	for _, p := range []bool{false, true} {
		answer := ua(other, mine)
		answer.P = p

		l := made(t, mine, 2, 3, 2) // none was known
		get(t, l, answer)
		is(t, l, true, mine, other, 1, 0)
		sends(t, l, sabme(mine))
		doesNotCount(t, l)

		l = made(t, mine, 2, 3, 2) // it is known
		get(t, l, sabme(other))
		l.Out()
		get(t, l, answer)
		is(t, l, true, mine, other, 1, 0)
		sends(t, l)
		doesNotCount(t, l)

		l = made(t, mine, 2, 3, 2) // it is a new one
		get(t, l, sabme(8))
		l.Out()
		get(t, l, answer)
		is(t, l, true, mine, other, 2, 0)
		sends(t, l)
		doesNotCount(t, l)
		push(t, l, []byte("a"), api.OK)
		sends(t, l, to(ci(0, 0, []byte("a"))))

		l = made(t, mine, 2, 3, 2) // it is meant for another one
		for _, peer := range []int{0, 2, other, mostNumber} {
			c := ua(other, peer)
			c.P = p
			get(t, l, c)
			is(t, l, false, mine, -1, 0, 0)
		}
		sends(t, l, sabme(mine))
		sendsAt(t, l, 3, polled(sabme(mine)))
	}
}

func TestUaOfAnEndThatIsUp(t *testing.T) {
	l := laden(t, 2, 5, 2, 3)
	ticks(t, l, 2)
	for _, c := range []api.Ctl{ua(other, mine), ua(8, mine), ua(other, 2), ua(8, 9), ua(mine, other)} {
		get(t, l, c)
		get(t, l, polled(c))
	}
	is(t, l, true, mine, other, 1, 3)
	sends(t, l)
	sendsAt(t, l, 3, polled(to(ci(0, 0, onePayload(0)))))
}

func TestDm(t *testing.T) {
	for _, p := range []bool{false, true} {
		l := laden(t, 2, 5, 2, 3)
		ticks(t, l, 2)
		for _, c := range []api.Ctl{dm(other, mine), dm(other, 2), dm(8, 2), dm(8, other), dm(mine, other)} {
			c.P = p
			get(t, l, c)
			is(t, l, true, mine, other, 1, 3)
			sends(t, l)
		}
		sendsAt(t, l, 3, polled(to(ci(0, 0, onePayload(0)))))
		c := dm(8, mine)
		c.P = p
		ticks(t, l, 1)
		get(t, l, c)
		is(t, l, false, mine+1, -1, 2, 0)
		sends(t, l, sabme(mine+1))
		get(t, l, c) // it is not meant any more
		is(t, l, false, mine+1, -1, 2, 0)
		sends(t, l)
		sendsAt(t, l, 5, polled(sabme(mine+1)))

		l = made(t, mine, 2, 5, 2) // it is not up
		l.Out()
		get(t, l, c)
		is(t, l, false, mine, -1, 0, 0)
		get(t, l, sabme(other))
		l.Out()
		for _, me := range []int{other, 8} {
			get(t, l, dm(me, mine))
			is(t, l, false, mine, other, 1, 0)
		}
		sends(t, l)
		sendsAt(t, l, 5, polled(sabme(mine)))
	}
}

func TestDmLetsMeGoRound(t *testing.T) {
	l := made(t, mostNumber, 2, 5, 2)
	get(t, l, ua(other, mostNumber))
	l.Out()
	get(t, l, dm(8, mostNumber))
	is(t, l, false, 0, -1, 2, 0)
	sends(t, l, sabme(0))
}

// inPairs answers a control of each of the kinds that have a pair, without it, with P and without.
func inPairs(nr int) []api.Ctl {
	var l []api.Ctl
	for _, c := range []api.Ctl{rr(nr), rnr(nr), srej(nr), ci(0, nr, []byte("x"))} {
		l = append(l, c, polled(c))
	}
	return l
}

// others answers pairs that are not this one, as a control has them: who sends, and who is meant.
func others(me, peer int) [][2]int {
	return [][2]int{{other + 1, me}, {peer, me + 1}, {peer, 0}, {0, me}, {other + 1, me + 1}, {me, peer}, {mostNumber, me}, {peer, mostNumber}}
}

func TestAPairThatFitsLetsAnEndBeUp(t *testing.T) {
	answers := map[int]func(p bool) []api.Ctl{
		api.CRR: func(p bool) []api.Ctl {
			if p {
				return []api.Ctl{to(rr(0))}
			}
			return nil
		},
		api.CSREJ: func(bool) []api.Ctl { return nil },
		api.CI:    func(bool) []api.Ctl { return []api.Ctl{to(rr(1))} },
	}
	answers[api.CRNR] = answers[api.CRR]
	for _, c := range inPairs(0) {
		l := made(t, mine, 2, 3, 2)
		get(t, l, sabme(other))
		l.Out()
		ticks(t, l, 2)
		get(t, l, from(c))
		is(t, l, true, mine, other, 1, 0)
		sends(t, l, answers[c.Kind](c.P)...)
		if c.Kind == api.CI {
			comesIn(t, l, []byte("x"))
		}
		comesIn(t, l)
		doesNotCount(t, l)
		push(t, l, []byte("a"), api.OK)
		if c.Kind != api.CRNR {
			sends(t, l, to(ci(0, len(c.Data), []byte("a"))))
		}
		sends(t, l)
	}
}

func TestCrr(t *testing.T) {
	for size := 1; size <= mostSize; size++ {
		for _, nr := range []int{0, 1, size / 2, size - 1, size} { // none, one, some, all of those under way
			for _, p := range []bool{false, true} {
				l := laden(t, size, 5, 2, mostQueue)
				get(t, l, from(ci(0, 0, []byte("x"))))
				l.Out()
				ticks(t, l, 4)
				c := from(rr(nr))
				c.P = p
				get(t, l, c)
				var want []api.Ctl
				for n := size; n < min(size+nr, mostQueue); n++ {
					want = append(want, to(ci(n%128, 1, onePayload(n))))
				}
				if p {
					want = append(want, to(rr(1)))
				}
				sends(t, l, want...)
				is(t, l, true, mine, other, 1, mostQueue-nr)
				left := 5
				if nr == 0 {
					left = 1
				}
				sendsAt(t, l, left, polled(to(ci(nr, 1, onePayload(nr)))))
			}
		}
	}
}

func TestAnNRThatTakesAllLetsItNotCount(t *testing.T) {
	for _, c := range []api.Ctl{rr(3), rnr(3), ci(0, 3, []byte("x")), polled(rr(3)), polled(rnr(3)), polled(ci(0, 3, []byte("x")))} {
		l := laden(t, 4, 5, 2, 3)
		ticks(t, l, 4)
		get(t, l, from(c))
		is(t, l, true, mine, other, 1, 0)
		l.Out()
		doesNotCount(t, l)
	}
}

func TestAnNRThatTakesSomeLetsItCountFromTheBeginning(t *testing.T) {
	for _, nr := range []int{1, 2, 3} {
		for _, c := range inPairs(nr) {
			if c.Kind == api.CSREJ { // it takes no NR
				continue
			}
			l := laden(t, 4, 5, 2, 4)
			sendsAt(t, l, 5, polled(to(ci(0, 0, onePayload(0)))))
			ticks(t, l, 4)
			get(t, l, from(c))
			is(t, l, true, mine, other, 1, 4-nr)
			l.Out()
			waits := len(c.Data) // one, of a CI
			for range 2 {
				sendsAt(t, l, 5, polled(to(ci(nr, waits, onePayload(nr)))))
			}
			sendsAt(t, l, 5, sabme(mine+1))
		}
	}
}

func TestAnNRThatTheSenderRefuses(t *testing.T) {
	for _, nr := range []int{4, 5, 64, 126, 127} {
		for _, c := range inPairs(nr) {
			l := laden(t, 3, 5, 2, 6)
			sendsAt(t, l, 5, polled(to(ci(0, 0, onePayload(0)))))
			ticks(t, l, 2)
			get(t, l, from(c))
			is(t, l, true, mine, other, 1, 6)
			switch {
			case c.Kind == api.CI:
				sends(t, l, to(rr(1))) // the payload is taken all the same
				comesIn(t, l, []byte("x"))
			case c.P && c.Kind != api.CSREJ:
				sends(t, l, to(rr(0)))
			}
			sends(t, l)
			comesIn(t, l)
			waits := len(c.Data)
			sendsAt(t, l, 3, polled(to(ci(0, waits, onePayload(0)))))
			sendsAt(t, l, 5, sabme(mine+1)) // it has tried as often as it did
		}
	}
}

func TestNRsGoRound(t *testing.T) {
	l := risen(t, 3, 5, 2)
	for n := range 400 {
		push(t, l, onePayload(n), api.OK)
		sends(t, l, to(ci(n%128, 0, onePayload(n))))
		if n%3 == 2 {
			get(t, l, from(rr((n+1)%128)))
			is(t, l, true, mine, other, 1, 0)
		}
	}
	sendsAt(t, l, 5, polled(to(ci(399%128, 0, onePayload(399)))))
}

func TestCrnr(t *testing.T) {
	for _, p := range []bool{false, true} {
		c := from(rnr(0))
		c.P = p
		answer := func() []api.Ctl {
			if p {
				return []api.Ctl{to(rr(0))}
			}
			return nil
		}
		l := risen(t, 2, 5, 2) // no payload is there
		get(t, l, c)
		sends(t, l, answer()...)
		doesNotCount(t, l)

		push(t, l, onePayload(0), api.OK) // one waits
		sends(t, l)
		get(t, l, c)
		sends(t, l, answer()...)
		ticks(t, l, 2)
		get(t, l, c) // it counts on as it did
		sends(t, l, answer()...)
		sendsAt(t, l, 3, polled(to(rr(0))))

		l = laden(t, 2, 5, 2, 3) // some are under way, one waits
		ticks(t, l, 3)
		get(t, l, c)
		sends(t, l, answer()...)
		sendsAt(t, l, 2, polled(to(ci(0, 0, onePayload(0)))))
		c.NR = 1
		get(t, l, c) // the window is open, and nothing goes out
		sends(t, l, answer()...)
		is(t, l, true, mine, other, 1, 2)
		push(t, l, onePayload(3), api.OK)
		sends(t, l)
		get(t, l, from(ci(0, 2, []byte("x"))))
		sends(t, l, to(rr(1)))
		is(t, l, true, mine, other, 1, 2)
		doesNotCount(t, l) // none is under way any more, and only a CRNR lets it count
		c.NR = 2
		get(t, l, c)
		l.Out()
		sendsAt(t, l, 5, polled(to(rr(1))))
		get(t, l, from(rr(2)))
		sends(t, l, to(ci(2, 1, onePayload(2))), to(ci(3, 1, onePayload(3))))
	}
}

func TestAnAnswerOfABusyEnd(t *testing.T) {
	l := risen(t, 2, 5, 2)
	get(t, l, from(ci(0, 0, []byte("x"))))
	busy(t, l, true)
	l.Out()
	for _, c := range []api.Ctl{rr(0), rnr(0)} {
		get(t, l, from(c))
		sends(t, l)
		get(t, l, polled(from(c)))
		sends(t, l, to(rnr(1)))
	}
}

func TestCsrej(t *testing.T) {
	for _, p := range []bool{false, true} {
		for nr := range 128 {
			l := laden(t, 3, 5, 2, 6)
			get(t, l, from(rr(1)))
			get(t, l, from(ci(0, 1, []byte("x"))))
			get(t, l, from(rnr(1))) // what is asked for goes out, though the other end is busy
			l.Out()
			ticks(t, l, 3)
			c := from(srej(nr))
			c.P = p
			get(t, l, c)
			if nr >= 1 && nr <= 3 {
				sends(t, l, to(ci(nr, 1, onePayload(nr))))
			}
			sends(t, l)
			is(t, l, true, mine, other, 1, 5)
			sendsAt(t, l, 2, polled(to(ci(1, 1, onePayload(1))))) // it counts on as it did
		}
	}
	l := risen(t, 3, 5, 2)
	get(t, l, from(srej(0)))
	sends(t, l)
	doesNotCount(t, l)
}

func TestCiInTurn(t *testing.T) {
	for _, size := range []int{1, 2, 7, mostSize} {
		l := risen(t, size, 5, 2)
		for n := range 300 {
			c := from(ci(n%128, 0, onePayload(n)))
			c.P = n%3 == 0
			get(t, l, c)
			sends(t, l, to(rr((n+1)%128)))
			comesIn(t, l, onePayload(n))
			get(t, l, c) // it was told, and is answered
			sends(t, l, to(rr((n+1)%128)))
			comesIn(t, l)
		}
		doesNotCount(t, l)
	}
}

func TestCiAheadOfItsTurn(t *testing.T) {
	l := risen(t, 5, 3, 2)
	get(t, l, from(ci(2, 0, onePayload(2))))
	sends(t, l, to(srej(0)), to(srej(1)), to(rr(0)))
	get(t, l, from(ci(2, 0, onePayload(2)))) // it is kept
	sends(t, l, to(rr(0)))
	get(t, l, from(ci(5, 0, onePayload(5)))) // it is too far ahead
	sends(t, l, to(rr(0)))
	get(t, l, from(ci(4, 0, onePayload(4))))
	sends(t, l, to(srej(3)), to(rr(0)))
	comesIn(t, l)
	get(t, l, polled(from(ci(4, 0, onePayload(4))))) // now what was asked for is forgotten, but one that is kept asks for nothing
	sends(t, l, to(rr(0)))
	get(t, l, from(ci(1, 0, onePayload(1))))
	sends(t, l, to(srej(0)), to(srej(3)), to(rr(0)))
	get(t, l, polled(from(ci(0, 0, onePayload(0)))))
	sends(t, l, to(srej(3)), to(rr(3)))
	comesIn(t, l, payloads(0, 1, 2)...)
	get(t, l, from(ci(3, 0, onePayload(3))))
	sends(t, l, to(rr(5)))
	comesIn(t, l, payloads(3, 4)...)
	doesNotCount(t, l)
}

func TestWithoutPNothingIsAskedForAgain(t *testing.T) {
	l := risen(t, 9, 3, 2)
	get(t, l, from(ci(3, 0, onePayload(3))))
	sends(t, l, to(srej(0)), to(srej(1)), to(srej(2)), to(rr(0)))
	get(t, l, from(ci(1, 0, onePayload(1))))
	sends(t, l, to(rr(0)))
	get(t, l, polled(from(rr(0)))) // it is a CI's P that lets it be forgotten
	get(t, l, polled(from(rnr(0))))
	get(t, l, polled(from(srej(0))))
	sends(t, l, to(rr(0)), to(rr(0)))
	get(t, l, from(ci(4, 0, onePayload(4))))
	sends(t, l, to(rr(0)))
	get(t, l, polled(from(ci(0, 0, onePayload(0)))))
	sends(t, l, to(srej(2)), to(rr(2)))
	comesIn(t, l, payloads(0, 1)...)
}

func TestCiWhileItIsBusy(t *testing.T) {
	for _, p := range []bool{false, true} {
		l := laden(t, 2, 5, 2, 3)
		get(t, l, from(ci(1, 0, onePayload(1))))
		sends(t, l, to(srej(0)), to(rr(0)))
		busy(t, l, true)
		for _, ns := range []int{0, 1, 2} {
			c := from(ci(ns, 0, onePayload(ns)))
			c.P = p
			get(t, l, c)
			sends(t, l, to(rnr(0)))
			comesIn(t, l)
		}
		c := from(ci(0, 1, onePayload(0)))
		c.P = p
		get(t, l, c) // it takes NR, and goes on
		sends(t, l, to(ci(2, 0, onePayload(2))), to(rnr(0)))
		is(t, l, true, mine, other, 1, 2)
		comesIn(t, l)
		busy(t, l, false)
		sends(t, l, to(rr(0)))
		get(t, l, from(ci(1, 1, onePayload(1)))) // kept
		sends(t, l, to(rr(0)))
		get(t, l, from(ci(0, 1, onePayload(0))))
		sends(t, l, to(rr(2)))
		comesIn(t, l, payloads(0, 1)...)
	}
}

func TestPForgetsWhileItIsBusyToo(t *testing.T) {
	l := risen(t, 5, 5, 2)
	get(t, l, from(ci(2, 0, onePayload(2))))
	busy(t, l, true)
	get(t, l, polled(from(ci(0, 0, onePayload(0)))))
	busy(t, l, false)
	l.Out()
	get(t, l, from(ci(3, 0, onePayload(3))))
	sends(t, l, to(srej(0)), to(srej(1)), to(rr(0)))
}

func TestCiGoesOnAheadOfTaking(t *testing.T) {
	l := laden(t, 1, 5, 2, 2)
	get(t, l, from(ci(0, 1, []byte("x"))))
	sends(t, l, to(ci(1, 0, onePayload(1))), to(rr(1)))
	l = laden(t, 1, 5, 2, 2)
	get(t, l, polled(from(ci(0, 1, []byte("x")))))
	sends(t, l, to(ci(1, 0, onePayload(1))), to(rr(1)))
	l = laden(t, 1, 5, 2, 2)
	get(t, l, from(rnr(0)))
	get(t, l, from(ci(0, 1, []byte("x")))) // a CI does not say that the other end takes any
	sends(t, l, to(rr(1)))
	is(t, l, true, mine, other, 1, 1)
}

// P9.4

func TestBusy(t *testing.T) {
	l := made(t, mine, 2, 3, 2)
	l.Out()
	for _, on := range []bool{true, true, false, false, true} { // it is not up: nobody is to be answered
		busy(t, l, on)
		sends(t, l)
	}
	get(t, l, ua(other, mine))
	sends(t, l)
	get(t, l, from(ci(0, 0, []byte("x")))) // it is busy from ahead of its being up
	sends(t, l, to(rnr(0)))
	busy(t, l, true)
	sends(t, l)
	busy(t, l, false)
	sends(t, l, to(rr(0)))
	busy(t, l, false)
	sends(t, l)
	get(t, l, from(ci(0, 0, []byte("x"))))
	sends(t, l, to(rr(1)))
	busy(t, l, true)
	busy(t, l, true)
	sends(t, l)
	busy(t, l, false)
	sends(t, l, to(rr(1)))
	comesIn(t, l, []byte("x"))
	doesNotCount(t, l)
	is(t, l, true, mine, other, 1, 0)
}

func TestOutAndInTellAllInOrder(t *testing.T) {
	l := made(t, mine, 3, 2, 1)
	ticks(t, l, 2)
	get(t, l, sabme(other))
	get(t, l, ua(other, mine))
	push(t, l, onePayload(0), api.OK)
	get(t, l, from(ci(1, 0, onePayload(1))))
	get(t, l, from(ci(0, 0, onePayload(0))))
	ticks(t, l, 4)
	get(t, l, sabme(8))
	sends(t, l, sabme(mine), polled(sabme(mine)), ua(mine, other),
		to(ci(0, 0, onePayload(0))), to(srej(0)), to(rr(0)), to(rr(2)),
		polled(to(ci(0, 2, onePayload(0)))), sabme(mine+1), ua(mine+1, 8))
	comesIn(t, l, payloads(0, 1)...)
}

func TestNilLink(t *testing.T) {
	var l *Link
	for _, p := range [][]byte{nil, []byte("a"), make([]byte, mostBytes+1)} {
		push(t, l, p, api.ErrState)
	}
	all := inPairs(0)
	for _, list := range wrongControls() {
		all = append(all, list...)
	}
	for _, c := range append(all, sabme(1), ua(1, 2), dm(1, 0), polled(sabme(1))) {
		if e := l.Receive(c); e != api.ErrState {
			t.Errorf("Receive of %+v: %v", c, e)
		}
	}
	if e := l.Tick(); e != api.ErrState {
		t.Errorf("Tick: %v", e)
	}
	for _, on := range []bool{true, false} {
		if e := l.Busy(on); e != api.ErrState {
			t.Errorf("Busy(%v): %v", on, e)
		}
	}
	is(t, l, false, 0, -1, 0, 0)
	if l.Out() != nil || l.In() != nil {
		t.Errorf("Out %v, In %v", l.Out(), l.In())
	}
}

// What is handed in is neither changed nor kept, nor what lies in the room behind it; what is answered is new memory.

func scribble(p []byte) {
	p = p[:cap(p)]
	for i := range p {
		p[i] ^= 0xff
	}
}

func TestHandedInStaysAsItIs(t *testing.T) {
	room := []byte("payload and room behind it")
	was := bytes.Clone(room)
	l := risen(t, 2, 1, 3)
	push(t, l, room[:7], api.OK)
	push(t, l, room[:0], api.ErrForm)
	get(t, l, from(ci(1, 0, room[:7])))
	get(t, l, from(ci(0, 0, room[:7])))
	get(t, l, from(ci(0, 0, room[:7])))
	ticks(t, l, 1)
	get(t, l, from(srej(0)))
	for _, c := range l.Out() {
		scribble(c.Data)
	}
	for _, p := range l.In() {
		scribble(p)
	}
	if !bytes.Equal(room, was) {
		t.Errorf("%q", room)
	}
}

func TestHandedInIsNotKept(t *testing.T) {
	room := make([]byte, 7, 30)
	word := []byte("payload")
	l := risen(t, 1, 1, 3)
	for range 2 { // one goes out, one waits
		copy(room, word)
		push(t, l, room, api.OK)
		scribble(room)
	}
	copy(room, word)
	get(t, l, from(ci(0, 0, room)))
	scribble(room)
	comesIn(t, l, word)
	sends(t, l, to(ci(0, 0, word)), to(rr(1)))
	get(t, l, from(rr(1)))
	sends(t, l, to(ci(1, 1, word)))

	l = risen(t, 2, 1, 3)
	copy(room, word)
	get(t, l, from(ci(1, 0, room)))
	scribble(room)
	copy(room, word)
	get(t, l, from(ci(0, 0, room)))
	scribble(room)
	comesIn(t, l, word, word)
}

func TestAnswersAreNewMemory(t *testing.T) {
	l := laden(t, 2, 2, 9, 3)
	get(t, l, from(srej(0)))
	get(t, l, from(srej(0)))
	ticks(t, l, 2)
	sent := l.Out()
	if len(sent) != 3 {
		t.Fatalf("%+v", sent)
	}
	for i, c := range sent {
		if !bytes.Equal(c.Data, onePayload(0)) {
			t.Errorf("one that was sent shares with another one: %d % x", i, c.Data)
		}
		scribble(c.Data)
	}
	clear(sent[:cap(sent)])
	sendsAt(t, l, 2, polled(to(ci(0, 0, onePayload(0)))))

	get(t, l, from(ci(2, 0, onePayload(2)))) // too far ahead
	get(t, l, from(ci(1, 0, onePayload(1))))
	get(t, l, from(ci(0, 0, onePayload(0))))
	told := l.In()
	if !sameLists(told, payloads(0, 1)) {
		t.Fatalf("% x", told)
	}
	for i, p := range told {
		if !bytes.Equal(p, onePayload(i)) {
			t.Errorf("one that came in shares with another one: % x", p)
		}
		scribble(p)
	}
	clear(told[:cap(told)])
	get(t, l, from(ci(2, 0, onePayload(2))))
	comesIn(t, l, onePayload(2))
}

func TestEndsShareNothing(t *testing.T) {
	a, b := laden(t, 2, 5, 2, 3), laden(t, 2, 5, 2, 1)
	get(t, a, from(rr(2)))
	get(t, a, from(ci(0, 2, []byte("x"))))
	is(t, b, true, mine, other, 1, 1)
	sends(t, b)
	comesIn(t, b)
	get(t, b, dm(8, mine))
	is(t, a, true, mine, other, 1, 1)
	comesIn(t, a, []byte("x"))
}
