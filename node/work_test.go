package node_test

import (
	"fmt"
	"math"
	"slices"
	"testing"

	"portage/api"
)

// Words: it works

// A neighbour begins anew: what was offered to it is taken back, and, as its end is up, offered again in the same call.
func TestANeighbourThatBeginsAnew(t *testing.T) {
	b := laden(t)
	b.submits(2, "two", "3>2:1.1")
	b.hears(2, "offer 2 3>2:1.1 two")
	b.begins(1, 99)
	ok(t, b.back(1))
	b.goesOut(1, "ua", "i 0/0 offer 3 3>1:1.1 offered") // first the reset, then offers, then what goes out
	b.goesOut(2)
	b.goesOut(6)
	ok(t, b.back(1))
	b.hears(1, "offer 3 3>1:1.1 offered")
	b.says(1, ack(0, "3>1:1.1")) // that was the elder offer
	b.holds("3>1:1.1 offered", "3>5:1.1 waits", "3>63:1.1 lies", "3>2:1.1 two")
	b.says(2, ack(2, "3>2:1.1")) // no other neighbour's was taken back
	b.holds("3>1:1.1 offered", "3>5:1.1 waits", "3>63:1.1 lies")
	b.says(1, ack(3, "3>1:1.1"))
	b.holds("3>5:1.1 waits", "3>63:1.1 lies")
	b.nobodyHears()
}

// What waits goes on waiting, whoever begins anew.
func TestWhatWaitsWhenANeighbourBeginsAnew(t *testing.T) {
	b := laden(t)
	b.begins(2, 99)
	b.meets(2)
	b.hears(2)
	b.ticks(b.s.Wait - 1)
	b.hears(2)
	b.ticks(1)
	b.hears(2, "offer 2 3>5:1.1 waits")
}

// A call that is doubled begins nothing anew.
func TestANeighbourThatCallsTwice(t *testing.T) {
	b := laden(t)
	for n, want := range []string{"offer 2 3>1:1.1 offered", ""} {
		ok(t, b.n.Receive(1, frames([]api.Ctl{{Kind: api.CSABME, Me: 99}})))
		got := b.n.Take(1)
		ua := frames([]api.Ctl{{Kind: api.CUA, Me: 512, Peer: 99}})
		if len(got) < len(ua) || !slices.Equal(got[:len(ua)], ua) || (len(got) > len(ua)) != (want != "") {
			t.Fatalf("call %d: % x", n, got)
		}
	}
}

// The node's own end begins anew, by nobody's answering: what was offered is offered again once it is up.
func TestAnEndThatBeginsAnew(t *testing.T) {
	b := usualOf(t, with(func(s *api.Settings) { s.Timer = 3; s.Tries = 1 }))
	ok(t, b.n.Route(1, 1))
	b.submits(1, "a", "3>1:1.1")
	b.submits(2, "b", "3>2:1.1")
	b.take(2)
	ok(t, b.back(2))
	b.goesOut(1, "i 0/1 offer 0 3>1:1.1 a")
	b.sides[1].end.Out() // that is lost
	b.ticks(6)
	if b.n.Up(1) || !b.n.Up(2) {
		t.Fatal(b.view())
	}
	b.sides[1].away = true
	b.says(6, offer(9, "3>1:1.1", "a")) // it is not offered any more
	b.settle()
	if got := b.sides[6].heard; !slices.Contains(got, "ack 9 3>1:1.1") {
		t.Fatalf("%q", got)
	}
	b.says(6, offer(10, "3>2:1.1", "b")) // but that is
	b.settle()
	if got := b.sides[6].heard; !slices.Contains(got, "refuse 10 3>2:1.1") {
		t.Fatalf("%q", got)
	}
	b.begins(1, 99)
	b.meets(1)
	b.hears(1, "offer 2 3>1:1.1 a")
}

// Two ends begin anew in one tick: what was offered to each of them is taken back.
func TestTwoEndsThatBeginAnewInOneTick(t *testing.T) {
	b := usualOf(t, with(func(s *api.Settings) { s.Timer = 3; s.Tries = 1 }))
	ok(t, b.n.Route(1, 1))
	ok(t, b.n.Route(2, 2))
	b.submits(1, "a", "3>1:1.1")
	b.submits(2, "b", "3>2:1.1")
	b.ticks(6)
	for _, to := range []int{1, 2} {
		if b.n.Up(to) {
			t.Fatalf("%d is up", to)
		}
		b.begins(to, 99)
		b.sides[to].away = true
	}
	for _, to := range []int{2, 1} {
		b.take(to)
		ok(t, b.back(to))
	}
	b.sides[1].away, b.sides[2].away = false, false
	b.hears(2, "offer 2 3>2:1.1 b")
	b.hears(1, "offer 3 3>1:1.1 a")
}

// An end that meets somebody for the first time is reset too; nothing was offered to it.
func TestAnEndThatMeetsSomebody(t *testing.T) {
	b := laden(t)
	b.submits(6, "x", "3>6:1.1")
	ok(t, b.n.Route(6, 6))
	b.hears(6, "offer 2 3>6:1.1 x")
	b.says(1, ack(0, "3>1:1.1"))
	b.says(6, ack(2, "3>6:1.1"))
	b.holds("3>5:1.1 waits", "3>63:1.1 lies")
}

// All that is held goes out by the order in which it came, each to its next hop, by one number behind the other.
func TestOffersInOrder(t *testing.T) {
	b := met(t, with(func(s *api.Settings) { s.Window = mostWindow }), around...)
	for n, dest := range []int{9, 1, 2, 1, 63, 5, 2, 6} {
		b.submits(dest, string(rune('a'+n)), fmt.Sprintf("3>%d:1.%d", dest, []int{1, 1, 1, 2, 1, 1, 2, 1}[n]))
	}
	b.nobodyHears()
	b.says(2, tells(2, 0, 1, 1, 9, 1, 5, 7))
	b.hears(2, "offer 0 3>9:1.1 a", "offer 1 3>1:1.1 b", "offer 2 3>2:1.1 c", "offer 3 3>1:1.2 d", "offer 4 3>5:1.1 f", "offer 5 3>2:1.2 g")
	b.hears(1)
	b.hears(6)
	b.says(6, tells(6, 0, 63, 2))
	b.hears(6, "offer 6 3>63:1.1 e", "offer 7 3>6:1.1 h")
}

// An end that takes no more payloads: the desk takes its offer back, and makes it again by the next number whenever the node works.
func TestAnEndThatTakesNoMore(t *testing.T) {
	b := usualOf(t, with(func(s *api.Settings) { s.Window = 1; s.Timer = mostTimer }))
	for n := 1; n <= mostQueue; n++ {
		b.submits(1, "x", fmt.Sprintf("3>1:1.%d", n))
	}
	b.goesOut(1, "i 0/1 offer 0 3>1:1.1 x") // and 63 wait
	b.submits(1, "y", "3>1:1.65")           // by the number 64, in vain
	b.submits(1, "z", "3>1:1.66")           // 65 and 66, in vain
	b.submits(2, "w", "3>2:1.1")            // 67 and 68, in vain, and 69
	b.take(2)
	b.heard(2, "offer 69 3>2:1.1 w")
	b.ticks(1) // 70 and 71, in vain
	b.goesOut(1)
	b.goesOut(2)
	ok(t, b.back(1)) // one is acknowledged: 72, and 73, in vain
	b.settle()
	got := b.sides[1].heard
	if len(got) != mostQueue+2 || got[mostQueue-1] != "offer 63 3>1:1.64 x" || got[mostQueue] != "offer 72 3>1:1.65 y" || got[mostQueue+1] != "offer 74 3>1:1.66 z" {
		t.Fatalf("%q", got)
	}
	b.sides[1].heard = nil
	b.says(1, ack(64, "3>1:1.65"), ack(65, "3>1:1.65"), ack(70, "3>1:1.65"), ack(72, "3>1:1.65"), ack(0, "3>1:1.1"))
	b.settle()
	if held := texts(b.n.State().Held); len(held) != mostQueue+1 || held[0] != "3>1:1.2 x" || held[63] != "3>1:1.66 z" {
		t.Fatalf("%q", held)
	}
}

// What was taken back is not offered to anybody: it is taken over from others, and goes elsewhere where there is a way.
func TestWhatAnEndDidNotTake(t *testing.T) {
	b := usualOf(t, with(func(s *api.Settings) { s.Window = 1; s.Timer = mostTimer }))
	for n := 1; n <= mostQueue+2; n++ {
		b.submits(1, "x", fmt.Sprintf("3>1:1.%d", n))
	}
	b.says(6, offer(1, "3>1:1.1", "x"), offer(2, "3>1:1.64", "x"), offer(3, "3>1:1.65", "x"), offer(4, "3>1:1.66", "x"))
	b.sides[1].away = true
	b.hears(6, "refuse 1 3>1:1.1", "refuse 2 3>1:1.64", "ack 3 3>1:1.65", "ack 4 3>1:1.66")
	ok(t, b.n.Route(1, 6))
	b.settle()
	if got := b.sides[6].heard; len(got) != 2 || got[0][len(got[0])-10:] != "3>1:1.65 x" || got[1][len(got[1])-10:] != "3>1:1.66 x" {
		t.Fatalf("%q", got)
	}
}

// What goes out is laid behind what is to go out already, call by call.
func TestWhatGoesOutIsLaidBehind(t *testing.T) {
	b := usual(t)
	b.submits(1, "a", "3>1:1.1")
	b.says(1, offer(1, "1>3:1.1", "x"), offer(2, "1>2:1.1", "y"))
	b.ticks(b.s.Timer)
	b.submits(2, "b", "3>2:1.1")
	b.submits(1, "c", "3>1:1.2")
	b.goesOut(1, "i 0/1 offer 0 3>1:1.1 a", "rr 2", "i 1/2 ack 1 1>3:1.1", "rr 3", "i 2/3 ack 2 1>2:1.1", "i 0/3 p offer 0 3>1:1.1 a", "i 3/3 routes 2:1 3:0 5:2 9:4", "i 4/3 offer 3 3>1:1.2 c")
	b.goesOut(2, "i 0/1 offer 1 1>2:1.1 y", "i 0/1 p offer 1 1>2:1.1 y", "i 1/1 routes 1:1 3:0", "i 2/1 offer 2 3>2:1.1 b")
	b.goesOut(6, "i 0/0 routes 1:1 2:1 3:0 5:2 9:4")
}

// No more than the settings' Window are under way.
func TestTheWindow(t *testing.T) {
	for _, window := range []int{1, 2, 9, mostWindow} {
		b := usualOf(t, with(func(s *api.Settings) { s.Window = window }))
		for n := 1; n <= mostQueue; n++ {
			b.submits(1, "x", fmt.Sprintf("3>1:1.%d", n))
		}
		if l := b.take(1); len(l) != window {
			t.Fatalf("%d are under way; not %d", len(l), window)
		}
	}
}

// P21.2: Compact

func TestCompact(t *testing.T) {
	b := laden(t)
	for n := range 50 {
		b.says(1, offer(n, fmt.Sprintf("1>3:1.%d", n+1), "x"))
		b.hears(1, fmt.Sprintf("ack %d 1>3:1.%d", n, n+1))
	}
	b.n.Delivered()
	was, used := view(b.n), b.d.Used()
	ok(t, b.n.Compact())
	alike(t, "behind Compact", view(b.n), was)
	if l := b.d.Names(); !slices.Equal(l, []string{"s00002"}) || b.d.Used() > used/4 {
		t.Fatalf("%q, %d bytes of %d", l, b.d.Used(), used)
	}
	b.nobodyHears()
	b.safelyHolds("3>1:1.1 offered", "3>5:1.1 waits", "3>63:1.1 lies")
	leaves(t, func() *bench { b := laden(t); ok(t, b.n.Compact()); return b }, api.OK, compacting()) // twice is once
	b.says(1, ack(0, "3>1:1.1"))
	b.ticks(b.s.Wait)
	b.hears(2, "offer 2 3>5:1.1 waits")
	b.submits(1, "x", "3>1:1.2")
	b.safelyHolds("3>5:1.1 waits", "3>63:1.1 lies", "3>1:1.2 x")
}

func TestCompactWithADiskThatIsFull(t *testing.T) {
	b := laden(t)
	ok(t, b.d.Limit(b.d.Used()))
	was := view(b.n)
	answers(t, b.n.Compact(), api.ErrFull)
	alike(t, "behind Compact", view(b.n), was)
	b.nobodyHears()
	ok(t, b.d.Limit(mostDisk))
	ok(t, b.n.Compact())
	b.safelyHolds("3>1:1.1 offered", "3>5:1.1 waits", "3>63:1.1 lies")
}

// Compact works, as all of them do: it makes again what an end did not take.
func TestCompactAndRouteWork(t *testing.T) {
	for name, call := range map[string]called{"Compact": compacting(), "Route": routing(9, 2), "Tick": ticking(), "Receive": receiving(6, ""), "Submit": submitting(63, "x"), "a Submit that is refused": submitting(self, "x"), "a Route that is refused": routing(self, 1)} {
		b := usualOf(t, with(func(s *api.Settings) { s.Window = 1; s.Timer = mostTimer }))
		for n := 1; n <= mostQueue+1; n++ {
			b.submits(1, "x", fmt.Sprintf("3>1:1.%d", n)) // the last one by the number 64, in vain
		}
		call.do(b) // and by 65
		b.submits(2, "y", "3>2:1.1")
		b.take(2)
		b.heard(2, "offer 67 3>2:1.1 y")
		if t.Failed() {
			t.Fatal(name)
		}
	}
}

// P21.2: Route

func TestRouteByANeighbourThatIsUp(t *testing.T) {
	b := laden(t)
	ok(t, b.n.Route(63, 6))
	b.hears(6, "offer 2 3>63:1.1 lies") // at once
	if b.n.Cost(63) != far {            // 6 said nothing of it
		t.Fatal(b.view())
	}
	ok(t, b.n.Route(5, 1)) // it waits
	b.nobodyHears()
	b.submits(5, "x", "3>5:1.2")
	b.hears(1, "offer 3 3>5:1.2 x")
	ok(t, b.n.Route(1, 6)) // what is offered stays so
	b.nobodyHears()
	b.submits(1, "y", "3>1:1.2")
	b.hears(6, "offer 4 3>1:1.2 y")
	b.says(1, ack(0, "3>1:1.1"))
	b.ticks(b.s.Wait)
	b.hears(1, "offer 5 3>5:1.1 waits")
	ok(t, b.n.Route(5, 2))
	ok(t, b.n.Route(5, 6)) // the last one holds
	b.submits(5, "z", "3>5:1.3")
	b.hears(6, "offer 6 3>5:1.3 z")
	b.hears(2)
}

func TestRouteByANeighbourThatIsNotUp(t *testing.T) {
	b := alone(t, roomy(), around...)
	b.sides[6].away = true
	b.meets(1, 2)
	b.says(1, tells(1, 0, 9, 1))
	b.says(2, tells(2, 0))
	b.submits(9, "a", "3>9:1.1")
	b.take(1)
	b.heard(1, "offer 0 3>9:1.1 a")
	ok(t, b.n.Route(9, 6))
	ok(t, b.n.Route(2, 6))
	b.submits(9, "b", "3>9:1.2")
	b.submits(2, "c", "3>2:1.1")
	for _, to := range []int{1, 2} {
		b.take(to)
		b.heard(to)
	}
	if b.n.Up(6) {
		t.Fatal("6 is up")
	}
	ok(t, b.n.Route(9, -1)) // taken back: it goes by 1 again, at once
	b.take(1)
	b.heard(1, "offer 1 3>9:1.2 b")
	b.take(6)
	ok(t, b.back(6))
	b.take(6)
	b.heard(6, "offer 2 3>2:1.1 c") // once it is up
}

func TestRouteTakenBack(t *testing.T) {
	b := usual(t)
	for dest := range nodes {
		if dest == self {
			continue
		}
		ok(t, b.n.Route(dest, 6))
		if b.n.Cost(dest) != far {
			t.Fatal(b.view())
		}
		ok(t, b.n.Route(dest, -1))
		ok(t, b.n.Route(dest, -1)) // none is set
	}
	asWas := usual(t).becomes()
	b = usual(t)
	ok(t, b.n.Route(5, 1))
	ok(t, b.n.Route(5, -1))
	alike(t, "behind Route", b.becomes(), asWas)
}

// What a route says is told to neighbours.
func TestRouteIsTold(t *testing.T) {
	b := usual(t)
	ok(t, b.n.Route(1, 2))
	b.says(2, tells(2, 0, 1, 4))
	b.ticks(b.s.Timer)
	b.hears(1, "routes 1:5 2:1 3:0")
	b.hears(2, "routes 3:0")
	b.hears(6, "routes 1:5 2:1 3:0")
}

func TestRouteThatIsRefused(t *testing.T) {
	var wrong []called
	for _, dest := range beyond {
		for _, via := range []int{1, -1, 9, self, math.MinInt} {
			wrong = append(wrong, routing(dest, via))
		}
	}
	checkRefused(t, api.ErrRange, wrong)
	wrong = nil
	for _, via := range append([]int{1, 9, self}, beyond...) {
		wrong = append(wrong, routing(self, via))
	}
	checkRefused(t, api.ErrForm, wrong)
	wrong = nil
	for _, via := range append([]int{0, self, 4, 5, 7, 9, 63}, beyond...) {
		if via != -1 {
			wrong = append(wrong, routing(5, via), routing(63, via))
		}
	}
	checkRefused(t, api.ErrNone, wrong)
}

func checkRefused(t *testing.T, want api.Errno, calls []called) {
	t.Helper()
	b := laden(t)
	was := b.view()
	for _, c := range calls {
		if e := c.do(b); e != want {
			t.Fatalf("%s: %d; not %d", c.text, e, want)
		}
		alike(t, c.text, b.view(), was)
		b.nobodyHears()
	}
	leaves(t, func() *bench { return laden(t) }, want, calls[0], calls[len(calls)/2], calls[len(calls)-1])
}
