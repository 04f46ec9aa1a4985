package node_test

import (
	"fmt"
	"slices"
	"strings"
	"testing"

	"portage/api"
)

// Words: a word from a neighbour

// An offer for the node itself

func TestAnOfferForItselfThatIsNew(t *testing.T) {
	b := usual(t)
	b.says(2, offer(7, "2>3:1.1", "abc"))
	b.delivers("2>3:1.1 abc")
	b.hears(2, "ack 7 2>3:1.1")
	b.says(6, offer(mostNumber, "9>3:4.1", long(mostPayload))) // from far away, by whoever
	b.delivers("9>3:4.1 " + long(mostPayload))
	b.hears(6, "ack 65535 9>3:4.1")
	b.hears(1)
	b.hears(2)
	b.holds()
	want := "[{2 1 1 []} {9 4 1 []}]"
	if got := fmt.Sprint(b.n.State().Seen); got != want {
		t.Fatal(got)
	}
	if got := fmt.Sprint(b.safe().Seen); got != want {
		t.Fatalf("safely %s", got)
	}
}

func TestAnOfferForItselfThatWasDelivered(t *testing.T) {
	b := usual(t)
	b.says(2, offer(7, "2>3:1.1", "abc"))
	b.hears(2, "ack 7 2>3:1.1")
	b.delivers("2>3:1.1 abc")
	was := b.view()
	b.says(2, offer(8, "2>3:1.1", "abc"))
	b.hears(2, "ack 8 2>3:1.1")
	b.says(6, offer(8, "2>3:1.1", "abc"))
	b.hears(6, "ack 8 2>3:1.1")
	b.delivers()
	alike(t, "behind the second one", b.view(), was)
	// Nor is it behind a crash, in an epoch more.
	ok(t, b.d.Crash(nil))
	b = on(t, b.d, roomy(), around...)
	b.meets(2)
	b.says(2, offer(0, "2>3:1.1", "abc"))
	b.hears(2, "ack 0 2>3:1.1")
	b.delivers()
}

// Deliver errs where there are too many gaps, or the disk has no room.
func TestAnOfferForItselfThatDeliverRefuses(t *testing.T) {
	b := usualOf(t, with(func(s *api.Settings) { s.Quota.Gaps = 1 }))
	b.says(2, offer(1, "2>3:1.3", "c"))
	b.hears(2, "ack 1 2>3:1.3")
	b.delivers("2>3:1.3 c")
	was := b.view()
	b.says(2, offer(2, "2>3:1.5", "e"))
	b.hears(2, "refuse 2 2>3:1.5")
	b.delivers()
	alike(t, "refused", b.view(), was)
	b.says(2, offer(3, "2>3:1.3", "c"), offer(4, "2>3:1.1", "a"), offer(5, "2>3:1.5", "e"), offer(6, "2>3:1.2", "b"), offer(7, "2>3:1.5", "e"))
	b.hears(2, "ack 3 2>3:1.3", "ack 4 2>3:1.1", "refuse 5 2>3:1.5", "ack 6 2>3:1.2", "ack 7 2>3:1.5")
	b.delivers("2>3:1.1 a", "2>3:1.2 b", "2>3:1.5 e")

	b = usual(t)
	ok(t, b.d.Limit(b.d.Used()+14))
	was = b.view()
	b.says(2, offer(1, "2>3:1.1", "a"))
	b.hears(2, "refuse 1 2>3:1.1")
	b.delivers()
	alike(t, "refused", b.view(), was)
	ok(t, b.d.Limit(b.d.Used()+15))
	b.says(2, offer(2, "2>3:1.1", "a"))
	b.hears(2, "ack 2 2>3:1.1")
	b.delivers("2>3:1.1 a")
}

// An offer for another node

func TestAnOfferForAnotherNodeThatIsNew(t *testing.T) {
	b := usual(t)
	b.says(1, offer(7, "1>63:1.1", "a"))
	b.goesOut(1, "rr 2", "i 0/2 ack 7 1>63:1.1")
	b.holds("1>63:1.1 a")
	b.safelyHolds("1>63:1.1 a")
	b.says(6, offer(0, "9>1:3.5", long(mostPayload)))
	b.holds("1>63:1.1 a", "9>1:3.5 "+long(mostPayload))
	b.safelyHolds("1>63:1.1 a", "9>1:3.5 "+long(mostPayload))
	b.goesOut(6, "rr 1", "i 0/1 ack 0 9>1:3.5")
	b.goesOut(1, "i 1/2 offer 0 9>1:3.5 "+long(mostPayload)) // at once it is offered on
	b.goesOut(2)
	b.delivers()
}

// The next hop may be who offered it.
func TestAnOfferThatGoesBack(t *testing.T) {
	b := usual(t)
	b.says(2, offer(7, "1>5:1.1", "a"))
	b.hears(2, "ack 7 1>5:1.1", "offer 0 1>5:1.1 a")
	b.holds("1>5:1.1 a")
	b.says(2, offer(8, "1>2:1.1", "b")) // or its own destination
	b.hears(2, "ack 8 1>2:1.1", "offer 1 1>2:1.1 b")
}

// A message of the node's own comes back.
func TestAnOfferOfItsOwn(t *testing.T) {
	b := usual(t)
	b.submits(1, "a", "3>1:1.1")
	b.hears(1, "offer 0 3>1:1.1 a")
	b.says(1, ack(0, "3>1:1.1"))
	b.holds()
	b.says(1, offer(4, "3>1:1.1", "a"))
	b.hears(1, "ack 4 3>1:1.1", "offer 1 3>1:1.1 a")
	b.holds("3>1:1.1 a")
	b.submits(1, "b", "3>1:1.2")
	b.says(1, offer(5, "3>1:1.9", "c"))
	b.submits(1, "d", "3>1:1.10") // no counter is used again
	b.hears(1, "offer 2 3>1:1.2 b", "ack 5 3>1:1.9", "offer 3 3>1:1.9 c", "offer 4 3>1:1.10 d")
}

// What is held, and is not on its way to anybody, is taken over from whoever offers it.
func TestAnOfferOfWhatIsHeldAndLies(t *testing.T) {
	b := laden(t)
	was := b.view()
	for _, i := range []string{"3>63:1.1", "3>5:1.1"} { // there is no way; it waits
		for _, from := range around {
			b.says(from, offer(40, i, "x"))
			b.hears(from, "ack 40 "+i)
		}
	}
	alike(t, "it is held once", b.view(), was)
	b.nobodyHears()
}

func TestAnOfferOfWhatIsHeldAndOffered(t *testing.T) {
	b := laden(t)
	was := b.view()
	for _, from := range around {
		b.says(from, offer(41, "3>1:1.1", "offered"))
		b.hears(from, "refuse 41 3>1:1.1")
	}
	alike(t, "it is held", b.view(), was)
	// To whom it was offered takes it, or not, all the same.
	b.says(1, ack(0, "3>1:1.1"))
	b.holds("3>5:1.1 waits", "3>63:1.1 lies")
	b.says(6, offer(42, "3>1:1.1", "offered")) // now it is new
	b.hears(6, "ack 42 3>1:1.1")
	b.holds("3>5:1.1 waits", "3>63:1.1 lies", "3>1:1.1 offered")
	b.hears(1, "offer 2 3>1:1.1 offered")
}

// Two hold one and the same message, and each has it on its way to the other: both refuse, and wait; who is done first takes it.
func TestTwoThatOfferOneAnother(t *testing.T) {
	b := laden(t)
	b.says(1, offer(40, "3>1:1.1", "offered"), refuse(0, "3>1:1.1"))
	b.hears(1, "refuse 40 3>1:1.1")
	b.says(1, offer(41, "3>1:1.1", "offered"))
	b.hears(1, "ack 41 3>1:1.1") // it waits, so it is not on its way
	b.holds("3>1:1.1 offered", "3>5:1.1 waits", "3>63:1.1 lies")
	b.ticks(b.s.Wait)
	b.hears(1, "offer 2 3>1:1.1 offered")
}

// Hold errs: the quota, the disk, or a message of its own that it can't have made.
func TestAnOfferThatHoldRefuses(t *testing.T) {
	for name, s := range map[string]api.Settings{
		"messages": with(func(s *api.Settings) { s.Quota.Held = 3 }),
		"bytes":    with(func(s *api.Settings) { s.Quota.Bytes = 16 }),
	} {
		b := ladenOf(t, s)
		was := b.view()
		b.says(2, offer(41, "2>9:1.1", "x"))
		b.hears(2, "refuse 41 2>9:1.1")
		alike(t, name, b.view(), was)
		b.says(2, offer(42, "3>63:1.1", "lies")) // but what is held already
		b.hears(2, "ack 42 3>63:1.1")
		b.says(1, offer(43, "9>3:1.1", "y")) // or is delivered
		b.hears(1, "ack 43 9>3:1.1")
		b.says(1, ack(0, "3>1:1.1"))
		b.says(2, offer(44, "2>9:1.1", "x"))
		b.hears(2, "ack 44 2>9:1.1", "offer 2 2>9:1.1 x")
	}
	b := laden(t)
	ok(t, b.d.Limit(b.d.Used()+15))
	was := b.view()
	b.says(2, offer(41, "2>9:1.1", "x"))
	b.hears(2, "refuse 41 2>9:1.1")
	alike(t, "disk", b.view(), was)
	ok(t, b.d.Limit(b.d.Used()+16))
	b.says(2, offer(42, "2>9:1.1", "x"))
	b.hears(2, "ack 42 2>9:1.1", "offer 2 2>9:1.1 x")

	b = laden(t)
	was = b.view()
	b.says(2, offer(41, "3>9:2.1", "x"))
	b.hears(2, "refuse 41 3>9:2.1")
	alike(t, "of an epoch to come", b.view(), was)
}

// Acks and refuses

// asOffered answers a node that has offered 3>1:1.1 to 1 by the number 0, 3>5:1.1 to 2 by 1, and again, behind a wait, by 2.
func asOffered(t *testing.T) *bench {
	t.Helper()
	b := laden(t)
	b.ticks(b.s.Wait)
	b.hears(2, "offer 2 3>5:1.1 waits")
	return b
}

func TestAnAck(t *testing.T) {
	b := asOffered(t)
	b.says(1, ack(0, "3>1:1.1"))
	b.holds("3>5:1.1 waits", "3>63:1.1 lies")
	b.says(2, ack(2, "3>5:1.1"))
	b.holds("3>63:1.1 lies")
	b.nobodyHears() // nobody answers an ack
	b.delivers("2>3:1.1 came")
	b.ticks(1)
	b.safelyHolds("3>1:1.1 offered", "3>5:1.1 waits", "3>63:1.1 lies") // it is let go, but not safely
	b.submits(63, "x", "3>63:1.2")
	b.safelyHolds("3>63:1.1 lies", "3>63:1.2 x")
}

func TestARefuse(t *testing.T) {
	b := asOffered(t)
	was := b.view()
	b.says(1, refuse(0, "3>1:1.1"))
	b.says(2, refuse(2, "3>5:1.1"))
	alike(t, "it is held all the same", b.view(), was)
	b.nobodyHears()
	b.says(6, offer(9, "3>1:1.1", "offered")) // for it is not on its way any more
	b.hears(6, "ack 9 3>1:1.1")
	b.ticks(1)
	b.settle()
	b.says(1, ack(0, "3>1:1.1"), refuse(0, "3>1:1.1")) // nor can that be acked
	b.holds("3>1:1.1 offered", "3>5:1.1 waits", "3>63:1.1 lies")
	for range b.s.Wait - 2 {
		b.ticks(1)
		b.settle()
	}
	for _, to := range around {
		b.sides[to].heard = nil // routes were told meanwhile
	}
	b.ticks(1)
	b.hears(1, "offer 3 3>1:1.1 offered")
	b.hears(2, "offer 4 3>5:1.1 waits")
}

// idle are acks and refuses that say nothing: by whom, and which.
func idle(kind func(int, string) api.Hop) map[int][]api.Hop {
	return map[int][]api.Hop{
		1: {kind(1, "3>1:1.1"), kind(2, "3>1:1.1"), kind(mostNumber, "3>1:1.1"), kind(256, "3>1:1.1"), kind(2, "3>5:1.1"), kind(1, "3>5:1.1"), kind(0, "3>63:1.1"), kind(0, "3>1:1.2"), kind(0, "1>3:1.1"), kind(0, "3>1:2.1")},
		2: {kind(1, "3>5:1.1"), kind(0, "3>5:1.1"), kind(3, "3>5:1.1"), kind(0, "3>1:1.1"), kind(2, "3>1:1.1"), kind(3, "3>63:1.1"), kind(9, "2>3:1.1")},
		6: {kind(0, "3>1:1.1"), kind(2, "3>5:1.1"), kind(0, "3>63:1.1"), kind(2, "3>63:1.1"), kind(0, "1>2:1.1")},
	}
}

// An ack, a refuse of an elder offer, from another neighbour, of an id that is not offered, say nothing.
func TestAnswersThatSayNothing(t *testing.T) {
	later := func(b *bench) string { // what comes of the desk, the link's numbers apart
		b.t.Helper()
		var out strings.Builder
		for range 2 * mostTimer {
			b.ticks(1)
			b.settle()
			for _, to := range around {
				fmt.Fprint(&out, to, b.sides[to].heard, "; ")
				b.sides[to].heard = nil
			}
		}
		return out.String() + b.view()
	}
	asWas, was := later(asOffered(t)), asOffered(t).view()
	for _, kind := range []func(int, string) api.Hop{ack, refuse} {
		for from, l := range idle(kind) {
			for _, h := range l {
				b := asOffered(t)
				b.says(from, h)
				b.nobodyHears()
				alike(t, fmt.Sprintf("behind %s from %d", word(h), from), b.view(), was)
				alike(t, fmt.Sprintf("later than %s from %d", word(h), from), later(b), asWas)
			}
		}
	}
}

// A message that there is no room to let go is offered again, and acked again.
func TestAnAckWithADiskThatIsFull(t *testing.T) {
	b := laden(t)
	ok(t, b.d.Limit(b.d.Used()))
	b.says(1, ack(0, "3>1:1.1"))
	b.holds("3>1:1.1 offered", "3>5:1.1 waits", "3>63:1.1 lies")
	b.hears(1, "offer 2 3>1:1.1 offered")
	ok(t, b.d.Limit(mostDisk))
	b.says(1, ack(0, "3>1:1.1"))
	b.holds("3>1:1.1 offered", "3>5:1.1 waits", "3>63:1.1 lies")
	b.says(1, ack(2, "3>1:1.1"))
	b.holds("3>5:1.1 waits", "3>63:1.1 lies")
	b.nobodyHears()
}

// Routes

func TestRoutesThatAreHeard(t *testing.T) {
	b := usual(t)
	b.says(6, tells(6, 0, 5, 0, 9, 15, 63, 14, self, 1))
	for dest, want := range map[int]int{1: 1, 2: 1, 3: 0, 5: 1, 6: 1, 9: 4, 63: 15, 0: far, 4: far} {
		if got := b.n.Cost(dest); got != want {
			t.Fatalf("%d costs %d; not %d", dest, got, want)
		}
	}
	b.says(2, tells()) // nothing can be reached by it any more, itself neither
	if b.n.Cost(2) != far || b.n.Cost(9) != far || b.n.Cost(5) != 1 {
		t.Fatal(b.view())
	}
	b.nobodyHears() // nobody answers routes; they are told by ticks alone
	if b.n.Bad() != 0 {
		t.Fatal(b.view())
	}
}

// What is offered stays so; what is not goes by the new next hop, at once.
func TestRoutesThatChangeANextHop(t *testing.T) {
	b := laden(t)
	b.submits(5, "second", "3>5:1.2")
	b.hears(2, "offer 2 3>5:1.2 second")
	b.says(6, tells(6, 0, 5, 0, 63, 3))
	b.hears(6, "offer 3 3>63:1.1 lies")
	b.submits(5, "third", "3>5:1.3")
	b.hears(6, "offer 4 3>5:1.3 third")
	b.hears(2)
	b.says(2, ack(2, "3>5:1.2")) // to whom it was offered may say so
	b.holds("3>1:1.1 offered", "3>5:1.1 waits", "3>63:1.1 lies", "3>5:1.3 third")
	b.ticks(b.s.Wait)
	b.hears(6, "offer 5 3>5:1.1 waits") // what has waited, too
	b.hears(2)
	b.says(6, tells(6, 0)) // and back
	b.submits(5, "fourth", "3>5:1.4")
	b.hears(2, "offer 6 3>5:1.4 fourth")
	b.hears(6)
	b.hears(1)
}

// Words of one call are looked at in order, and only then offers are made.
func TestRoutesAndOffersInOneCall(t *testing.T) {
	b := usual(t)
	b.submits(9, "a", "3>9:1.1")
	b.hears(2, "offer 0 3>9:1.1 a")
	b.says(2, refuse(0, "3>9:1.1"), offer(1, "2>5:1.1", "b"), tells(2, 0), offer(2, "2>9:1.1", "c"), ack(0, "3>9:1.1"))
	b.hears(2, "ack 1 2>5:1.1", "ack 2 2>9:1.1")
	b.holds("3>9:1.1 a", "2>5:1.1 b", "2>9:1.1 c")
	b.says(6, tells(5, 3), offer(3, "6>1:1.1", "d"), tells(9, 3))
	b.hears(6, "ack 3 6>1:1.1", "offer 1 2>9:1.1 c") // 3>9:1.1 waits still
	b.hears(1, "offer 2 6>1:1.1 d")
}

// Whoever says it: each kind of word from a neighbour that says nothing else, at a node that knows nothing.
func TestEachKindOfWordAtANodeThatKnowsNothing(t *testing.T) {
	for want, h := range map[string]api.Hop{
		"ack 9 1>3:1.1": offer(9, "1>3:1.1", "x"), "ack 9 1>2:1.1": offer(9, "1>2:1.1", "x"), "": ack(0, "3>1:1.1"), " ": refuse(0, "3>1:1.1"), "  ": tells(6, 0),
	} {
		b := met(t, roomy(), around...)
		b.says(6, h)
		if answer := strings.TrimSpace(want); answer == "" {
			b.hears(6)
		} else {
			b.hears(6, answer)
		}
		if b.n.Bad() != 0 || b.n.Down() {
			t.Fatal(b.view())
		}
		if heard := h.Kind == api.HRoutes; heard != (b.n.Cost(6) == 1) {
			t.Fatal(b.view())
		}
		b.hears(1)
		b.hears(2)
	}
}

// An answer for which an end has no room is lost: what was taken over is, all the same.
func TestAnswersThatFindNoRoom(t *testing.T) {
	b := usualOf(t, with(func(s *api.Settings) { s.Window = 4; s.Timer = mostTimer }))
	ok(t, b.n.Route(1, 1))
	for n := 1; n <= mostQueue; n++ {
		b.submits(1, "x", fmt.Sprintf("3>1:1.%d", n))
	}
	held := texts(b.n.State().Held)
	b.says(1, offer(1, "1>3:1.1", "came"), offer(2, "1>63:1.1", "new"), offer(3, "3>1:1.1", "x"))
	b.delivers("1>3:1.1 came")
	held = append(held, "1>63:1.1 new")
	b.holds(held...)
	b.settle()
	got := b.sides[1].heard
	if len(got) != mostQueue || slices.ContainsFunc(got, func(s string) bool { return s[0] != 'o' }) {
		t.Fatalf("%q", got)
	}
	b.sides[1].heard = nil
	b.says(1, offer(4, "1>3:1.1", "came"), offer(5, "1>63:1.1", "new"), offer(6, "3>1:1.1", "x"))
	b.hears(1, "ack 4 1>3:1.1", "ack 5 1>63:1.1", "refuse 6 3>1:1.1")
	b.delivers()
	b.holds(held...)
}
