package node_test

import (
	"fmt"
	"slices"
	"testing"

	"portage/api"
)

// P21.2: Tick

// Routes are told at the multiples of the settings' Timer, and at no other tick.
func TestTickTellsRoutes(t *testing.T) {
	for _, timer := range []int{1, 2, 3, 7, mostTimer - 1, mostTimer} {
		b := met(t, with(func(s *api.Settings) { s.Timer = timer }), around...)
		for n := 1; n <= 4*timer+1; n++ {
			b.says(1, tells(1, 0))
			b.says(2, tells(2, 0, 5, 1, 9, 3))
			b.nobodyHears()
			b.ticks(1)
			if n%timer != 0 {
				b.nobodyHears()
				continue
			}
			b.hears(1, "routes 2:1 3:0 5:2 9:4")
			b.hears(2, "routes 1:1 3:0")
			b.hears(6, "routes 1:1 2:1 3:0 5:2 9:4")
		}
	}
}

// Ticks are counted from New on, whoever is up.
func TestTickTellsRoutesToWhoIsUp(t *testing.T) {
	b := alone(t, with(func(s *api.Settings) { s.Timer = 6 }), around...)
	b.ticks(6)
	for _, to := range around {
		b.goesOut(to, "sabme", "sabme p") // none of them is
	}
	ok(t, b.back(2)) // from here on 2 is, and 1 some time later
	b.take(2)
	ok(t, b.back(2))
	b.ticks(5)
	b.take(2)
	b.heard(2)
	b.ticks(1)
	b.take(2)
	b.heard(2, "routes 3:0")
	ok(t, b.back(1))
	b.ticks(5)
	b.take(1)
	b.heard(1)
	b.ticks(1)
	b.take(1)
	b.take(2)
	b.heard(1, "routes 3:0")
	b.heard(2, "routes 3:0")
	if b.n.Up(6) {
		t.Fatal("6 is up")
	}
}

func TestTickWithoutNeighbours(t *testing.T) {
	b := alone(t, roomy())
	was := b.view()
	b.submits(1, "x", "3>1:1.1")
	b.ticks(3 * mostTimer)
	if got := b.view(); got == was {
		t.Fatal(got)
	}
	b.holds("3>1:1.1 x")
}

// What was heard is forgotten behind MaxTimer ticks, by the tick itself, whatever the settings' Timer is.
func TestTickOfTheTable(t *testing.T) {
	for _, timer := range []int{1, 8, mostTimer} { // it is told in the very tick
		b := usualOf(t, with(func(s *api.Settings) { s.Timer = timer }))
		b.ticks(1)
		b.settle()
		b.says(2, tells(2, 0, 7, 2))
		for range mostTimer - 2 {
			b.ticks(1)
			b.settle()
		}
		if b.n.Cost(1) != 1 || b.n.Cost(7) != 3 {
			t.Fatalf("%s", b.view())
		}
		for _, x := range b.sides {
			x.heard = nil
		}
		b.ticks(1)
		b.hears(6, "routes 2:1 3:0 7:3")
		if b.n.Cost(1) != far || b.n.Cost(7) != 3 {
			t.Fatalf("%s", b.view())
		}
		b.ticks(1)
		if b.n.Cost(2) != far || b.n.Cost(7) != far {
			t.Fatalf("%s", b.view())
		}
	}
}

// What waits is offered again behind the settings' Wait.
func TestTickOfTheDeskThatWaits(t *testing.T) {
	for _, wait := range []int{1, 2, 5, mostTimer} {
		b := usualOf(t, with(func(s *api.Settings) { s.Wait = wait; s.Timer = mostTimer }))
		b.submits(2, "x", "3>2:1.1")
		b.hears(2, "offer 0 3>2:1.1 x")
		b.says(2, refuse(0, "3>2:1.1"))
		b.ticks(wait - 1)
		b.hears(2)
		ok(t, b.n.Route(2, 2)) // so that it is not forgotten
		b.ticks(1)
		b.settle()
		heard := b.sides[2].heard
		if len(heard) == 0 || heard[len(heard)-1] != "offer 1 3>2:1.1 x" {
			t.Fatalf("wait %d: %q", wait, heard)
		}
	}
}

// What was offered MaxTimer ticks ago is offered again.
func TestTickOfTheDeskThatOffers(t *testing.T) {
	b := usualOf(t, with(func(s *api.Settings) { s.Timer = mostTimer }))
	ok(t, b.n.Route(2, 2))
	b.submits(2, "x", "3>2:1.1")
	b.hears(2, "offer 0 3>2:1.1 x")
	b.ticks(mostTimer - 1)
	b.nobodyHears()
	b.ticks(1)
	b.hears(2, "routes 3:0", "offer 1 3>2:1.1 x")
	b.says(2, ack(0, "3>2:1.1"))
	b.holds("3>2:1.1 x")
	b.says(2, ack(1, "3>2:1.1"))
	b.holds()
}

// The ends send again by the settings' Timer, and begin anew behind the settings' Tries.
func TestTickOfTheEnds(t *testing.T) {
	for _, timer := range []int{1, 3, mostTimer} {
		for _, tries := range []int{1, 2, 5} {
			b := usualOf(t, with(func(s *api.Settings) { s.Timer = timer; s.Tries = tries }))
			ok(t, b.n.Route(1, 1))
			b.submits(1, "x", "3>1:1.1")
			b.goesOut(1, "i 0/1 offer 0 3>1:1.1 x")
			for try := 1; try <= tries; try++ {
				b.ticks(timer - 1)
				b.goesOut(1)
				b.ticks(1)
				if got := b.take(1); told(got[0]) != "i 0/1 p offer 0 3>1:1.1 x" {
					t.Fatalf("try %d: %v", try, got)
				}
			}
			b.ticks(timer - 1)
			b.goesOut(1)
			if !b.n.Up(1) {
				t.Fatal("it is not up")
			}
			b.ticks(1)
			l := b.take(1)
			if len(l) != 1 || told(l[0]) != "sabme" || l[0].Me != 513 || b.n.Up(1) {
				t.Fatalf("%+v", l)
			}
		}
	}
}

// The order of a tick: the ends, then routes, then what is offered again. An end that begins anew in it is told no routes.
func TestTickInOrder(t *testing.T) {
	b := usualOf(t, with(func(s *api.Settings) { s.Timer = 5; s.Wait = 5; s.Tries = 1 }))
	b.submits(2, "a", "3>2:1.1")
	b.hears(2, "offer 0 3>2:1.1 a")
	b.says(2, refuse(0, "3>2:1.1"))
	b.settle()
	b.submits(2, "b", "3>2:1.2")
	b.goesOut(2, "i 1/2 offer 1 3>2:1.2 b") // and nobody says that it came
	b.ticks(4)
	b.goesOut(2)
	b.ticks(1)
	b.goesOut(2, "i 1/2 p offer 1 3>2:1.2 b", "i 2/2 routes 1:1 3:0", "i 3/2 offer 2 3>2:1.1 a")
	b.ticks(5)
	b.goesOut(2, "sabme")
	b.hears(6, "routes 1:1 2:1 3:0 5:2 9:4", "routes 1:1 2:1 3:0 5:2 9:4")
}

// Routes that find no room are lost, and nothing else comes of it.
func TestTickWithAnEndThatIsFull(t *testing.T) {
	b := usualOf(t, with(func(s *api.Settings) { s.Timer = 1; s.Tries = mostTimer; s.Window = 2 }))
	ok(t, b.n.Route(1, 1))
	for n := 1; n <= mostQueue; n++ {
		b.submits(1, "x", fmt.Sprintf("3>1:1.%d", n))
	}
	b.goesOut(1, "i 0/1 offer 0 3>1:1.1 x", "i 1/1 offer 1 3>1:1.2 x")
	b.ticks(2)
	b.goesOut(1, "i 0/1 p offer 0 3>1:1.1 x", "i 0/1 p offer 0 3>1:1.1 x")
	b.hears(2, "routes 1:1 3:0", "routes 1:1 3:0")
	b.settle()
	if got := b.sides[1].heard; len(got) != mostQueue || slices.ContainsFunc(got, func(s string) bool { return s[0] == 'r' }) {
		t.Fatalf("%q", got)
	}
	b.sides[1].heard = nil
	b.ticks(1)
	b.hears(1, "routes 2:1 3:0 5:2 9:4")
}

// A tick asks nothing of the disk.
func TestTickWithoutPowerThatNobodyHasNoticed(t *testing.T) {
	b := laden(t)
	ok(t, b.d.Arm(0))
	b.ticks(5)
	b.hears(2, "offer 2 3>5:1.1 waits")
	if b.n.Down() {
		t.Fatal("it is down")
	}
}
