package node_test

import (
	"fmt"
	"math"
	"testing"

	"portage/api"
	"portage/node"
)

// P21.3

func TestTake(t *testing.T) {
	b := usual(t)
	b.submits(1, "a", "3>1:1.1")
	b.submits(2, "b", "3>2:1.1")
	for _, to := range append([]int{self, 0, 5, 7, 63}, beyond...) {
		if p := b.n.Take(to); p != nil {
			t.Fatalf("to %d: % x", to, p)
		}
	}
	if p := b.n.Take(6); p != nil {
		t.Fatalf("% x", p)
	}
	if p := b.n.Take(1); len(p) == 0 {
		t.Fatal("nothing goes out")
	}
	if p := b.n.Take(1); p != nil {
		t.Fatalf("once more % x", p)
	}
	if p := b.n.Take(2); len(p) == 0 { // another one's bytes stay
		t.Fatal("nothing goes out")
	}
	for _, to := range around {
		if p := b.n.Take(to); p != nil {
			t.Fatalf("once more % x", p)
		}
	}
}

func TestDelivered(t *testing.T) {
	b := usual(t)
	b.delivers()
	b.says(2, offer(0, "9>3:1.2", "b"))
	b.says(1, offer(0, "1>3:1.1", "a"), offer(1, "1>63:1.1", "no"), offer(2, "9>3:1.1", "c"))
	b.delivers("9>3:1.2 b", "1>3:1.1 a", "9>3:1.1 c") // in the order in which they came, not in that of ids
	if l := b.n.Delivered(); l != nil {
		t.Fatalf("once more %v", l)
	}
	b.says(1, offer(3, "1>3:1.1", "a"))
	b.delivers()
	b.says(1, offer(3, "1>3:1.2", "d"))
	b.delivers("1>3:1.2 d")
	b.delivers()
}

func TestUp(t *testing.T) {
	b := alone(t, roomy(), around...)
	up := func(want ...int) {
		t.Helper()
		for _, n := range append(rising(nodes), beyond...) {
			is := false
			for _, w := range want {
				is = is || w == n
			}
			if b.n.Up(n) != is {
				t.Fatalf("%d: %t", n, !is)
			}
		}
	}
	up()
	b.take(2)
	up()
	ok(t, b.back(2)) // it calls, and answers
	up(2)
	b.take(1)
	b.sides[1].end.Out() // that is lost
	b.begins(1, 99)
	ok(t, b.back(1)) // it calls: that tells that it is there, but not that it knows of the node
	up(2)
	b.take(1)
	up(2)
	b.says(1, tells()) // now that is told
	up(1, 2)
	b.begins(2, 99)
	ok(t, b.back(2))
	up(1, 2)
}

func TestCost(t *testing.T) {
	b := alone(t, roomy(), around...)
	for _, dest := range append(rising(nodes), beyond...) {
		want := far
		if dest == self {
			want = 0
		}
		if got := b.n.Cost(dest); got != want {
			t.Fatalf("%d costs %d", dest, got)
		}
	}
	b.meets(around...)
	b.says(1, tells(0, 15, 1, 0, 2, 14, self, 1, 63, 7))
	b.says(2, tells(2, 0, 63, 5))
	for dest, want := range map[int]int{0: far, 1: 1, 2: 1, self: 0, 63: 6, 4: far, 64: far, -1: far} {
		if got := b.n.Cost(dest); got != want {
			t.Fatalf("%d costs %d; not %d", dest, got, want)
		}
	}
}

// Asking changes nothing.
func TestAsking(t *testing.T) {
	asWas := laden(t).becomes()
	b := laden(t)
	for range 3 {
		b.view()
	}
	alike(t, "asked", b.becomes(), asWas)
}

func TestStateIsTheCustodys(t *testing.T) {
	b := laden(t)
	want := api.State{
		Self: self, Epoch: 1,
		Next: []api.Next{{Dest: 1, Counter: 1}, {Dest: 5, Counter: 1}, {Dest: 63, Counter: 1}},
		Held: []api.Msg{ms("3>1:1.1", "offered"), ms("3>5:1.1", "waits"), ms("3>63:1.1", "lies")},
		Seen: []api.Mark{{Origin: 2, Epoch: 1, Upto: 1}},
	}
	if got := b.n.State(); fmt.Sprint(got) != fmt.Sprint(want) {
		t.Fatalf("%v; not %v", got, want)
	}
}

func TestANilNode(t *testing.T) {
	var n *node.Node
	for _, x := range append(rising(nodes), beyond...) {
		if i, e := n.Submit(x, []byte("x")); e != api.ErrState || i != (api.Id{}) {
			t.Errorf("Submit: %v, %d", i, e)
		}
		answers(t, n.Receive(x, nil), api.ErrState)
		answers(t, n.Receive(x, []byte("\x7ex\x7e")), api.ErrState)
		answers(t, n.Route(x, -1), api.ErrState)
		answers(t, n.Route(1, x), api.ErrState)
		if p := n.Take(x); p != nil {
			t.Errorf("Take: % x", p)
		}
		if n.Up(x) || n.Cost(x) != far {
			t.Errorf("Up %t, Cost %d", n.Up(x), n.Cost(x))
		}
	}
	_, e := n.Submit(math.MaxInt, nil)
	answers(t, e, api.ErrState)
	answers(t, n.Tick(), api.ErrState)
	answers(t, n.Compact(), api.ErrState)
	if l := n.Delivered(); l != nil {
		t.Errorf("%v", l)
	}
	st := n.State()
	if st.Self != 0 || st.Epoch != 0 || st.Next != nil || st.Held != nil || st.Seen != nil || n.Bad() != 0 || !n.Down() {
		t.Errorf("%v, bad %d, down %t", st, n.Bad(), n.Down())
	}
}
