package node_test

import (
	"bytes"
	"fmt"
	"slices"
	"testing"

	"portage/api"
	"portage/node"
)

// What is handed in is neither changed nor kept, and what is answered is new memory.

// roomyList answers a list whose room goes on behind its end, and the whole of that room.
func roomyList[T any](list []T, behind ...T) (short, whole []T) {
	whole = slices.Concat(list, behind)
	return whole[:len(list)], whole
}

// scribble turns the bytes of p, and those in the room behind it.
func scribble(p []byte) {
	p = p[:cap(p)]
	for i := range p {
		p[i] ^= 0xff
	}
}

func TestNeighboursAreNeitherChangedNorKept(t *testing.T) {
	l, whole := roomyList(slices.Clone(around), 9, 8, 7)
	n, e := node.New(self, l, newDisk(t), roomy())
	ok(t, e)
	if !slices.Equal(whole, []int{1, 2, 6, 9, 8, 7}) {
		t.Fatalf("%v", whole)
	}
	b := usual(t)
	d := newDisk(t)
	l, whole = roomyList(slices.Clone(around), 9, 8, 7)
	n, e = node.New(self, l, d, roomy())
	ok(t, e)
	copy(whole, []int{63, 62, 61, 60, 59, 58})
	other := &bench{t: t, d: d, s: roomy(), self: self, n: n, sides: map[int]*side{}}
	for _, number := range around {
		other.begins(number, 7+number)
	}
	other.meets(around...)
	other.says(1, tells(1, 0))
	other.says(2, tells(2, 0, 5, 1, 9, 3))
	other.settle()
	alike(t, "behind New", other.becomes(), b.becomes())
}

func TestDataThatIsSubmittedIsNeitherChangedNorKept(t *testing.T) {
	b := usual(t)
	for n, dest := range []int{1, 63} {
		data, whole := roomyList([]byte("submitted"), []byte("behind")...)
		_, e := b.n.Submit(dest, data)
		ok(t, e)
		if string(whole) != "submittedbehind" {
			t.Fatalf("%q", whole)
		}
		scribble(whole)
		if n == 0 {
			b.hears(1, "offer 0 3>1:1.1 submitted")
		}
	}
	b.holds("3>1:1.1 submitted", "3>63:1.1 submitted")
	b.safelyHolds("3>1:1.1 submitted", "3>63:1.1 submitted")
	b.says(6, tells(63, 1))
	b.hears(6, "offer 1 3>63:1.1 submitted")
	for _, size := range []int{0, mostPayload + 1} { // refused
		data, whole := roomyList(bytes.Repeat([]byte("x"), size), []byte("behind")...)
		was := string(whole)
		if _, e := b.n.Submit(1, data); e == api.OK || string(whole) != was {
			t.Fatalf("%d, %q", e, whole)
		}
	}
}

func TestBytesThatAreReceivedAreNeitherChangedNorKept(t *testing.T) {
	make := func() (*bench, []byte) {
		b := usual(t)
		b.pushes(2, offer(5, "9>3:1.1", "first"), offer(6, "9>3:1.2", "second"), offer(7, "9>1:1.1", "third"))
		return b, b.sent(2)
	}
	first, p := make()
	ok(t, first.n.Receive(2, p))
	asWas := first.becomes()
	for cut := range len(p) + 1 {
		b, p := make()
		for _, part := range [][]byte{p[:cut], p[cut:]} {
			got, whole := roomyList(part, []byte("behind\x7e")...)
			was := bytes.Clone(whole)
			ok(t, b.n.Receive(2, got))
			if !bytes.Equal(whole, was) {
				t.Fatalf("% x; not % x", whole, was)
			}
			scribble(whole)
		}
		b.holds("9>1:1.1 third")
		if cut%10 == 0 {
			alike(t, fmt.Sprintf("cut at %d", cut), b.becomes(), asWas)
		}
	}
}

func TestWhatIsTakenIsNewMemory(t *testing.T) {
	b := usual(t)
	b.submits(1, "a", "3>1:1.1")
	b.submits(2, "b", "3>2:1.1")
	p := b.n.Take(1)
	was := bytes.Clone(p)
	_ = append(p, "more, and still more of it, so that there is no room for any of it"...)
	scribble(p)
	q := b.n.Take(2)
	b.submits(1, "c", "3>1:1.2")
	b.submits(2, "d", "3>2:1.2")
	wasQ := bytes.Clone(q)
	p2 := b.n.Take(1)
	scribble(p2)
	if !bytes.Equal(q, wasQ) {
		t.Fatalf("% x; not % x", q, wasQ)
	}
	scribble(p)
	if !bytes.Equal(p, was) {
		t.Fatalf("% x; not % x", p, was)
	}
	// The payload that was scribbled over is sent again as it was.
	b.ticks(b.s.Timer)
	b.goesOut(1, "i 0/1 p offer 0 3>1:1.1 a", "i 2/1 routes 2:1 3:0 5:2 9:4")
}

func TestWhatIsDeliveredIsNewMemory(t *testing.T) {
	b := usual(t)
	b.says(2, offer(5, "9>3:1.1", "first"), offer(6, "9>3:1.2", "second"))
	l := b.n.Delivered()
	_ = append(l[0].Data, "more"...)
	scribble(l[0].Data)
	if got := texts(l[1:]); !slices.Equal(got, []string{"9>3:1.2 second"}) {
		t.Fatalf("%q", got)
	}
	b.says(2, offer(7, "9>3:1.3", "third"))
	_ = append(l, ms("1>3:9.9", "x"))
	_ = append(l[:0], ms("1>3:9.9", "x"))
	other := b.n.Delivered()
	b.says(2, offer(8, "9>3:1.4", "fourth"))
	scribble(l[1].Data)
	b.delivers("9>3:1.4 fourth")
	if got := texts(other); !slices.Equal(got, []string{"9>3:1.3 third"}) {
		t.Fatalf("%q", got)
	}
	b.says(2, offer(9, "9>3:1.3", "third"))
	b.delivers()
}

func TestTheStateIsNewMemory(t *testing.T) {
	b, other := laden(t), laden(t)
	b.says(2, offer(30, "9>3:1.7", "x"))
	other.says(2, offer(30, "9>3:1.7", "x"))
	for range 2 {
		st := b.n.State()
		for n := range st.Next {
			st.Next[n] = api.Next{Dest: 7, Counter: 7}
		}
		for n := range st.Held {
			scribble(st.Held[n].Data)
			st.Held[n] = api.Msg{}
		}
		for n := range st.Seen {
			for k := range st.Seen[n].More {
				st.Seen[n].More[k] = 7777
			}
			st.Seen[n] = api.Mark{}
		}
	}
	alike(t, "scribbled over", b.becomes(), other.becomes())
}

// Nodes go their own ways.
func TestNodesShareNothing(t *testing.T) {
	b, other := laden(t), laden(t)
	asWas := laden(t).becomes()
	b.says(2, tells(2, 0, 40, 1), offer(30, "9>3:1.7", "x"), offer(31, "9>1:1.7", "y"))
	b.submits(5, "x", "3>5:1.2")
	b.ticks(9)
	ok(t, b.n.Route(5, 6))
	ok(t, b.n.Receive(6, []byte("\x7ex")))
	ok(t, b.n.Compact())
	alike(t, "another one", other.becomes(), asWas)
}
