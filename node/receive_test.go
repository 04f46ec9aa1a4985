package node_test

import (
	"bytes"
	"fmt"
	"slices"
	"strings"
	"testing"

	"portage/api"
	"portage/control"
	"portage/hop"
)

// P21.2: Receive, as far as its bytes

func TestReceiveFromNobody(t *testing.T) {
	b := laden(t)
	b.pushes(1, offer(5, "1>3:1.1", "x"))
	good := string(b.sent(1))
	for _, from := range append([]int{self, 0, 4, 5, 7, 63}, beyond...) {
		leaves(t, func() *bench { return laden(t) }, api.ErrNone, receiving(from, good), receiving(from, ""), receiving(from, good[:9]), receiving(from, "\x7e"))
	}
	lone := alone(t, roomy())
	for _, from := range append(rising(nodes), beyond...) {
		answers(t, lone.n.Receive(from, []byte(good)), api.ErrNone)
	}
}

// junk is bytes of which no good frame comes.
func junk(t *testing.T) []string {
	t.Helper()
	b := laden(t)
	b.pushes(2, offer(5, "1>3:1.1", "x"))
	good := string(b.sent(2))
	out := []string{"", "x", "\x7d", "\x7e", "\x7e\x7e\x7e", "some more bytes", long(1000), "\x7e" + long(1000), "\x7e" + long(1000) + "\x7e",
		"\x7eab\x7e", "\x7eabc\x7e", "\x7e\x7d\x7e", "\x7ea\x7d\x21bcd\x7e", "\x7e\x7d", "\x7eabc",
		good[:5], good[:5] + "\x7e", "\x7e" + good[5:]}
	for n := 1; n < len(good)-1; n++ { // a byte that is turned: the sum is wrong, or it is another frame that is cut
		for _, mask := range []byte{1, 0x80, 0x20} {
			p := []byte(good)
			p[n] ^= mask
			out = append(out, string(p))
		}
	}
	tooLong := append(make([]byte, mostFrame), 1)
	out = append(out, "\x7e"+string(tooLong)+string(sum(tooLong))+"\x7e")
	return out
}

// sum answers the frame's sum of p, by the words of its layer.
func sum(p []byte) []byte {
	register := 0xffff
	for _, b := range p {
		register ^= int(b)
		for range 8 {
			out := register & 1
			register >>= 1
			if out == 1 {
				register ^= 0x8408
			}
		}
	}
	register ^= 0xffff
	return []byte{byte(register), byte(register >> 8)}
}

// P21.6
func TestBytesOfWhichNoGoodFrameComes(t *testing.T) {
	asWas := laden(t).becomes()
	for _, p := range junk(t) {
		b := laden(t)
		for _, from := range []int{2, 6} {
			ok(t, b.n.Receive(from, []byte(p)))
		}
		alike(t, fmt.Sprintf("behind % x", p), b.becomes(), asWas)
	}
	// All of it, byte by byte, and at once, at a node that has met nobody.
	p := strings.Join(junk(t), "\x7e\x7e")
	asWas = alone(t, roomy(), around...).becomes()
	for _, size := range []int{1, 2, 7, len(p)} {
		b := alone(t, roomy(), around...)
		for part := range slices.Chunk([]byte(p), size) {
			ok(t, b.n.Receive(6, part))
		}
		alike(t, fmt.Sprintf("in parts of %d", size), b.becomes(), asWas)
	}
}

// A good frame behind any bytes is read.
func TestAGoodFrameBehindJunk(t *testing.T) {
	for _, p := range junk(t) {
		b := usual(t)
		ok(t, b.n.Receive(2, []byte(p)))
		b.says(2, offer(5, "1>3:1.1", "x"))
		b.hears(2, "ack 5 1>3:1.1")
		b.delivers("1>3:1.1 x")
		if b.n.Bad() != 0 {
			t.Fatalf("bad %d", b.n.Bad())
		}
	}
}

func TestAFrameCutInTwoCalls(t *testing.T) {
	b := usual(t)
	b.pushes(2, offer(5, "1>3:1.1", "x\x7e\x7dy"))
	p := b.sent(2)
	for cut := range len(p) + 1 {
		b := usual(t)
		ok(t, b.n.Receive(2, p[:cut]))
		if cut < len(p) {
			b.delivers()
			b.goesOut(2)
		}
		ok(t, b.n.Receive(1, []byte("\x7e\x7e"))) // another one's bytes are not laid between
		ok(t, b.n.Receive(2, nil))
		ok(t, b.n.Receive(2, p[cut:]))
		b.delivers("1>3:1.1 x\x7e\x7dy")
		b.goesOut(2, "rr 2", "i 0/2 ack 5 1>3:1.1")
	}
	b = usual(t)
	for _, x := range p {
		b.delivers()
		ok(t, b.n.Receive(2, []byte{x}))
	}
	b.delivers("1>3:1.1 x\x7e\x7dy")
}

// Each neighbour has a decoder of its own: halves of two lines are no frame.
func TestEachNeighbourHasADecoderOfItsOwn(t *testing.T) {
	b := usual(t)
	b.pushes(1, offer(5, "1>3:1.1", "one"))
	b.pushes(2, offer(6, "2>3:1.1", "two"))
	p, q := b.sent(1), b.sent(2)
	ok(t, b.n.Receive(1, p[:9]))
	ok(t, b.n.Receive(2, q[:9]))
	ok(t, b.n.Receive(2, q[9:]))
	ok(t, b.n.Receive(1, p[9:]))
	b.delivers("2>3:1.1 two", "1>3:1.1 one")
	b.hears(1, "ack 5 1>3:1.1")
	b.hears(2, "ack 6 2>3:1.1")
}

func TestAFrameWhoseSumIsWrong(t *testing.T) {
	b := usual(t)
	b.pushes(2, offer(5, "1>3:1.1", "x"))
	p := b.sent(2)
	p[7] ^= 4
	ok(t, b.n.Receive(2, p))
	b.delivers()
	b.goesOut(2)
	if b.n.Bad() != 0 {
		t.Fatalf("bad %d", b.n.Bad())
	}
	p[7] ^= 4
	ok(t, b.n.Receive(2, p))
	b.delivers("1>3:1.1 x")
}

// contents that are no control's
func contents() []string {
	return []string{"x", "\x00", "\x03", "\x03\x6f", "\x03\x6f\x00\x01\x00", "\x03\x6f\x00\x01\x00\x01", "\x03\x6f\x00\x01\x00\x00x", "\x02\x6f\x00\x01\x00\x00", "\x03\x02\x00\x00\x07\x02\x00", "\x03\x03\x00\x01\x00\x00", long(mostFrame)}
}

// apart answers what is told of a node, but for how many it could not read.
func apart(s string, bad int) string {
	return strings.ReplaceAll(s, fmt.Sprintf("bad %d", bad), "bad 0")
}

func TestAContentThatIsNoControl(t *testing.T) {
	asWas := laden(t).becomes()
	for _, content := range contents() {
		if _, e := control.Get([]byte(content)); e == api.OK {
			t.Fatalf("% x is a control", content)
		}
		b := laden(t)
		ok(t, b.n.Receive(1, frame([]byte(content))))
		if b.n.Bad() != 1 {
			t.Fatalf("% x: bad %d", content, b.n.Bad())
		}
		alike(t, fmt.Sprintf("behind % x", content), apart(b.becomes(), 1), asWas)
	}
	// All of them in one call, and a good one among them.
	b := usual(t)
	b.pushes(2, offer(5, "1>3:1.1", "x"))
	var p []byte
	for n, content := range contents() {
		if n == 4 {
			p = append(p, b.sent(2)...)
		}
		p = append(p, frame([]byte(content))...)
	}
	ok(t, b.n.Receive(2, p))
	b.delivers("1>3:1.1 x")
	if b.n.Bad() != len(contents()) {
		t.Fatalf("bad %d", b.n.Bad())
	}
	ok(t, b.n.Receive(6, frame([]byte("x"))))
	if b.n.Bad() != len(contents())+1 {
		t.Fatalf("bad %d", b.n.Bad())
	}
}

// payloads that are no word's
func payloads() []string {
	return []string{"x", "\x00", "\x01", "\x05", "\x01\x00\x05\x01\x03\x00\x01\x00\x01", "\x01\x00\x05\x01\x01\x00\x01\x00\x01x", "\x01\x00\x05\x01\x40\x00\x01\x00\x01x",
		"\x01\x00\x05\x01\x03\x00\x01\x00\x01" + long(mostPayload+1), "\x02\x00\x00\x03\x01\x00\x01\x00\x01x", "\x03\x00\x00\x03\x01\x00\x01\x00\x00", "\x04", "\x04" + strings.Repeat("\x10", nodes-1), "\x04" + strings.Repeat("\x10", nodes+1), "\x04" + strings.Repeat("\x11", nodes), long(mostFrame - 7)}
}

func TestAPayloadThatIsNoWord(t *testing.T) {
	for _, p := range payloads() {
		if _, e := hop.Get([]byte(p)); e == api.OK {
			t.Fatalf("% x is a word", p)
		}
		b := laden(t)
		state := fmt.Sprint(b.n.State())
		ok(t, b.sides[1].end.Push([]byte(p)))
		ok(t, b.back(1))
		if b.n.Bad() != 1 || fmt.Sprint(b.n.State()) != state {
			t.Fatalf("% x: %s", p, b.view())
		}
		b.goesOut(1, "rr 2") // it has come in all the same, but nobody answers
		b.delivers("2>3:1.1 came")
		b.nobodyHears()
	}
	// Several in one call, and a word among them.
	b := usual(t)
	for n, p := range payloads()[:7] {
		if n == 3 {
			b.pushes(1, offer(5, "1>3:1.1", "x"))
		}
		ok(t, b.sides[1].end.Push([]byte(p)))
	}
	ok(t, b.back(1))
	if b.n.Bad() != 7 {
		t.Fatalf("bad %d", b.n.Bad())
	}
	b.delivers("1>3:1.1 x")
	b.hears(1, "ack 5 1>3:1.1")
}

// Two words in one call: one behind the other, each with what the one ahead left.
func TestTwoWordsInOneCall(t *testing.T) {
	b := usual(t)
	b.says(2, offer(5, "1>3:1.1", "x"), offer(6, "1>3:1.1", "x"))
	b.delivers("1>3:1.1 x")
	b.hears(2, "ack 5 1>3:1.1", "ack 6 1>3:1.1")
	b.says(2, offer(7, "2>1:1.1", "y"), tells(2, 0), offer(8, "2>1:1.1", "y"))
	b.holds("2>1:1.1 y")
	b.hears(2, "ack 7 2>1:1.1", "ack 8 2>1:1.1") // it was not offered on ahead of the second one
	b.hears(1, "offer 0 2>1:1.1 y")
	if b.n.Cost(5) != far {
		t.Fatal(b.view())
	}
	b.submits(1, "z", "3>1:1.1")
	b.hears(1, "offer 1 3>1:1.1 z")
	b.says(1, refuse(1, "3>1:1.1"), ack(1, "3>1:1.1"), ack(0, "2>1:1.1"), offer(3, "1>3:1.2", "w"))
	b.holds("3>1:1.1 z")
	b.hears(1, "ack 3 1>3:1.2")
	b.delivers("1>3:1.2 w")
}

// A content that no end takes brings nothing in.
func TestControlsThatDoNotFit(t *testing.T) {
	b := usual(t)
	b.pushes(2, offer(5, "1>3:1.1", "x"))
	sent := b.sides[2].end.Out()
	for _, change := range []func(c *api.Ctl){
		func(c *api.Ctl) { c.Me++ }, func(c *api.Ctl) { c.Peer++ }, func(c *api.Ctl) { c.Peer = 0 }, func(c *api.Ctl) { c.NS = 100 }, func(c *api.Ctl) { c.NS = 0 },
	} {
		c := sent[0]
		change(&c)
		ok(t, b.n.Receive(2, frames([]api.Ctl{c})))
		b.delivers()
		b.take(2)
		b.heard(2)
	}
	ok(t, b.n.Receive(1, frames(sent))) // of another neighbour's link
	b.delivers()
	if b.n.Bad() != 0 {
		t.Fatalf("bad %d", b.n.Bad())
	}
	ok(t, b.n.Receive(2, frames(sent)))
	b.delivers("1>3:1.1 x")
	ok(t, b.n.Receive(2, frames(sent))) // once more
	b.delivers()
	b.hears(2, "ack 5 1>3:1.1")
}

// A payload that comes ahead of its turn waits for the one that is missing, which is asked for.
func TestWordsThatComeOutOfOrder(t *testing.T) {
	b := usual(t)
	b.pushes(2, offer(5, "1>3:1.1", "x"))
	first := b.sent(2)
	b.pushes(2, offer(6, "1>3:1.2", "y"))
	second := b.sent(2)
	ok(t, b.n.Receive(2, second))
	b.delivers()
	b.goesOut(2, "srej 1", "rr 1")
	ok(t, b.n.Receive(2, bytes.Clone(first)))
	b.delivers("1>3:1.1 x", "1>3:1.2 y")
	b.goesOut(2, "rr 3", "i 0/3 ack 5 1>3:1.1", "i 1/3 ack 6 1>3:1.2")
}
