package snap

import (
	"bytes"
	"slices"
	"testing"

	"portage/api"
)

// P16.1: the bytes of Put

// puts asks that Put answers these bytes, the sum among them, and that Get answers the state.
func puts(t *testing.T, st api.State, want []byte) {
	t.Helper()
	p, e := Put(st)
	if e != api.OK || !bytes.Equal(p, want) {
		t.Fatalf("Put(%s): %s, %d; not %s", short(st), cutHex(p), e, cutHex(want))
	}
	gets(t, want, st)
}

// The chapter's example.
func TestExample(t *testing.T) {
	puts(t, api.State{Self: 1, Epoch: 2}, []byte{1, 0, 2, 0, 0, 0, 0, 0, 0xe4, 0x40, 0x7e, 0xfc})
}

func TestPutOfNothing(t *testing.T) {
	puts(t, api.State{}, []byte{0, 0, 0, 0, 0, 0, 0, 0, 0x65, 0x22, 0xdf, 0x69})
	for self := range nodes {
		puts(t, api.State{Self: self}, summed([]byte{byte(self), 0, 0, 0, 0, 0, 0, 0}))
	}
}

func TestPutOfSome(t *testing.T) {
	puts(t, some(), summed(bytesOfSome()))
}

func TestPutOfEpochs(t *testing.T) {
	for _, x := range []struct {
		epoch int
		bytes [2]byte
	}{{0, [2]byte{0, 0}}, {1, [2]byte{0, 1}}, {255, [2]byte{0, 255}}, {256, [2]byte{1, 0}}, {0x1234, [2]byte{0x12, 0x34}}, {most, [2]byte{255, 255}}} {
		puts(t, api.State{Self: 63, Epoch: x.epoch}, summed([]byte{63, x.bytes[0], x.bytes[1], 0, 0, 0, 0, 0}))
	}
}

func TestPutOfNext(t *testing.T) {
	puts(t, api.State{Self: 1, Epoch: 1, Next: next(2, 258)}, summed([]byte{1, 0, 1, 1, 2, 1, 2, 0, 0, 0, 0}))
	want := []byte{0, 0, 1, 63}
	for dest := 1; dest < nodes; dest++ {
		n := 1 + dest*1000
		want = append(want, byte(dest), byte(n>>8), byte(n))
	}
	puts(t, api.State{Epoch: 1, Next: allNext(0)}, summed(append(want, 0, 0, 0, 0)))
}

func TestPutOfMessages(t *testing.T) {
	ahead := []byte{0, 0, 0, 0, 0, 1}
	behind := []byte{0, 0}
	smallest := []byte{7, 62, 63, 1, 2, 3, 4, 9}
	puts(t, api.State{Held: []api.Msg{ms(id(62, 63, 258, 772), "\x09")}}, summed(slices.Concat(ahead, smallest, behind)))
	greatest := append([]byte{54, 1, 2, 255, 255, 255, 255}, long(payload)...)
	puts(t, api.State{Held: []api.Msg{ms(id(1, 2, most, most), long(payload))}}, summed(slices.Concat(ahead, greatest, behind)))
	ahead[5] = 2 // in the order in which they are held
	puts(t, api.State{Held: []api.Msg{ms(id(62, 63, 258, 772), "\x09"), ms(id(1, 2, most, most), long(payload))}}, summed(slices.Concat(ahead, smallest, greatest, behind)))
	puts(t, api.State{Held: []api.Msg{ms(id(1, 2, most, most), long(payload)), ms(id(62, 63, 258, 772), "\x09")}}, summed(slices.Concat(ahead, greatest, smallest, behind)))
}

func TestPutOfTheMostMessages(t *testing.T) {
	p, e := Put(many(mostHeld, payload))
	if e != api.OK || len(p) != shortest+mostHeld*55 || p[4] != 1 || p[5] != 0 {
		t.Fatalf("%s, %d", cutHex(p), e)
	}
}

func TestPutOfMarks(t *testing.T) {
	ahead := []byte{0, 0, 0, 0, 0, 0, 0, 1}
	puts(t, api.State{Seen: marks(mk(63, 258, 772))}, summed(append(ahead, 63, 1, 2, 3, 4, 0, 0)))
	puts(t, api.State{Seen: marks(mk(63, 1, 0, 2))}, summed(append(ahead, 63, 0, 1, 0, 0, 0, 1, 0, 2)))
	puts(t, api.State{Seen: marks(mk(63, 1, 1, 3, 4, most))}, summed(append(ahead, 63, 0, 1, 0, 1, 0, 3, 0, 3, 0, 4, 255, 255)))
	want := append(ahead, 1, 0, 1, 0, 0, 1, 0)
	for k := range mostGaps {
		n := 2*k + 2
		want = append(want, byte(n>>8), byte(n))
	}
	puts(t, api.State{Seen: marks(mk(1, 1, 0, gaps(mostGaps)...))}, summed(want))
}

func TestPutOfTheMostMarks(t *testing.T) {
	want := []byte{3, 0, 0, 0, 0, 0, 255, 255}
	for n := 1; n <= most; n++ {
		want = append(want, 4, byte(n>>8), byte(n), byte(n>>8), byte(n), 0, 0)
	}
	puts(t, manyMarks(most), summed(want))
}
