package recv

import (
	"bytes"
	"math"
	"math/rand"
	"slices"
	"testing"

	"portage/api"
	"portage/sender"
)

const (
	mostBytes = 121 // MaxFrame - 7
	mostSize  = 63  // MaxWindow
)

// payload answers bytes that no other n has, of many lengths.
func payload(n int) []byte {
	p := bytes.Repeat([]byte{'p'}, 2+n%(mostBytes-1))
	p[0], p[1] = byte(n>>8), byte(n)
	return p
}

// payloads answers those from the number from on up to but without to.
func payloads(from, to int) [][]byte {
	var out [][]byte
	for n := from; n < to; n++ {
		out = append(out, payload(n))
	}
	return out
}

func sameLists(a, b [][]byte) bool {
	return slices.EqualFunc(a, b, bytes.Equal)
}

// around answers the numbers that are these ways ahead of base.
func around(base int, ways ...int) []int {
	var out []int
	for _, way := range ways {
		out = append(out, (base+way)%128)
	}
	return out
}

// upTo answers the ways from from on up to but without to.
func upTo(from, to int) []int {
	var out []int
	for way := from; way < to; way++ {
		out = append(out, way)
	}
	return out
}

func made(t *testing.T, size int) *Receiver {
	t.Helper()
	r, e := New(size)
	if r == nil || e != api.OK {
		t.Fatalf("New(%d): %v %v", size, r, e)
	}
	return r
}

// take asks that just these are told, and just these numbers asked for.
func take(t *testing.T, r *Receiver, ns int, p []byte, told [][]byte, asks []int) {
	t.Helper()
	gotTold, gotAsks, e := r.Take(ns, p)
	if !sameLists(gotTold, told) || !slices.Equal(gotAsks, asks) || e != api.OK {
		t.Fatalf("Take(%d): told % x, asks %d, %v; not told % x, asks %d", ns, gotTold, gotAsks, e, told, asks)
	}
}

func takeErrs(t *testing.T, r *Receiver, ns int, p []byte, want api.Errno) {
	t.Helper()
	if told, asks, e := r.Take(ns, p); told != nil || asks != nil || e != want {
		t.Errorf("Take(%d) of %d bytes: told % x, asks %d, %v; not %v", ns, len(p), told, asks, e, want)
	}
}

// checkIs asks that it waits for this number, and just these are kept and missing.
func checkIs(t *testing.T, r *Receiver, waits int, kept, missing []int) {
	t.Helper()
	if r.Waits() != waits || !slices.Equal(r.Kept(), kept) || !slices.Equal(r.Missing(), missing) {
		t.Errorf("waits for %d, kept %d, missing %d; not %d, %d, %d", r.Waits(), r.Kept(), r.Missing(), waits, kept, missing)
	}
}

// moved answers a receiver that has told so many payloads.
func moved(t *testing.T, size, told int) *Receiver {
	t.Helper()
	r := made(t, size)
	for n := range told {
		take(t, r, n%128, payload(1000+n), payloads(1000+n, 1001+n), nil)
	}
	return r
}

// laid answers a receiver that has told base payloads, and then took those of these ways: payload(way) each.
func laid(t *testing.T, size, base int, ways ...int) *Receiver {
	t.Helper()
	r := moved(t, size, base)
	for _, way := range ways {
		if told, _, e := r.Take((base+way)%128, payload(way)); told != nil || e != api.OK {
			t.Fatalf("Take(%d): told % x, %v", (base+way)%128, told, e)
		}
	}
	return r
}

// model is what the chapter says of a receiver: of each number of its window, from the one that it waits for on, what is known of it.
type model struct {
	waits int
	slots []slot
}

type slot struct {
	p     []byte
	asked bool
}

func newModel(size int) *model {
	return &model{slots: make([]slot, size)}
}

func (m *model) take(ns int, p []byte) ([][]byte, []int, api.Errno) {
	if ns < 0 || ns > 127 {
		return nil, nil, api.ErrRange
	}
	if len(p) == 0 {
		return nil, nil, api.ErrForm
	}
	if len(p) > mostBytes {
		return nil, nil, api.ErrLong
	}
	way := (ns - m.waits + 128) % 128
	if way >= len(m.slots) {
		return nil, nil, api.ErrState
	}
	if m.slots[way].p != nil {
		return nil, nil, api.ErrTwice
	}
	m.slots[way].p = bytes.Clone(p)
	var told [][]byte
	for m.slots[0].p != nil {
		told = append(told, m.slots[0].p)
		m.slots = append(slices.Clone(m.slots[1:]), slot{})
		m.waits = (m.waits + 1) % 128
	}
	var asks []int
	for _, n := range m.missing() {
		s := &m.slots[(n-m.waits+128)%128]
		if !s.asked {
			asks = append(asks, n)
		}
		s.asked = true
	}
	return told, asks, api.OK
}

func (m *model) kept() []int {
	var out []int
	for way, s := range m.slots {
		if s.p != nil {
			out = append(out, (m.waits+way)%128)
		}
	}
	return out
}

func (m *model) missing() []int {
	last := -1
	for way, s := range m.slots {
		if s.p != nil {
			last = way
		}
	}
	var out []int
	for way := 0; way < last; way++ {
		if m.slots[way].p == nil {
			out = append(out, (m.waits+way)%128)
		}
	}
	return out
}

func (m *model) forget() {
	for way := range m.slots {
		m.slots[way].asked = false
	}
}

// P8.1

func TestNew(t *testing.T) {
	for size := 1; size <= mostSize; size++ {
		r := made(t, size)
		checkIs(t, r, 0, nil, nil)
		takeErrs(t, r, size, payload(1), api.ErrState)
		checkIs(t, r, 0, nil, nil)
		if size > 1 {
			take(t, r, size-1, payload(1), nil, upTo(0, size-1))
			checkIs(t, r, 0, []int{size - 1}, upTo(0, size-1))
			continue
		}
		take(t, r, 0, payload(1), payloads(1, 2), nil)
		checkIs(t, r, 1, nil, nil)
	}
}

func TestNewRefuses(t *testing.T) {
	for _, size := range []int{0, -1, -63, 64, 65, 127, 128, 257, math.MinInt, math.MinInt + 1, math.MaxInt, 1<<32 + 1} {
		if r, e := New(size); r != nil || e != api.ErrRange {
			t.Errorf("New(%d): %v %v", size, r, e)
		}
	}
}

func TestTakeOfTheChapter(t *testing.T) {
	r := made(t, 4)
	a, b, c := []byte("a"), []byte("b"), []byte("c")
	take(t, r, 1, b, nil, []int{0})
	take(t, r, 2, c, nil, nil)
	checkIs(t, r, 0, []int{1, 2}, []int{0})
	take(t, r, 0, a, [][]byte{a, b, c}, nil)
	takeErrs(t, r, 0, a, api.ErrState)
	checkIs(t, r, 3, nil, nil)
}

func TestTakeInOrder(t *testing.T) {
	for size := 1; size <= mostSize; size++ {
		r := made(t, size)
		for n := range 300 {
			take(t, r, n%128, payload(n), payloads(n, n+1), nil)
			checkIs(t, r, (n+1)%128, nil, nil)
		}
	}
}

func TestTakeTheOtherWayRound(t *testing.T) {
	for _, base := range []int{0, 1, 64, 66, 100, 126, 127} {
		for size := 2; size <= mostSize; size++ {
			r := moved(t, size, base)
			asks := around(base, upTo(0, size-1)...)
			for way := size - 1; way > 0; way-- {
				take(t, r, (base+way)%128, payload(way), nil, asks)
				checkIs(t, r, base, around(base, upTo(way, size)...), around(base, upTo(0, way)...))
				asks = nil // all that is missing was asked for with the first one
			}
			take(t, r, base, payload(0), payloads(0, size), nil)
			checkIs(t, r, (base+size)%128, nil, nil)
		}
	}
}

func TestTakeWithSeveralGaps(t *testing.T) {
	for _, base := range []int{0, 7, 120, 123, 127} {
		r := moved(t, 9, base)
		is := func(waits int, kept, missing []int) {
			t.Helper()
			checkIs(t, r, (base+waits)%128, around(base, kept...), around(base, missing...))
		}
		ways := func(way int, told [][]byte, asks ...int) {
			t.Helper()
			take(t, r, (base+way)%128, payload(way), told, around(base, asks...))
		}
		ways(2, nil, 0, 1)
		is(0, []int{2}, []int{0, 1})
		ways(5, nil, 3, 4)
		is(0, []int{2, 5}, []int{0, 1, 3, 4})
		ways(4, nil)
		is(0, []int{2, 4, 5}, []int{0, 1, 3})
		ways(8, nil, 6, 7)
		is(0, []int{2, 4, 5, 8}, []int{0, 1, 3, 6, 7})
		ways(0, payloads(0, 1))
		is(1, []int{2, 4, 5, 8}, []int{1, 3, 6, 7})
		ways(1, payloads(1, 3)) // it closes a gap, and the next one is there still
		is(3, []int{4, 5, 8}, []int{3, 6, 7})
		ways(10, nil, 9)
		is(3, []int{4, 5, 8, 10}, []int{3, 6, 7, 9})
		ways(7, nil)
		is(3, []int{4, 5, 7, 8, 10}, []int{3, 6, 9})
		ways(3, payloads(3, 6))
		is(6, []int{7, 8, 10}, []int{6, 9})
		ways(6, payloads(6, 9))
		is(9, []int{10}, []int{9})
		ways(9, payloads(9, 11))
		is(11, nil, nil)
	}
}

func TestAGapThatIsClosedLetsAllBehindItBeTold(t *testing.T) {
	for _, base := range []int{0, 65, 66, 90, 127} {
		r := moved(t, mostSize, base)
		take(t, r, (base+1)%128, payload(1), nil, []int{base})
		for way := 2; way < mostSize; way++ {
			take(t, r, (base+way)%128, payload(way), nil, nil)
			checkIs(t, r, base, around(base, upTo(1, way+1)...), []int{base})
		}
		take(t, r, base, payload(0), payloads(0, mostSize), nil)
		checkIs(t, r, (base+mostSize)%128, nil, nil)
	}
}

func TestTakeOfAllNumbers(t *testing.T) {
	for _, size := range []int{1, 2, 3, 62, 63} {
		for _, base := range []int{0, 1, 2, 63, 64, 65, 66, 125, 126, 127} {
			refusing := moved(t, size, base)
			for way := range 128 {
				ns := (base + way) % 128
				if way >= size {
					takeErrs(t, refusing, ns, payload(way), api.ErrState)
					continue
				}
				r := moved(t, size, base)
				if way == 0 {
					take(t, r, ns, payload(way), payloads(0, 1), nil)
					checkIs(t, r, (base+1)%128, nil, nil)
					continue
				}
				ahead := around(base, upTo(0, way)...)
				take(t, r, ns, payload(way), nil, ahead)
				checkIs(t, r, base, []int{ns}, ahead)
			}
			checkIs(t, refusing, base, nil, nil)
		}
	}
}

func TestTakeOfOneThatIsThere(t *testing.T) {
	for _, base := range []int{0, 60, 124, 127} {
		r := laid(t, 7, base, 1, 3, 6)
		for _, way := range []int{1, 3, 6} {
			for _, p := range [][]byte{payload(way), payload(50), {1}, make([]byte, mostBytes)} {
				takeErrs(t, r, (base+way)%128, p, api.ErrTwice)
			}
		}
		checkIs(t, r, base, around(base, 1, 3, 6), around(base, 0, 2, 4, 5))
		take(t, r, base, payload(0), payloads(0, 2), nil)
		for _, way := range []int{0, 1} { // they were told
			takeErrs(t, r, (base+way)%128, payload(way), api.ErrState)
		}
		for _, way := range []int{3, 6} {
			takeErrs(t, r, (base+way)%128, payload(way), api.ErrTwice)
		}
		take(t, r, (base+2)%128, payload(2), payloads(2, 4), nil) // the first payload of a number is the one that stays
		checkIs(t, r, (base+4)%128, around(base, 6), around(base, 4, 5))
	}
}

func TestTakeOfAllLengths(t *testing.T) {
	for n := 1; n <= mostBytes; n++ {
		r := made(t, 2)
		first, second := bytes.Repeat([]byte{byte(n)}, n), bytes.Repeat([]byte{byte(200 - n)}, n)
		take(t, r, 1, second, nil, []int{0})
		take(t, r, 0, first, [][]byte{first, second}, nil)
	}
}

// wrong answers payloads that no sender takes.
func wrong() map[api.Errno][][]byte {
	return map[api.Errno][][]byte{
		api.ErrForm: {nil, {}, make([]byte, 0, 8)},
		api.ErrLong: {make([]byte, 122), make([]byte, 123), make([]byte, 128), make([]byte, 129), make([]byte, 256), make([]byte, 257), make([]byte, 1<<16)},
	}
}

func outOfRange() []int {
	return []int{-1, -2, -127, -128, 128, 129, 255, 256, math.MinInt, math.MinInt + 1, math.MaxInt, math.MaxInt - 1, 1 << 32}
}

func TestTakeRefusesInOrder(t *testing.T) {
	for _, base := range []int{0, 1, 126, 127} {
		r := laid(t, 4, base, 2)
		for want, l := range wrong() {
			for _, p := range l {
				for _, n := range outOfRange() {
					takeErrs(t, r, n, p, api.ErrRange)
				}
				for n := range 128 { // in the window, out of it, kept
					takeErrs(t, r, n, p, want)
				}
			}
		}
		for _, n := range outOfRange() {
			takeErrs(t, r, n, payload(1), api.ErrRange)
		}
		for way := 4; way < 128; way++ {
			takeErrs(t, r, (base+way)%128, payload(1), api.ErrState)
		}
		takeErrs(t, r, (base+2)%128, payload(2), api.ErrTwice)
		checkIs(t, r, base, around(base, 2), around(base, 0, 1))
		take(t, r, (base+3)%128, payload(3), nil, nil)
		take(t, r, base, payload(0), payloads(0, 1), nil)
		take(t, r, (base+1)%128, payload(1), payloads(1, 4), nil)
	}
}

func TestNumbersGoRoundAt127(t *testing.T) {
	r := moved(t, 4, 126)
	take(t, r, 1, payload(3), nil, []int{126, 127, 0})
	takeErrs(t, r, 2, payload(4), api.ErrState)
	takeErrs(t, r, 125, payload(4), api.ErrState)
	take(t, r, 127, payload(1), nil, nil)
	checkIs(t, r, 126, []int{127, 1}, []int{126, 0})
	take(t, r, 126, payload(0), payloads(0, 2), nil)
	checkIs(t, r, 0, []int{1}, []int{0})
	take(t, r, 3, payload(5), nil, []int{2})
	checkIs(t, r, 0, []int{1, 3}, []int{0, 2})
	take(t, r, 0, payload(2), payloads(2, 4), nil)
	take(t, r, 2, payload(4), payloads(4, 6), nil)
	checkIs(t, r, 4, nil, nil)
}

// P8.2

func TestForget(t *testing.T) {
	for _, base := range []int{0, 50, 122, 127} {
		r := laid(t, 9, base, 2, 5)
		r.Forget()
		checkIs(t, r, base, around(base, 2, 5), around(base, 0, 1, 3, 4))
		takeErrs(t, r, (base+2)%128, payload(2), api.ErrTwice) // what is refused asks for nothing
		takeErrs(t, r, (base+9)%128, payload(9), api.ErrState)
		take(t, r, (base+7)%128, payload(7), nil, around(base, 0, 1, 3, 4, 6))
		take(t, r, (base+8)%128, payload(8), nil, nil)
		r.Forget()
		r.Forget()
		take(t, r, base, payload(0), payloads(0, 1), around(base, 1, 3, 4, 6))
		r.Forget()
		take(t, r, (base+1)%128, payload(1), payloads(1, 3), around(base, 3, 4, 6))
		take(t, r, (base+4)%128, payload(4), nil, nil)
		r.Forget()
		take(t, r, (base+3)%128, payload(3), payloads(3, 6), around(base, 6))
		r.Forget()
		take(t, r, (base+6)%128, payload(6), payloads(6, 9), nil)
		checkIs(t, r, (base+9)%128, nil, nil)
	}
}

func TestForgetWithNoneMissing(t *testing.T) {
	r := made(t, 3)
	r.Forget()
	checkIs(t, r, 0, nil, nil)
	take(t, r, 0, payload(0), payloads(0, 1), nil)
	r.Forget()
	checkIs(t, r, 1, nil, nil)
	take(t, r, 2, payload(2), nil, []int{1})
	take(t, r, 3, payload(3), nil, nil)
}

func TestReset(t *testing.T) {
	for _, base := range []int{0, 1, 60, 127} {
		for _, ways := range [][]int{nil, {1}, {2, 4}, {4, 3, 2, 1}} {
			r := laid(t, 5, base, ways...)
			r.Reset()
			checkIs(t, r, 0, nil, nil)
			takeErrs(t, r, 5, payload(5), api.ErrState) // its size is as it was
			takeErrs(t, r, 127, payload(5), api.ErrState)
			take(t, r, 4, payload(4), nil, []int{0, 1, 2, 3})
			take(t, r, 2, payload(2), nil, nil)
			checkIs(t, r, 0, []int{2, 4}, []int{0, 1, 3})
			r.Reset()
			r.Reset()
			checkIs(t, r, 0, nil, nil)
			take(t, r, 2, payload(12), nil, []int{0, 1})
			take(t, r, 0, payload(10), payloads(10, 11), nil)
			take(t, r, 1, payload(11), payloads(11, 13), nil)
			checkIs(t, r, 3, nil, nil)
		}
	}
}

func TestNilReceiver(t *testing.T) {
	var r *Receiver
	for _, n := range append(outOfRange(), 0, 1, 64, 127) {
		for _, p := range [][]byte{nil, {}, {1}, make([]byte, mostBytes), make([]byte, mostBytes+1)} {
			takeErrs(t, r, n, p, api.ErrState)
		}
	}
	r.Forget()
	r.Reset()
	if r.Waits() != 0 || r.Kept() != nil || r.Missing() != nil {
		t.Errorf("a nil receiver waits for %d, keeps %d, misses %d", r.Waits(), r.Kept(), r.Missing())
	}
}

// P8.1, P8.2, of any calls

// step does one call on both, and asks that they answer the same.
func step(t *testing.T, rnd *rand.Rand, r *Receiver, m *model) {
	t.Helper()
	switch rnd.Intn(40) {
	case 0:
		r.Forget()
		m.forget()
	case 1:
		if rnd.Intn(10) == 0 {
			r.Reset()
			*m = *newModel(len(m.slots))
		}
	default:
		ns := (m.waits + rnd.Intn(len(m.slots)+2)) % 128
		switch rnd.Intn(8) {
		case 0:
			ns = rnd.Intn(132) - 2
		case 1, 2, 3:
			ns = m.waits
		}
		p := make([]byte, 1+rnd.Intn(mostBytes))
		if rnd.Intn(10) == 0 {
			p = make([]byte, []int{0, 0, mostBytes, mostBytes + 1, mostBytes + 2}[rnd.Intn(5)])
		}
		rnd.Read(p)
		told, asks, e := r.Take(ns, p)
		wantTold, wantAsks, wantE := m.take(ns, p)
		if !sameLists(told, wantTold) || !slices.Equal(asks, wantAsks) || e != wantE {
			t.Fatalf("Take(%d) of %d: told % x, asks %d, %v; not told % x, asks %d, %v", ns, len(p), told, asks, e, wantTold, wantAsks, wantE)
		}
	}
}

func TestAnyCalls(t *testing.T) {
	for seed := range 120 {
		rnd := rand.New(rand.NewSource(int64(seed)))
		size := 1 + rnd.Intn(mostSize)
		if seed%2 == 0 {
			size = 1 + rnd.Intn(6)
		}
		r, m := made(t, size), newModel(size)
		for range 1000 {
			step(t, rnd, r, m)
			checkIs(t, r, m.waits, m.kept(), m.missing())
			if t.Failed() {
				t.Fatalf("seed %d, size %d", seed, size)
			}
		}
	}
}

// P8.3

// frame is a payload on its way: the one of that place among all that were pushed.
type frame struct {
	place, ns int
	p         []byte
}

// wire is a sender, a receiver, and what is on its way from the one to the other, in any order.
type wire struct {
	out                *sender.Sender
	in                 *Receiver
	size               int // the receiver's
	pushed, gone, told int
	way                []frame
}

func wired(t *testing.T, out, in int) *wire {
	t.Helper()
	s, e := sender.New(out)
	if e != api.OK {
		t.Fatal(e)
	}
	return &wire{out: s, in: made(t, in), size: in}
}

// push pushes one, if there is room, and lets all that may go out.
func (w *wire) push() {
	if w.out.Push(payload(w.pushed)) == api.OK {
		w.pushed++
	}
	for {
		under := len(w.out.Under())
		ns, p, ok := w.out.Send()
		if !ok {
			return
		}
		w.way = append(w.way, frame{w.gone + under, ns, p})
	}
}

// again sends once more the one that is so many behind the first one under way.
func (w *wire) again(t *testing.T, behind int) {
	t.Helper()
	ns := w.out.Under()[behind]
	p, e := w.out.Again(ns)
	if e != api.OK {
		t.Fatal(e)
	}
	w.way = append(w.way, frame{w.gone + behind, ns, p})
}

// ack lets the sender know what was told, but the last late ones.
func (w *wire) ack(t *testing.T, late int) {
	t.Helper()
	gone := max(w.gone, w.told-late)
	if n, e := w.out.Ack(gone % 128); n != gone-w.gone || e != api.OK {
		t.Fatalf("Ack: %d %v", n, e)
	}
	w.gone = gone
}

// come lets the one at that place of those on their way come in, so late as it may be: when the numbers have gone round as far as its own, it is lost.
func (w *wire) come(t *testing.T, at int, twice bool) {
	t.Helper()
	f := w.way[at]
	if !twice {
		w.way = slices.Delete(w.way, at, at+1)
	}
	if w.told-f.place > 128-w.size {
		return
	}
	told, _, e := w.in.Take(f.ns, f.p)
	if f.place < w.told && e != api.ErrState || f.place > w.told && len(told) > 0 || f.place == w.told && e != api.OK {
		t.Fatalf("%d told, the one at %d: told % x, %v", w.told, f.place, told, e)
	}
	if !sameLists(told, payloads(w.told, w.told+len(told))) {
		t.Fatalf("%d told: then % x", w.told, told)
	}
	w.told += len(told)
	if w.in.Waits() != w.told%128 || w.told > w.pushed {
		t.Fatalf("waits for %d, %d told, %d pushed", w.in.Waits(), w.told, w.pushed)
	}
}

// happens lets one thing happen to what is on its way: it comes, comes twice, is lost, is sent once more, is acknowledged.
func (w *wire) happens(t *testing.T, rnd *rand.Rand) {
	t.Helper()
	switch rnd.Intn(10) {
	case 0, 1:
		w.push()
	case 2:
		w.ack(t, rnd.Intn(4))
	case 3:
		under := len(w.out.Under())
		switch first := w.told - w.gone; {
		case first < under && rnd.Intn(2) == 0: // the one that is waited for: else few are told
			w.again(t, first)
		case under > 0:
			w.again(t, rnd.Intn(under))
		}
	default:
		if len(w.way) == 0 {
			return
		}
		at := rnd.Intn(len(w.way))
		switch rnd.Intn(8) {
		case 0:
			w.way = slices.Delete(w.way, at, at+1)
		case 1:
			w.come(t, at, true)
		default:
			w.come(t, at, false)
		}
	}
}

func TestWhatIsToldIsWhatWasPushed(t *testing.T) {
	for seed := range 100 {
		rnd := rand.New(rand.NewSource(int64(seed)))
		in := 1 + rnd.Intn(mostSize)
		out := 1 + rnd.Intn(in)
		if seed%3 == 0 {
			out = in
		}
		w := wired(t, out, in)
		for range 10000 {
			w.happens(t, rnd)
		}
		if w.told < 150 {
			t.Errorf("windows %d and %d: only %d told", out, in, w.told)
		}
	}
}

// A payload that was told comes once more, as late as it can be told from the next one of its number.
func TestWhatIsLate(t *testing.T) {
	for size := 1; size <= mostSize; size++ {
		r := made(t, size)
		for n := range 400 {
			take(t, r, n%128, payload(n), payloads(n, n+1), nil)
			for late := 1; late <= 128-size && late <= n+1; late++ {
				takeErrs(t, r, (n+1-late)%128, payload(n+1-late), api.ErrState)
			}
		}
		checkIs(t, r, 400%128, nil, nil)
	}
}

// P8.4

func TestAllIsToldWhenAllIsSentAgain(t *testing.T) {
	for seed := range 300 {
		rnd := rand.New(rand.NewSource(int64(seed)))
		in := 1 + rnd.Intn(mostSize)
		w := wired(t, 1+rnd.Intn(in), in)
		for range 300 + rnd.Intn(300) {
			w.happens(t, rnd)
		}
		w.way = nil
		under := len(w.out.Under())
		asked := 0
		for _, n := range w.in.Missing() { // what is missing alone lets all be told up to the last one that has come
			behind := slices.Index(w.out.Under(), n)
			if behind < 0 {
				t.Fatalf("missing %d, under way %d", n, w.out.Under())
			}
			w.again(t, behind)
			asked++
		}
		kept := len(w.in.Kept())
		told := w.told
		for len(w.way) > 0 {
			w.come(t, rnd.Intn(len(w.way)), false)
		}
		if w.told != told+asked+kept {
			t.Fatalf("%d told ahead, %d missing, %d kept, then %d told", told, asked, kept, w.told)
		}
		for behind := range under {
			w.again(t, behind)
		}
		for len(w.way) > 0 {
			w.come(t, rnd.Intn(len(w.way)), false)
		}
		if w.told != w.gone+under {
			t.Fatalf("%d told of %d", w.told, w.gone+under)
		}
		checkIs(t, w.in, w.told%128, nil, nil)
	}
}

// P8.5

func TestANumberThatGoesRoundIsAskedForAgain(t *testing.T) {
	for size := 2; size <= mostSize; size++ {
		r := made(t, size)
		for n := 0; n < 400; n += 2 { // each second one comes ahead of its turn
			take(t, r, (n+1)%128, payload(n+1), nil, []int{n % 128})
			takeErrs(t, r, (n+1)%128, payload(n+1), api.ErrTwice)
			take(t, r, n%128, payload(n), payloads(n, n+2), nil)
		}
	}
	r := made(t, mostSize)
	for n := 0; n+mostSize < 400; n += mostSize { // one lets as many as can be be missing
		numbers := around(n%128, upTo(0, mostSize-1)...)
		last := (n + mostSize - 1) % 128
		take(t, r, last, payload(1), nil, numbers)
		for i, ns := range numbers[1:] {
			take(t, r, ns, payload(2+i), nil, nil)
		}
		if told, asks, e := r.Take(numbers[0], payload(0)); len(told) != mostSize || asks != nil || e != api.OK {
			t.Fatalf("%d told, asks %d, %v", len(told), asks, e)
		}
	}
}

func TestANumberIsAskedForOnce(t *testing.T) {
	for seed := range 100 {
		rnd := rand.New(rand.NewSource(int64(seed)))
		size := 2 + rnd.Intn(mostSize-1)
		r := made(t, size)
		asked := map[int]bool{}
		total := 0
		for range 1500 {
			if rnd.Intn(60) == 0 {
				r.Forget()
				clear(asked)
			}
			if rnd.Intn(300) == 0 {
				r.Reset()
				clear(asked)
			}
			waits := r.Waits()
			told, asks, e := r.Take((waits+rnd.Intn(size)*rnd.Intn(2))%128, payload(seed))
			for _, n := range around(waits, upTo(0, len(told))...) {
				delete(asked, n)
			}
			for _, n := range asks {
				if asked[n] {
					t.Fatalf("seed %d: %d is asked for twice", seed, n)
				}
				asked[n] = true
				total++
			}
			for _, n := range r.Missing() {
				if e == api.OK && !asked[n] {
					t.Fatalf("seed %d: %d is missing, and was not asked for", seed, n)
				}
			}
		}
		if total < 100 {
			t.Errorf("size %d: only %d were asked for", size, total)
		}
	}
}

// What is handed in is neither changed nor kept, nor what lies in the room behind it; what is answered is new memory.

func scribble(p []byte) {
	for i := range p {
		p[i] ^= 0xff
	}
	room := p[:cap(p)]
	for i := len(p); i < cap(p); i++ {
		room[i] ^= 0xff
	}
}

func scribbleNumbers(l []int) {
	l = l[:cap(l)]
	for i := range l {
		l[i] = -1
	}
}

func TestHandedInStaysAsItIs(t *testing.T) {
	room := []byte("payload and room behind it")
	was := bytes.Clone(room)
	r := made(t, 3)
	take(t, r, 1, room[:7], nil, []int{0})
	takeErrs(t, r, 1, room[:7], api.ErrTwice)
	takeErrs(t, r, 3, room[:7], api.ErrState)
	takeErrs(t, r, 2, room[:0], api.ErrForm)
	told, _, e := r.Take(0, room[:7])
	if len(told) != 2 || e != api.OK {
		t.Fatalf("told % x, %v", told, e)
	}
	for _, p := range told {
		scribble(p)
	}
	if !bytes.Equal(room, was) {
		t.Errorf("%q", room)
	}
}

func TestHandedInIsNotKept(t *testing.T) {
	r := made(t, 3)
	room := make([]byte, 7, 30)
	copy(room, "payload")
	take(t, r, 2, room, nil, []int{0, 1})
	take(t, r, 1, room, nil, nil)
	scribble(room)
	one := []byte("payload")
	told, _, e := r.Take(0, one)
	if scribble(one); !sameLists(told, [][]byte{[]byte("payload"), []byte("payload"), []byte("payload")}) || e != api.OK {
		t.Errorf("%q %v", told, e)
	}
}

func TestAnswersAreNewMemory(t *testing.T) {
	r := laid(t, 8, 125, 2, 3, 6)
	_, asks, _ := r.Take(4, payload(7))
	scribbleNumbers(asks)
	scribbleNumbers(r.Kept())
	scribbleNumbers(r.Missing())
	checkIs(t, r, 125, []int{127, 0, 3, 4}, []int{125, 126, 1, 2})
	r.Forget()
	told, asks, _ := r.Take(125, payload(0))
	scribbleNumbers(asks)
	if !sameLists(told, payloads(0, 1)) {
		t.Errorf("told % x", told)
	}
	take(t, r, 2, payload(5), nil, nil)
	told, _, _ = r.Take(126, payload(1))
	for i, p := range told {
		if !bytes.Equal(p, payload(1+i)) {
			t.Errorf("one payload shares with the next: % x", p)
		}
		scribble(p)
	}
	clear(told[:cap(told)])
	checkIs(t, r, 1, []int{2, 3, 4}, []int{1})
	take(t, r, 1, payload(4), payloads(4, 8), nil)
}

func TestNothingIsKeptOfWhatWasTold(t *testing.T) {
	r := laid(t, 6, 126, 1, 2, 5)
	take(t, r, 126, payload(0), payloads(0, 3), nil)
	if len(r.kept) != 1 || r.asked[126] {
		t.Errorf("kept % x, 126 was asked for: %v", r.kept, r.asked[126])
	}
	r.Reset()
	if len(r.kept) != 0 {
		t.Errorf("behind Reset kept % x", r.kept)
	}
}

func TestReceiversShareNothing(t *testing.T) {
	a, b := laid(t, 4, 0, 1, 3), laid(t, 4, 0, 2)
	take(t, a, 0, payload(0), payloads(0, 2), nil)
	checkIs(t, b, 0, []int{2}, []int{0, 1})
	b.Reset()
	b.Forget()
	checkIs(t, a, 2, []int{3}, []int{2})
	take(t, a, 2, payload(2), payloads(2, 4), nil)
}
