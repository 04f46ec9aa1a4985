package sender

import (
	"bytes"
	"math"
	"math/rand"
	"slices"
	"testing"

	"portage/api"
)

const (
	mostBytes = 121 // MaxFrame - 7
	mostThere = 64  // MaxQueue
	mostUnder = 63  // MaxWindow
)

// payload answers bytes that no other n has, of many lengths.
func payload(n int) []byte {
	p := bytes.Repeat([]byte{'p'}, 2+n%(mostBytes-1))
	p[0], p[1] = byte(n>>8), byte(n)
	return p
}

// payloads answers those from the number from on up to but without to.
func payloads(from, to int) [][]byte {
	var out [][]byte
	for n := from; n < to; n++ {
		out = append(out, payload(n))
	}
	return out
}

func sameLists(a, b [][]byte) bool {
	return slices.EqualFunc(a, b, bytes.Equal)
}

func cloned(l [][]byte) [][]byte {
	var out [][]byte
	for _, p := range l {
		out = append(out, bytes.Clone(p))
	}
	return out
}

// numbers answers so many numbers from base on.
func numbers(base, count int) []int {
	var out []int
	for i := range count {
		out = append(out, (base+i)%128)
	}
	return out
}

func made(t *testing.T, size int) *Sender {
	t.Helper()
	s, e := New(size)
	if s == nil || e != api.OK {
		t.Fatalf("New(%d): %v %v", size, s, e)
	}
	return s
}

func push(t *testing.T, s *Sender, p []byte) {
	t.Helper()
	if e := s.Push(p); e != api.OK {
		t.Fatalf("Push: %v", e)
	}
}

// send asks that just this goes out.
func send(t *testing.T, s *Sender, number int, p []byte) {
	t.Helper()
	if n, q, ok := s.Send(); !ok || n != number || !bytes.Equal(q, p) {
		t.Fatalf("Send: %d % x %v, not %d % x", n, q, ok, number, p)
	}
}

// sendNone asks that nothing goes out.
func sendNone(t *testing.T, s *Sender) {
	t.Helper()
	if n, p, ok := s.Send(); n != 0 || p != nil || ok {
		t.Errorf("Send: %d % x %v, not none", n, p, ok)
	}
}

// ack asks that so many are gone.
func ack(t *testing.T, s *Sender, nr, gone int) {
	t.Helper()
	if n, e := s.Ack(nr); n != gone || e != api.OK {
		t.Fatalf("Ack(%d): %d %v, not %d", nr, n, e, gone)
	}
}

func ackErrs(t *testing.T, s *Sender, nr int, want api.Errno) {
	t.Helper()
	if n, e := s.Ack(nr); n != 0 || e != want {
		t.Errorf("Ack(%d): %d %v, not %v", nr, n, e, want)
	}
}

func again(t *testing.T, s *Sender, ns int, want []byte) {
	t.Helper()
	if p, e := s.Again(ns); !bytes.Equal(p, want) || e != api.OK {
		t.Errorf("Again(%d): % x %v, not % x", ns, p, e, want)
	}
}

func againErrs(t *testing.T, s *Sender, ns int, want api.Errno) {
	t.Helper()
	if p, e := s.Again(ns); p != nil || e != want {
		t.Errorf("Again(%d): % x %v, not %v", ns, p, e, want)
	}
}

// laid answers a sender with the payloads from 0 on, of which under are under way from base on.
func laid(t *testing.T, size, base, under, waiting int) *Sender {
	t.Helper()
	s := made(t, size)
	for n := range base {
		push(t, s, payload(1000+n))
		send(t, s, n%128, payload(1000+n))
		ack(t, s, (n+1)%128, 1)
	}
	for n := range under + waiting {
		push(t, s, payload(n))
	}
	for n := range under {
		send(t, s, (base+n)%128, payload(n))
	}
	return s
}

// checkIs asks that just these payloads are there, so many of them under way from base on.
func checkIs(t *testing.T, s *Sender, base, under int, all [][]byte) {
	t.Helper()
	if s.Base() != base || s.Len() != len(all) || !slices.Equal(s.Under(), numbers(base, under)) {
		t.Errorf("base %d, %d there, under way %d; not base %d, %d there, %d under way", s.Base(), s.Len(), s.Under(), base, len(all), under)
	}
	for i, ns := range numbers(base, 128) {
		if i < under {
			again(t, s, ns, all[i])
		} else {
			againErrs(t, s, ns, api.ErrNone)
		}
	}
}

// checkHas asks the same, and takes all of them out at last.
func checkHas(t *testing.T, s *Sender, base, under int, all [][]byte) {
	t.Helper()
	checkIs(t, s, base, under, all)
	if got := s.Reset(); !sameLists(got, all) {
		t.Errorf("Reset: % x, not % x", got, all)
	}
	checkIs(t, s, 0, 0, nil)
}

// model is what the chapter says of a sender, payload by payload, each under way with its number.
type model struct {
	size, base int
	under      []sent
	waiting    [][]byte
}

type sent struct {
	number int
	p      []byte
}

func (m *model) push(p []byte) api.Errno {
	switch {
	case len(p) == 0:
		return api.ErrForm
	case len(p) > mostBytes:
		return api.ErrLong
	case len(m.under)+len(m.waiting) >= mostThere:
		return api.ErrFull
	}
	m.waiting = append(m.waiting, bytes.Clone(p))
	return api.OK
}

func (m *model) send() (sent, bool) {
	if len(m.waiting) == 0 || len(m.under) >= m.size {
		return sent{}, false
	}
	next := sent{m.base, m.waiting[0]}
	if len(m.under) > 0 {
		next.number = (m.under[len(m.under)-1].number + 1) % 128
	}
	m.under, m.waiting = append(slices.Clone(m.under), next), m.waiting[1:]
	return next, true
}

func (m *model) ack(nr int) (int, api.Errno) {
	if nr < 0 || nr > 127 {
		return 0, api.ErrRange
	}
	if nr == m.base {
		return 0, api.OK
	}
	for i, u := range m.under {
		if (u.number+1)%128 == nr {
			m.base, m.under = nr, m.under[i+1:]
			return i + 1, api.OK
		}
	}
	return 0, api.ErrState
}

func (m *model) again(ns int) ([]byte, api.Errno) {
	if ns < 0 || ns > 127 {
		return nil, api.ErrRange
	}
	for _, u := range m.under {
		if u.number == ns {
			return u.p, api.OK
		}
	}
	return nil, api.ErrNone
}

func (m *model) all() [][]byte {
	var out [][]byte
	for _, u := range m.under {
		out = append(out, u.p)
	}
	return append(out, m.waiting...)
}

// P7.1

func TestNew(t *testing.T) {
	for size := 1; size <= mostUnder; size++ {
		s := made(t, size)
		checkIs(t, s, 0, 0, nil)
		sendNone(t, s)
		ack(t, s, 0, 0)
		checkHas(t, s, 0, 0, nil)
	}
}

func TestNewRefuses(t *testing.T) {
	for _, size := range []int{0, -1, -63, 64, 65, 127, 128, 257, math.MinInt, math.MinInt + 1, math.MaxInt, 1<<32 + 1} {
		if s, e := New(size); s != nil || e != api.ErrRange {
			t.Errorf("New(%d): %v %v", size, s, e)
		}
	}
}

func TestPushLetsWaitBehindAllOthers(t *testing.T) {
	s := made(t, 2)
	for n := range mostThere {
		push(t, s, payload(n))
		checkIs(t, s, 0, 0, payloads(0, n+1))
	}
	checkHas(t, s, 0, 0, payloads(0, mostThere))

	s = laid(t, 2, 5, 2, 1)
	push(t, s, payload(3))
	checkHas(t, s, 5, 2, payloads(0, 4))
}

func TestPushOfAllLengths(t *testing.T) {
	for n := 1; n <= mostBytes; n++ {
		s := made(t, 1)
		p := bytes.Repeat([]byte{byte(n)}, n)
		push(t, s, p)
		send(t, s, 0, p)
		checkHas(t, s, 0, 1, [][]byte{p})
	}
}

func TestPushRefuses(t *testing.T) {
	for _, c := range []struct {
		p    []byte
		want api.Errno
	}{
		{nil, api.ErrForm}, {[]byte{}, api.ErrForm}, {make([]byte, 0, 8), api.ErrForm},
		{make([]byte, 122), api.ErrLong}, {make([]byte, 123), api.ErrLong}, {make([]byte, 128), api.ErrLong},
		{make([]byte, 129), api.ErrLong}, {make([]byte, 256), api.ErrLong}, {make([]byte, 257), api.ErrLong}, {make([]byte, 1<<16), api.ErrLong},
	} {
		// of a sender that is full each of them comes ahead of ErrFull
		for _, there := range []int{0, 3, mostThere} {
			s := laid(t, 2, 126, min(there, 2), max(there-2, 0))
			if e := s.Push(c.p); e != c.want {
				t.Errorf("%d bytes, %d there: %v", len(c.p), there, e)
			}
			checkHas(t, s, 126, min(there, 2), payloads(0, there))
		}
	}
}

func TestPushIsFull(t *testing.T) {
	for _, under := range []int{0, 1, 62, 63} {
		s := laid(t, mostUnder, 100, under, mostThere-under)
		for _, p := range [][]byte{{1}, payload(7), make([]byte, mostBytes)} {
			if e := s.Push(p); e != api.ErrFull {
				t.Errorf("%d under way: %v", under, e)
			}
		}
		checkHas(t, s, 100, under, payloads(0, mostThere))
	}
}

func TestRoomBehindWhatIsGone(t *testing.T) {
	s := laid(t, 3, 0, 3, 61)
	for n := mostThere; n < mostThere+300; n++ {
		if e := s.Push(payload(n)); e != api.ErrFull {
			t.Fatalf("%d: %v", n, e)
		}
		ack(t, s, (n-63)%128, 1)
		push(t, s, payload(n))
		checkIs(t, s, (n-63)%128, 2, payloads(n-63, n+1))
		send(t, s, (n-61)%128, payload(n-61))
	}
}

// P7.2

func TestSend(t *testing.T) {
	s := made(t, 2)
	for n := range 3 {
		push(t, s, payload(n))
	}
	send(t, s, 0, payload(0))
	send(t, s, 1, payload(1))
	sendNone(t, s)
	ack(t, s, 1, 1)
	send(t, s, 2, payload(2))
	sendNone(t, s)
	ackErrs(t, s, 0, api.ErrState)
	ack(t, s, 3, 2)
	sendNone(t, s)
	checkHas(t, s, 3, 0, nil)
}

func TestSendWithNoneWaiting(t *testing.T) {
	for _, under := range []int{0, 1, 2} {
		s := laid(t, 3, 9, under, 0)
		sendNone(t, s)
		sendNone(t, s)
		push(t, s, payload(under))
		send(t, s, 9+under, payload(under))
		checkHas(t, s, 9, under+1, payloads(0, under+1))
	}
}

func TestSendWithSizeUnderWay(t *testing.T) {
	for size := 1; size <= mostUnder; size++ {
		s := laid(t, size, 90, size, mostThere-size)
		sendNone(t, s)
		checkIs(t, s, 90, size, payloads(0, mostThere))
		ack(t, s, 90, 0)
		sendNone(t, s)
		ack(t, s, 91, 1)
		send(t, s, (90+size)%128, payload(size))
		sendNone(t, s)
		checkHas(t, s, 91, size, payloads(1, mostThere))
	}
}

func TestNumbersGoRoundAt127(t *testing.T) {
	s := laid(t, 4, 126, 4, 1)
	checkIs(t, s, 126, 4, payloads(0, 5))
	if got := s.Under(); !slices.Equal(got, []int{126, 127, 0, 1}) {
		t.Errorf("Under: %d", got)
	}
	ack(t, s, 127, 1)
	send(t, s, 2, payload(4))
	ack(t, s, 1, 2)
	checkIs(t, s, 1, 2, payloads(3, 5))
	ackErrs(t, s, 0, api.ErrState)
	ackErrs(t, s, 127, api.ErrState)
	ack(t, s, 3, 2)
	checkHas(t, s, 3, 0, nil)

	s = laid(t, 1, 127, 1, 0)
	ack(t, s, 0, 1)
	checkHas(t, s, 0, 0, nil)
}

func TestAckOfAllNumbers(t *testing.T) {
	for _, base := range []int{0, 1, 64, 65, 126, 127} {
		for _, under := range []int{0, 1, 2, 3, 62, 63} {
			refusing := laid(t, mostUnder, base, under, 1)
			for way := range 128 {
				nr := (base + way) % 128
				if way > under {
					ackErrs(t, refusing, nr, api.ErrState)
					continue
				}
				s := laid(t, mostUnder, base, under, 1)
				ack(t, s, nr, way)
				checkHas(t, s, nr, under-way, payloads(way, under+1))
			}
			checkHas(t, refusing, base, under, payloads(0, under+1))
		}
	}
}

func TestAckAgain(t *testing.T) {
	s := laid(t, 5, 3, 5, 2)
	ack(t, s, 5, 2)
	ack(t, s, 5, 0)
	ackErrs(t, s, 4, api.ErrState)
	ackErrs(t, s, 3, api.ErrState)
	ackErrs(t, s, 9, api.ErrState)
	ack(t, s, 8, 3)
	checkHas(t, s, 8, 0, payloads(5, 7))
}

func outOfRange() []int {
	return []int{-1, -2, -127, -128, 128, 129, 255, 256, math.MinInt, math.MinInt + 1, math.MaxInt, math.MaxInt - 1, 1 << 32}
}

func TestNumbersOutOfRange(t *testing.T) {
	for _, base := range []int{0, 1, 126, 127} {
		for _, under := range []int{0, 1, 3} {
			s := laid(t, 3, base, under, 1)
			for _, n := range outOfRange() {
				ackErrs(t, s, n, api.ErrRange)
				againErrs(t, s, n, api.ErrRange)
			}
			checkHas(t, s, base, under, payloads(0, under+1))
		}
	}
}

func TestAgain(t *testing.T) {
	s := laid(t, 4, 126, 3, 2)
	for range 2 {
		again(t, s, 126, payload(0))
		again(t, s, 127, payload(1))
		again(t, s, 0, payload(2))
	}
	againErrs(t, s, 1, api.ErrNone) // it waits
	againErrs(t, s, 125, api.ErrNone)
	ack(t, s, 127, 1)
	againErrs(t, s, 126, api.ErrNone) // it is gone
	again(t, s, 127, payload(1))
	send(t, s, 1, payload(3))
	again(t, s, 1, payload(3))
	checkHas(t, s, 127, 3, payloads(1, 5))
}

func TestAgainOfNone(t *testing.T) {
	for _, s := range []*Sender{made(t, 1), laid(t, 2, 77, 0, 2)} {
		for ns := range 128 {
			againErrs(t, s, ns, api.ErrNone)
		}
	}
}

// P7.3

func TestUnderBaseLen(t *testing.T) {
	s := made(t, 3)
	check := func(base, length int, under ...int) {
		t.Helper()
		if s.Base() != base || s.Len() != length || !slices.Equal(s.Under(), under) {
			t.Errorf("%d %d %d, not %d %d %d", s.Base(), s.Len(), s.Under(), base, length, under)
		}
	}
	check(0, 0)
	for n := range 5 {
		push(t, s, payload(n))
	}
	check(0, 5)
	send(t, s, 0, payload(0))
	check(0, 5, 0)
	send(t, s, 1, payload(1))
	send(t, s, 2, payload(2))
	check(0, 5, 0, 1, 2)
	ack(t, s, 2, 2)
	check(2, 3, 2)
	ack(t, s, 3, 1)
	check(3, 2)
}

func TestReset(t *testing.T) {
	for _, base := range []int{0, 1, 60, 127} {
		for _, under := range []int{0, 1, 3} {
			for _, waiting := range []int{0, 1, 5} {
				s := laid(t, 3, base, under, waiting)
				checkHas(t, s, base, under, payloads(0, under+waiting))
				sendNone(t, s)
				if got := s.Reset(); len(got) != 0 {
					t.Errorf("Reset again: % x", got)
				}
			}
		}
	}
}

func TestBehindReset(t *testing.T) {
	s := laid(t, 3, 100, 3, 61)
	s.Reset()
	ackErrs(t, s, 1, api.ErrState)
	ackErrs(t, s, 101, api.ErrState)
	ack(t, s, 0, 0)
	for n := range mostThere {
		push(t, s, payload(500+n))
	}
	if e := s.Push(payload(1)); e != api.ErrFull {
		t.Errorf("Push: %v", e)
	}
	for n := range 3 {
		send(t, s, n, payload(500+n))
	}
	sendNone(t, s) // its size is as it was
	checkIs(t, s, 0, 3, payloads(500, 564))
	ack(t, s, 2, 2)
	checkHas(t, s, 2, 1, payloads(502, 564))
}

func TestNilSender(t *testing.T) {
	var s *Sender
	for _, p := range [][]byte{nil, {}, {1}, make([]byte, mostBytes), make([]byte, mostBytes+1)} {
		if e := s.Push(p); e != api.ErrState {
			t.Errorf("Push of %d bytes: %v", len(p), e)
		}
	}
	sendNone(t, s)
	for _, n := range append(outOfRange(), 0, 1, 64, 127) {
		ackErrs(t, s, n, api.ErrState)
		againErrs(t, s, n, api.ErrState)
	}
	if s.Under() != nil || s.Base() != 0 || s.Len() != 0 || s.Reset() != nil {
		t.Error("a nil sender has something")
	}
}

// P7.1 to P7.3, of any calls

// step does one call on both, and asks that they answer the same.
func step(t *testing.T, r *rand.Rand, s *Sender, m *model) {
	t.Helper()
	switch r.Intn(12) {
	case 0, 1, 2, 3:
		p := make([]byte, r.Intn(mostBytes+3))
		r.Read(p)
		if e := s.Push(p); e != m.push(p) {
			t.Fatalf("Push of %d: %v", len(p), e)
		}
	case 4, 5, 6:
		want, there := m.send()
		if n, p, ok := s.Send(); ok != there || n != want.number || !bytes.Equal(p, want.p) {
			t.Fatalf("Send: %d % x %v", n, p, ok)
		}
	case 7, 8:
		nr := m.base + r.Intn(len(m.under)+1)
		if r.Intn(3) == 0 {
			nr = r.Intn(132) - 2
		}
		want, e := m.ack(nr % 128)
		if n, f := s.Ack(nr % 128); n != want || f != e {
			t.Fatalf("Ack(%d): %d %v", nr%128, n, f)
		}
	case 9, 10:
		ns := r.Intn(132) - 2
		want, e := m.again(ns)
		if p, f := s.Again(ns); !bytes.Equal(p, want) || f != e {
			t.Fatalf("Again(%d): % x %v", ns, p, f)
		}
	default:
		if r.Intn(20) > 0 {
			return
		}
		if got := s.Reset(); !sameLists(got, m.all()) {
			t.Fatalf("Reset: % x", got)
		}
		*m = model{size: m.size}
	}
}

func TestAnyCalls(t *testing.T) {
	for seed := range 60 {
		r := rand.New(rand.NewSource(int64(seed)))
		size := 1 + r.Intn(mostUnder)
		if seed%2 == 0 {
			size = 1 + r.Intn(5)
		}
		s, m := made(t, size), &model{size: size}
		for range 800 {
			step(t, r, s, m)
			var under []int
			for _, u := range m.under {
				under = append(under, u.number)
			}
			if s.Base() != m.base || s.Len() != len(m.all()) || !slices.Equal(s.Under(), under) {
				t.Fatalf("size %d: %d %d %d, not %d %d %d", size, s.Base(), s.Len(), s.Under(), m.base, len(m.all()), under)
			}
		}
		checkHas(t, s, m.base, len(m.under), m.all())
	}
}

// P7.4

func TestWhatGoesOutIsWhatWasPushed(t *testing.T) {
	for size := 1; size <= mostUnder; size++ {
		r := rand.New(rand.NewSource(int64(size)))
		s := made(t, size)
		pushed, out := 0, 0
		for range 5000 {
			switch r.Intn(3) {
			case 0:
				if s.Push(payload(pushed)) == api.OK {
					pushed++
				}
			case 1:
				for n, p, ok := s.Send(); ok; n, p, ok = s.Send() {
					if n != out%128 || !bytes.Equal(p, payload(out)) {
						t.Fatalf("size %d: %d % x went out as the one number %d", size, n, p, out)
					}
					out++
				}
			default:
				gone := r.Intn(len(s.Under()) + 1)
				ack(t, s, (s.Base()+gone)%128, gone)
			}
			if under := len(s.Under()); under > size || out > pushed {
				t.Fatalf("size %d: %d under way, %d out, %d pushed", size, under, out, pushed)
			}
		}
		if out < 300 {
			t.Errorf("size %d: only %d went out", size, out)
		}
	}
}

// P7.5

func TestAcknowledgedAndLeftAreWhatWasPushed(t *testing.T) {
	for seed := range 200 {
		r := rand.New(rand.NewSource(int64(seed)))
		s := made(t, 1+r.Intn(mostUnder))
		pushed, gone := 0, 0
		for range 100 + r.Intn(400) {
			switch r.Intn(3) {
			case 0:
				if s.Push(payload(pushed)) == api.OK {
					pushed++
				}
			case 1:
				s.Send()
			default:
				n, _ := s.Ack((s.Base() + r.Intn(8)) % 128)
				gone += n
			}
			if s.Base() != gone%128 || gone+s.Len() != pushed {
				t.Fatalf("base %d, %d gone, %d left, %d pushed", s.Base(), gone, s.Len(), pushed)
			}
		}
		if left := s.Reset(); !sameLists(left, payloads(gone, pushed)) {
			t.Fatalf("%d gone, %d pushed, left % x", gone, pushed, left)
		}
	}
}

// P7.6

func TestSentOnceMoreIsTheSame(t *testing.T) {
	for seed := range 40 {
		r := rand.New(rand.NewSource(int64(seed)))
		s := made(t, 1+r.Intn(mostUnder))
		went := map[int][]byte{}
		for range 300 {
			p := make([]byte, 1+r.Intn(mostBytes))
			r.Read(p)
			s.Push(p)
			if n, p, ok := s.Send(); ok {
				went[n] = p
			}
			if r.Intn(4) == 0 {
				s.Ack((s.Base() + r.Intn(6)) % 128)
			}
			for _, ns := range s.Under() {
				again(t, s, ns, went[ns])
			}
		}
	}
}

// What is handed in is neither changed nor kept, nor what lies in the room behind it; what is answered is new memory.

func scribble(p []byte) {
	for i := range p {
		p[i] ^= 0xff
	}
	room := p[:cap(p)]
	for i := len(p); i < cap(p); i++ {
		room[i] ^= 0xff
	}
}

func TestHandedInStaysAsItIs(t *testing.T) {
	room := []byte("payload and room behind it")
	was := bytes.Clone(room)
	s := made(t, 2)
	push(t, s, room[:7])
	push(t, s, room[:7])
	_, sentOut, _ := s.Send()
	oneMore, _ := s.Again(0)
	ack(t, s, 1, 1)
	left := s.Reset()
	for _, p := range append(left, sentOut, oneMore) {
		scribble(p)
	}
	if e := s.Push(room[:0]); e != api.ErrForm {
		t.Error(e)
	}
	if !bytes.Equal(room, was) {
		t.Errorf("%q", room)
	}
}

func TestHandedInIsNotKept(t *testing.T) {
	s := made(t, 2)
	room := make([]byte, 7, 30)
	copy(room, "payload")
	for range 3 {
		push(t, s, room)
	}
	scribble(room)
	send(t, s, 0, []byte("payload"))
	again(t, s, 0, []byte("payload"))
	if all := s.Reset(); !sameLists(all, [][]byte{[]byte("payload"), []byte("payload"), []byte("payload")}) {
		t.Errorf("%q", all)
	}
}

func TestAnswersAreNewMemory(t *testing.T) {
	s := laid(t, 3, 126, 2, 2)
	_, first, _ := s.Send()
	scribble(first)
	again(t, s, 0, payload(2))
	second, _ := s.Again(0)
	third, _ := s.Again(0)
	scribble(second)
	if !bytes.Equal(third, payload(2)) {
		t.Errorf("one shares with the other: % x", third)
	}
	scribble(third)
	under := s.Under()
	for i := range under {
		under[i] = -1
	}
	_ = append(under, -1)
	checkHas(t, s, 126, 3, payloads(0, 4))
}

func TestWhatResetAnswersIsNewMemory(t *testing.T) {
	for _, gone := range []int{0, 1, 3} {
		s := laid(t, 3, 0, 3, 6)
		_, e := s.Ack(gone)
		all := s.Reset()
		want := cloned(all)
		for n := range 9 {
			push(t, s, payload(900+n))
		}
		send(t, s, 0, payload(900))
		if e != api.OK || !sameLists(all, want) {
			t.Errorf("behind %d gone, what was pushed lies over it: % x", gone, all)
		}
		more := all
		for i := range all {
			more = append(more, []byte("more"))
			scribble(all[i])
			if i+1 < len(all) && !bytes.Equal(all[i+1], want[i+1]) {
				t.Errorf("one payload shares with the next: % x", all[i+1])
			}
		}
		clear(more)
		clear(all)
		checkHas(t, s, 0, 1, payloads(900, 909))
	}
}

func TestNothingIsKeptOfWhatIsGone(t *testing.T) {
	s := laid(t, 4, 0, 4, 1)
	list := s.payloads
	ack(t, s, 3, 3)
	for i, p := range list {
		if (p == nil) != (i < 3) {
			t.Errorf("place %d: % x", i, p)
		}
	}
	s.Reset()
	if cap(s.payloads) != 0 {
		t.Errorf("behind Reset there is room for %d", cap(s.payloads))
	}
}

func TestNothingIsLaidBehindWhatIsCut(t *testing.T) {
	s := laid(t, 4, 0, 4, 1)
	first := s.cut(2)
	_ = append(first, []byte("other"))
	if len(first) != 2 || !sameLists(s.payloads, payloads(2, 5)) {
		t.Errorf("%d cut, left % x", len(first), s.payloads)
	}
}

func TestSendersShareNothing(t *testing.T) {
	a, b := laid(t, 2, 0, 1, 1), laid(t, 2, 0, 2, 0)
	ack(t, a, 1, 1)
	push(t, a, payload(50))
	checkIs(t, b, 0, 2, payloads(0, 2))
	b.Reset()
	checkHas(t, a, 1, 0, [][]byte{payload(1), payload(50)})
}
