package link

import (
	"bytes"
	"math/rand"
	"slices"
	"testing"

	"portage/api"
	"portage/control"
)

// model is what the chapter says of an end, in plain numbers and lists, without the layers below.
type model struct {
	me, size, timer, tries int

	peer, tried, resets int
	up, busy, otherBusy bool
	counts              bool
	left                int

	queue       [][]byte // the sender's
	base, under int

	waits int // the receiver's
	kept  map[int][]byte
	asked map[int]bool

	out []api.Ctl
	in  [][]byte
}

func newModel(me, size, timer, tries int) *model {
	m := &model{me: me, size: size, timer: timer, tries: tries, peer: -1, kept: map[int][]byte{}, asked: map[int]bool{}}
	m.tell(sabme(me))
	m.start()
	return m
}

func (m *model) tell(c api.Ctl) { m.out = append(m.out, c) }
func (m *model) start()         { m.counts, m.left = true, m.timer }

func (m *model) startIfNot() {
	if !m.counts {
		m.start()
	}
}

func (m *model) empty() {
	m.queue, m.base, m.under = nil, 0, 0
	m.waits = 0
	clear(m.kept)
	clear(m.asked)
	m.resets++
	m.tried, m.counts, m.otherBusy = 0, false, false
}

func (m *model) anew() {
	m.me++
	if m.me > 65535 {
		m.me = 0
	}
	m.up, m.peer = false, -1
	m.empty()
	m.tell(sabme(m.me))
	m.start()
}

func (m *model) goOn() {
	for m.up && !m.otherBusy && m.under < m.size && m.under < len(m.queue) {
		m.tell(between(m.me, m.peer, ci((m.base+m.under)%128, m.waits, m.queue[m.under])))
		m.under++
		m.startIfNot()
	}
}

func (m *model) answer() {
	c := rr(m.waits)
	if m.busy {
		c = rnr(m.waits)
	}
	m.tell(between(m.me, m.peer, c))
}

func (m *model) nr(nr int) {
	way := (nr - m.base + 128) % 128
	if way == 0 || way > m.under {
		return
	}
	m.queue = slices.Clone(m.queue[way:])
	m.under -= way
	m.base = nr
	m.tried = 0
	m.counts = false
	if m.under > 0 {
		m.start()
	}
}

func (m *model) push(p []byte) api.Errno {
	switch {
	case !m.up:
		return api.ErrState
	case len(p) == 0:
		return api.ErrForm
	case len(p) > mostBytes:
		return api.ErrLong
	case len(m.queue) >= mostQueue:
		return api.ErrFull
	}
	m.queue = append(m.queue, bytes.Clone(p))
	m.goOn()
	return api.OK
}

func (m *model) tick() {
	if !m.counts {
		return
	}
	m.left--
	if m.left > 0 {
		return
	}
	m.counts = false
	if !m.up {
		m.tell(polled(sabme(m.me)))
		m.start()
		return
	}
	if m.under == 0 {
		if m.otherBusy && len(m.queue) > 0 {
			m.tell(polled(between(m.me, m.peer, rr(m.waits))))
			m.start()
		}
		return
	}
	m.tried++
	if m.tried > m.tries {
		m.anew()
		return
	}
	m.tell(polled(between(m.me, m.peer, ci(m.base, m.waits, m.queue[0]))))
	m.start()
}

func (m *model) setBusy(on bool) {
	free := m.busy && !on
	m.busy = on
	if free && m.up {
		m.answer()
	}
}

func (m *model) receive(c api.Ctl) api.Errno {
	if e := control.Check(c); e != api.OK {
		return e
	}
	fits := c.Me == m.peer && c.Peer == m.me
	switch c.Kind {
	case api.CSABME:
		if c.Me != m.peer {
			counts := m.counts
			m.peer = c.Me
			m.empty()
			m.counts = counts && !m.up
		}
		answer := ua(m.me, m.peer)
		answer.P = c.P
		m.tell(answer)
	case api.CUA:
		if c.Peer == m.me && !m.up {
			if c.Me != m.peer {
				m.peer = c.Me
				m.empty()
			}
			m.up, m.counts, m.tried = true, false, 0
		}
	case api.CDM:
		if m.up && c.Peer == m.me && c.Me != m.peer {
			m.anew()
		}
	default:
		if fits {
			m.inPair(c)
		} else if !m.up {
			m.tell(dm(m.me, c.Me))
		}
	}
	return api.OK
}

func (m *model) inPair(c api.Ctl) {
	if !m.up {
		m.up, m.counts, m.tried = true, false, 0
	}
	if c.Kind == api.CSREJ {
		if way := (c.NR - m.base + 128) % 128; way < m.under {
			m.tell(between(m.me, m.peer, ci(c.NR, m.waits, m.queue[way])))
		}
		return
	}
	if c.Kind != api.CI {
		m.otherBusy = c.Kind == api.CRNR
	}
	m.nr(c.NR)
	switch c.Kind {
	case api.CRNR:
		if len(m.queue) > 0 {
			m.startIfNot()
		}
	default:
		m.goOn()
	}
	if c.Kind == api.CI {
		if c.P {
			clear(m.asked)
		}
		if !m.busy {
			m.take(c.NS, c.Data)
		}
	}
	if c.P || c.Kind == api.CI {
		m.answer()
	}
}

func (m *model) take(ns int, p []byte) {
	if (ns-m.waits+128)%128 >= m.size || m.kept[ns] != nil {
		return
	}
	m.kept[ns] = bytes.Clone(p)
	for m.kept[m.waits] != nil {
		m.in = append(m.in, m.kept[m.waits])
		delete(m.kept, m.waits)
		delete(m.asked, m.waits)
		m.waits = (m.waits + 1) % 128
	}
	var ask []int
	for way, open := 0, len(m.kept); open > 0; way++ {
		n := (m.waits + way) % 128
		switch {
		case m.kept[n] != nil:
			open--
		case !m.asked[n]:
			m.asked[n] = true
			ask = append(ask, n)
		}
	}
	for _, n := range ask {
		m.tell(between(m.me, m.peer, srej(n)))
	}
}

// same asks that the end is as the model, and tells what the model tells.
func same(t *testing.T, l *Link, m *model, take bool) {
	t.Helper()
	if l.Up() != m.up || l.Me() != m.me || l.Peer() != m.peer || l.Resets() != m.resets || l.Pending() != len(m.queue) {
		t.Fatalf("up %v, me %d, peer %d, resets %d, pending %d; not %v, %d, %d, %d, %d",
			l.Up(), l.Me(), l.Peer(), l.Resets(), l.Pending(), m.up, m.me, m.peer, m.resets, len(m.queue))
	}
	if !take {
		return
	}
	if got := l.Out(); !slices.EqualFunc(got, m.out, control.Same) {
		t.Fatalf("sent %+v\nnot  %+v", got, m.out)
	}
	if got := l.In(); !sameLists(got, m.in) {
		t.Fatalf("came in % x\nnot     % x", got, m.in)
	}
	m.out, m.in = nil, nil
}

// some answers a control, most often one that could come to an end like this.
func some(rnd *rand.Rand, m *model) api.Ctl {
	mes := []int{m.peer, m.peer, m.peer, m.peer, m.peer, m.peer, m.peer, m.peer, other, 8, m.me}
	c := api.Ctl{Kind: []int{api.CI, api.CI, api.CI, api.CI, api.CRR, api.CRR, api.CRNR, api.CSREJ, api.CSREJ}[rnd.Intn(9)], P: rnd.Intn(4) == 0}
	c.Me = max(0, mes[rnd.Intn(len(mes))])
	c.Peer = m.me
	if rnd.Intn(20) == 0 {
		c.Peer = (m.me + 65535) % 65536
	}
	if !m.up && rnd.Intn(2) == 0 || rnd.Intn(60) == 0 {
		c.Kind = []int{api.CSABME, api.CUA, api.CUA, api.CDM}[rnd.Intn(4)]
	}
	if c.Kind <= api.CSREJ {
		c.NR = (m.base + rnd.Intn(m.under+1)) % 128
		if rnd.Intn(12) == 0 {
			c.NR = rnd.Intn(128)
		}
	}
	switch c.Kind {
	case api.CI:
		c.NS = m.waits
		if rnd.Intn(3) == 0 {
			c.NS = (m.waits + rnd.Intn(m.size+2) + 127) % 128
		}
		c.Data = make([]byte, 1+rnd.Intn(mostBytes))
		rnd.Read(c.Data)
	case api.CSABME:
		c.Peer = 0
	}
	if rnd.Intn(50) == 0 { // a wrong one
		switch rnd.Intn(5) {
		case 0:
			c.Kind = rnd.Intn(20) - 5
		case 1:
			c.NR = rnd.Intn(260) - 130
		case 2:
			c.Me = -1 - rnd.Intn(3)
		case 3:
			c.Data = make([]byte, rnd.Intn(2)*130)
		case 4:
			c.NS = 128
		}
	}
	return c
}

// P9.1 to P9.4, of any calls

func step(t *testing.T, rnd *rand.Rand, l *Link, m *model) {
	t.Helper()
	switch rnd.Intn(12) {
	case 0, 1:
		n := rnd.Intn(m.timer + 2)
		for range n {
			if e := l.Tick(); e != api.OK {
				t.Fatalf("Tick: %v", e)
			}
			m.tick()
		}
	case 2, 3, 4:
		p := make([]byte, 1+rnd.Intn(mostBytes))
		if rnd.Intn(20) == 0 {
			p = make([]byte, rnd.Intn(2)*(mostBytes+1))
		}
		rnd.Read(p)
		for range 1 + rnd.Intn(4) {
			if got, want := l.Push(p), m.push(p); got != want {
				t.Fatalf("Push of %d bytes: %v, not %v", len(p), got, want)
			}
		}
	case 5:
		on := rnd.Intn(3) == 0
		if e := l.Busy(on); e != api.OK {
			t.Fatalf("Busy(%v): %v", on, e)
		}
		m.setBusy(on)
	default:
		c := some(rnd, m)
		if got, want := l.Receive(c), m.receive(c); got != want {
			t.Fatalf("Receive of %+v: %v, not %v", c, got, want)
		}
	}
}

func TestAnyCalls(t *testing.T) {
	for seed := range 150 {
		rnd := rand.New(rand.NewSource(int64(seed)))
		me := []int{0, 1, 512, 65530, 65535}[rnd.Intn(5)]
		size, timer, tries := 1+rnd.Intn(6), 1+rnd.Intn(6), 1+rnd.Intn(4)
		if seed%4 == 0 {
			size, timer, tries = 1+rnd.Intn(mostSize), 1+rnd.Intn(mostTimer), 1+rnd.Intn(mostTimer)
		}
		l, m := made(t, me, size, timer, tries), newModel(me, size, timer, tries)
		for range 1500 {
			step(t, rnd, l, m)
			same(t, l, m, rnd.Intn(3) > 0)
		}
	}
}

// Each kind, with P and without, from each pair, at each state of an end.
func TestEachControlAtEachState(t *testing.T) {
	states := map[string]func(e end){
		"new":              func(end) {},
		"new, busy":        func(e end) { e.Busy(true) },
		"called":           func(e end) { e.Receive(sabme(other)) },
		"called, has sent": func(e end) { e.Receive(sabme(other)); e.ticks(2) },
		"up":               func(e end) { e.Receive(ua(other, mine)) },
		"up, busy":         func(e end) { e.Receive(ua(other, mine)); e.Busy(true) },
		"up, other busy":   func(e end) { e.Receive(ua(other, mine)); e.Receive(from(rnr(0))) },
		"up, laden":        func(e end) { e.Receive(ua(other, mine)); e.load(5) },
		"up, laden, tried": func(e end) { e.Receive(ua(other, mine)); e.load(5); e.ticks(7) },
		"up, laden, both busy": func(e end) {
			e.Receive(ua(other, mine))
			e.load(1)
			e.Busy(true)
			e.Receive(from(rnr(0)))
			e.load(3)
		},
		"up, waits for the other": func(e end) { e.Receive(ua(other, mine)); e.load(4); e.Receive(from(rnr(3))) },
		"up, keeps some":          func(e end) { e.Receive(ua(other, mine)); e.load(2); e.Receive(from(ci(1, 0, []byte("y")))) },
		"anew":                    func(e end) { e.Receive(ua(other, mine)); e.load(2); e.Receive(dm(8, mine)) },
	}
	var controls []api.Ctl
	for _, pair := range append(others(mine, other), [2]int{other, mine}) {
		for _, p := range []bool{false, true} {
			for kind := api.CI; kind <= api.CDM; kind++ {
				c := api.Ctl{Kind: kind, P: p, Me: pair[0], Peer: pair[1]}
				switch {
				case kind == api.CSABME:
					c.Peer = 0
				case kind == api.CI:
					for _, ns := range []int{0, 1, 2, 3, 127} {
						c.NS, c.Data = ns, []byte("x")
						controls = append(controls, c)
					}
					continue
				case kind <= api.CSREJ:
					for _, nr := range []int{0, 1, 3, 4, 127} {
						c.NR = nr
						controls = append(controls, c)
					}
					continue
				}
				controls = append(controls, c)
			}
		}
	}
	for name, lay := range states {
		for _, c := range controls {
			l, m := made(t, mine, 3, 4, 2), newModel(mine, 3, 4, 2)
			e := end{l, m}
			lay(e)
			same(t, l, m, true)
			e.Receive(c)
			same(t, l, m, false)
			for range 10 {
				e.ticks(1)
			}
			same(t, l, m, true)
			e.load(1)
			same(t, l, m, true)
			if t.Failed() {
				t.Fatalf("%s: %+v", name, c)
			}
		}
	}
}

// end is an end and its model, to both of which the same is done.
type end struct {
	l *Link
	m *model
}

func (e end) Receive(c api.Ctl) { e.l.Receive(c); e.m.receive(c) }
func (e end) Busy(on bool)      { e.l.Busy(on); e.m.setBusy(on) }

func (e end) ticks(n int) {
	for range n {
		e.l.Tick()
		e.m.tick()
	}
}

func (e end) load(n int) {
	for i := range n {
		e.l.Push(onePayload(i))
		e.m.push(onePayload(i))
	}
}
