package node_test

import (
	"bytes"
	"fmt"
	"math/rand"
	"slices"
	"testing"

	"portage/api"
	"portage/control"
	"portage/custody"
	"portage/disk"
	"portage/hdlc"
	"portage/hop"
	"portage/link"
	"portage/node"
	"portage/routes"
)

// model is what the chapter says of a node, on a disk of its own, sentence by sentence.
type model struct {
	self       int
	neighbours []int
	s          api.Settings
	custody    *custody.Custody
	ends       [nodes]*link.Link
	decoders   [nodes]*hdlc.Decoder
	goesOut    [nodes][]byte
	table      *routes.Table
	desk       *hop.Desk
	delivered  []api.Msg
	ticks, bad int

	resets [nodes]int // of the ends, when it worked last
}

func newModel(self int, neighbours []int, d *disk.Disk, s api.Settings) (*model, api.Errno) {
	m := &model{self: self, neighbours: neighbours, s: s}
	var e api.Errno
	if m.table, e = routes.New(self, neighbours, mostTimer); e != api.OK {
		return nil, e
	}
	for _, x := range all() {
		if n := *x.at(&s); n < x.least || n > x.most {
			return nil, api.ErrRange
		}
	}
	if m.custody, e = custody.Open(d, self, s.Quota, s.Segment); e != api.OK {
		return nil, e
	}
	m.desk, _ = hop.New(s.Wait)
	for _, k := range neighbours {
		m.ends[k], _ = link.New((512*m.custody.State().Epoch)%65536, s.Window, s.Timer, s.Tries)
		m.decoders[k] = hdlc.New()
	}
	m.works()
	return m, api.OK
}

func (m *model) works() {
	for _, k := range m.neighbours {
		if m.ends[k].Resets() > m.resets[k] {
			m.desk.Reset(k)
		}
		m.resets[k] = m.ends[k].Resets()
	}
	if !m.custody.Failed() {
		var via, up []int
		for dest := range nodes {
			if k, there := m.table.Next(dest); there {
				via = append(via, k)
			} else {
				via = append(via, -1)
			}
		}
		for _, k := range m.neighbours {
			if m.ends[k].Up() {
				up = append(up, k)
			}
		}
		for _, o := range m.desk.Plan(m.custody.Held(), via, up) {
			p, _ := hop.Put(api.Hop{Kind: 1, N: o.N, Msg: o.Msg})
			if m.ends[o.To].Push(p) != api.OK {
				m.desk.Back(o.Msg.Id)
			}
		}
	}
	for _, k := range m.neighbours {
		for _, c := range m.ends[k].Out() {
			p, _ := control.Put(c)
			f, _ := hdlc.Encode(p)
			m.goesOut[k] = append(m.goesOut[k], f...)
		}
	}
}

// word looks at a word from a neighbour.
func (m *model) word(from int, p []byte) {
	h, e := hop.Get(p)
	if e != api.OK {
		m.bad++
		return
	}
	i := h.Msg.Id
	answer := 0
	switch {
	case h.Kind == 1 && i.Dest == m.self && m.custody.Seen(i):
		answer = 2
	case h.Kind == 1 && i.Dest == m.self:
		switch m.custody.Deliver(i) {
		case api.OK:
			m.delivered = append(m.delivered, h.Msg)
			answer = 2
		case api.ErrTwice:
			answer = 2
		default:
			answer = 3
		}
	case h.Kind == 1:
		_, held := m.custody.Find(i)
		switch {
		case held && m.desk.Is(i):
			answer = 3
		case held:
			answer = 2
		case m.custody.Hold(h.Msg) == api.OK:
			answer = 2
		default:
			answer = 3
		}
	case h.Kind == 2:
		if m.desk.Ack(from, h.N, i) {
			m.custody.Release(i)
		}
	case h.Kind == 3:
		m.desk.Refuse(from, h.N, i)
	case h.Kind == 4:
		m.table.Hear(from, h.Costs)
	}
	if answer != 0 && !m.custody.Failed() {
		p, _ := hop.Put(api.Hop{Kind: answer, N: h.N, Msg: api.Msg{Id: i}})
		m.ends[from].Push(p)
	}
}

func (m *model) submit(dest int, data []byte) (api.Id, api.Errno) {
	if m.custody.Failed() {
		return api.Id{}, api.ErrDown
	}
	i, e := m.custody.Submit(dest, data)
	m.works()
	return i, e
}

func (m *model) tick() api.Errno {
	if m.custody.Failed() {
		return api.ErrDown
	}
	m.ticks++
	m.table.Tick()
	for _, k := range m.neighbours {
		m.ends[k].Tick()
	}
	m.desk.Tick()
	if m.ticks%m.s.Timer == 0 {
		for _, k := range m.neighbours {
			if m.ends[k].Up() {
				p, _ := hop.Put(api.Hop{Kind: 4, Costs: m.table.Vector(k)})
				m.ends[k].Push(p)
			}
		}
	}
	m.works()
	return api.OK
}

func (m *model) receive(from int, p []byte) api.Errno {
	if m.custody.Failed() {
		return api.ErrDown
	}
	if !slices.Contains(m.neighbours, from) {
		return api.ErrNone
	}
	for _, content := range m.decoders[from].Feed(p) {
		c, e := control.Get(content)
		if e != api.OK {
			m.bad++
			continue
		}
		m.ends[from].Receive(c)
		for _, p := range m.ends[from].In() {
			if !m.custody.Failed() {
				m.word(from, p)
			}
		}
	}
	m.works()
	if m.custody.Failed() {
		return api.ErrDown
	}
	return api.OK
}

func (m *model) compact() api.Errno {
	if m.custody.Failed() {
		return api.ErrDown
	}
	e := m.custody.Compact()
	m.works()
	return e
}

func (m *model) route(dest, via int) api.Errno {
	if m.custody.Failed() {
		return api.ErrDown
	}
	e := m.table.Set(dest, via)
	m.works()
	return e
}

func (m *model) take(to int) []byte {
	if to < 0 || to >= nodes {
		return nil
	}
	p := m.goesOut[to]
	m.goesOut[to] = nil
	return p
}

// twin is a node, and what it should be, each on a disk of its own; and those at the other sides of its links.
type twin struct {
	t          *testing.T
	rnd        *rand.Rand
	neighbours []int
	s          api.Settings
	n          *node.Node
	m          *model
	d, dm      *disk.Disk
	sides      map[int]*side
	power      int              // how often a side's power came
	offers     [nodes][]api.Hop // what each side was offered
	n0         int              // the next number of an offer of a side's
	silent     bool             // sides seldom say anything
}

// both does something to both disks.
func (w *twin) both(do func(d *disk.Disk) api.Errno) {
	w.t.Helper()
	answers(w.t, do(w.d), do(w.dm))
}

// open begins both anew, and asks that they answer the same.
func (w *twin) open() bool {
	w.t.Helper()
	n, e := node.New(self, w.neighbours, w.d, w.s)
	m, want := newModel(self, w.neighbours, w.dm, w.s)
	if e != want || (n != nil) != (m != nil) {
		w.t.Fatalf("New: %v, %d; not %d", n != nil, e, want)
	}
	if n == nil {
		return false
	}
	w.n, w.m = n, m
	return true
}

// revive gives both disks power, and begins both anew till that is done.
func (w *twin) revive() {
	w.t.Helper()
	w.both(func(d *disk.Disk) api.Errno { return d.Limit(mostDisk) })
	for {
		keep := []int{w.rnd.Intn(40), w.rnd.Intn(40), w.rnd.Intn(40), w.rnd.Intn(40)}
		w.both(func(d *disk.Disk) api.Errno { return d.Crash(keep) })
		if n := w.rnd.Intn(12); n < 3 {
			w.both(func(d *disk.Disk) api.Errno { return d.Arm(n) })
		}
		if w.open() {
			return
		}
	}
}

func (w *twin) side(number int) {
	w.t.Helper()
	end, e := link.New(256*w.power, w.s.Window, 1+w.rnd.Intn(6), 1+w.rnd.Intn(3))
	ok(w.t, e)
	w.power++
	w.sides[number] = &side{end: end, decoder: hdlc.New()}
}

// any answers one of the neighbours, seldom somebody else.
func (w *twin) any() int {
	if len(w.neighbours) == 0 || w.rnd.Intn(40) == 0 {
		return []int{-1, self, nodes, 0, 5, 63}[w.rnd.Intn(6)]
	}
	return w.neighbours[w.rnd.Intn(len(w.neighbours))]
}

// anyId answers an id, most often one that is held, or one of a few.
func (w *twin) anyId() api.Id {
	if held := w.m.custody.Held(); len(held) > 0 && w.rnd.Intn(3) == 0 {
		return held[w.rnd.Intn(len(held))].Id
	}
	i := api.Id{Origin: w.rnd.Intn(8), Dest: []int{self, self, self, 1, 2, 5, 6, 63}[w.rnd.Intn(8)], Epoch: 1 + w.rnd.Intn(3), Counter: 1 + w.rnd.Intn(9)}
	if i.Origin == i.Dest {
		i.Origin = 9
	}
	return i
}

// anyWord answers a word for the node to hear from a side.
func (w *twin) anyWord(from int) []byte {
	h := api.Hop{Kind: 1 + w.rnd.Intn(4), Msg: api.Msg{Id: w.anyId()}, N: w.n0}
	offered := w.offers[from]
	switch h.Kind {
	case api.HOffer:
		w.n0 = (w.n0 + 1) % 65536
		h.Msg.Data = []byte(long(1 + w.rnd.Intn(mostPayload)))
	case api.HAck, api.HRefuse:
		if len(offered) == 0 {
			h.N = w.rnd.Intn(5)
			break
		}
		was := offered[max(0, len(offered)-1-w.rnd.Intn(6))]
		h.Msg.Id, h.N = was.Msg.Id, was.N
		if w.rnd.Intn(9) == 0 {
			h.N = max(0, h.N-w.rnd.Intn(3))
		}
	case api.HRoutes:
		h = tells(from, 0, w.rnd.Intn(nodes), w.rnd.Intn(17), []int{1, 2, 5, 6}[w.rnd.Intn(4)], w.rnd.Intn(17), 63, w.rnd.Intn(20)%17)
	}
	p, e := hop.Put(h)
	ok(w.t, e)
	if w.rnd.Intn(40) == 0 {
		p[0] ^= byte(1 << w.rnd.Intn(8)) // a word, or none
	}
	return p
}

// receives lets both receive the same, and asks that they answer the same.
func (w *twin) receives(from int, p []byte) {
	w.t.Helper()
	answers(w.t, w.n.Receive(from, bytes.Clone(p)), w.m.receive(from, p))
}

// poorly answers p as it comes from a poor line.
func (w *twin) poorly(p []byte) []byte {
	p = bytes.Clone(p)
	for w.rnd.Intn(8) == 0 && len(p) > 0 {
		at := w.rnd.Intn(len(p))
		switch w.rnd.Intn(4) {
		case 0:
			p[at] ^= byte(1 + w.rnd.Intn(255))
		case 1:
			p = slices.Delete(p, at, min(len(p), at+1+w.rnd.Intn(30)))
		case 2:
			p = slices.Insert(p, at, byte(w.rnd.Intn(256)))
		case 3:
			p = append(p, p...)
		}
	}
	return p
}

// carry takes what goes out to a side, and lets it have that, but where it is lost.
func (w *twin) carry(to int) {
	w.t.Helper()
	p, want := w.n.Take(to), w.m.take(to)
	if !bytes.Equal(p, want) {
		w.t.Fatalf("to %d goes out % x\nnot % x", to, p, want)
	}
	x := w.sides[to]
	if x == nil || w.rnd.Intn(12) == 0 {
		return
	}
	for _, content := range x.decoder.Feed(w.poorly(p)) {
		c, e := control.Get(content)
		if e != api.OK {
			continue
		}
		x.end.Receive(c)
		for _, p := range x.end.In() {
			if h, e := hop.Get(p); e == api.OK && h.Kind == api.HOffer {
				w.offers[to] = append(w.offers[to], h)
			}
		}
	}
}

// speak lets a side say something.
func (w *twin) speak(from int) {
	w.t.Helper()
	x := w.sides[from]
	if x == nil {
		w.receives(from, frame([]byte("x")))
		return
	}
	for range w.rnd.Intn(4) {
		x.end.Push(w.anyWord(from))
	}
	if w.rnd.Intn(30) == 0 {
		x.end.Push([]byte("no word"))
	}
	p := w.poorly(frames(x.end.Out()))
	if w.rnd.Intn(30) == 0 {
		p = append(p, frame([]byte("no control"))...)
	}
	cut := w.rnd.Intn(len(p) + 1)
	if w.rnd.Intn(2) == 0 {
		cut = 0
	}
	w.receives(from, p[:cut])
	w.receives(from, p[cut:])
}

// step does one call on both, and asks that they answer the same.
func (w *twin) step() {
	w.t.Helper()
	who := w.any()
	kind := w.rnd.Intn(40)
	if w.silent && kind > 25 && w.rnd.Intn(10) > 0 {
		kind = w.rnd.Intn(12)
	}
	switch {
	case kind < 9:
		dest, data := []int{1, 2, 5, 6, 63, self, -1, nodes}[w.rnd.Intn(8)], []byte(long(w.rnd.Intn(8)*w.rnd.Intn(8)))
		i, e := w.n.Submit(dest, data)
		if want, wantE := w.m.submit(dest, data); i != want || e != wantE {
			w.t.Fatalf("Submit(%d, %q): %v, %d; not %v, %d", dest, data, i, e, want, wantE)
		}
	case kind < 14:
		for range 1 + w.rnd.Intn(3) {
			answers(w.t, w.n.Tick(), w.m.tick())
			if x := w.sides[who]; x != nil {
				x.end.Tick()
			}
		}
	case kind < 16:
		dest, via := w.rnd.Intn(nodes+2)-1, who
		if w.rnd.Intn(2) == 0 {
			dest, via = []int{1, 2, 5, 6, 63}[w.rnd.Intn(5)], -1
		}
		answers(w.t, w.n.Route(dest, via), w.m.route(dest, via))
	case kind < 17:
		answers(w.t, w.n.Compact(), w.m.compact())
	case kind < 26:
		w.carry(who)
	case kind < 39:
		w.speak(who)
	default:
		w.disturb(who)
	}
}

// disturb does to both disks, or to a side, what does not hang on the node.
func (w *twin) disturb(who int) {
	w.t.Helper()
	n := w.rnd.Intn(6)
	switch w.rnd.Intn(7) {
	case 0:
		w.both(func(d *disk.Disk) api.Errno { return d.Arm(n) })
	case 1:
		w.both(func(d *disk.Disk) api.Errno { return d.Limit(d.Used() + 10*n) })
	case 2, 3:
		w.both(func(d *disk.Disk) api.Errno { return d.Limit(mostDisk) })
	case 4:
		if w.rnd.Intn(3) == 0 {
			w.revive()
		}
	default:
		if w.sides[who] != nil {
			w.side(who)
		}
	}
}

// check asks that both tell the same.
func (w *twin) check() {
	w.t.Helper()
	m := w.m
	if got, want := fmt.Sprint(w.n.State()), fmt.Sprint(m.custody.State()); got != want {
		w.t.Fatalf("the state is %s; not %s", got, want)
	}
	if w.n.Bad() != m.bad || w.n.Down() != m.custody.Failed() {
		w.t.Fatalf("bad %d, down %t; not %d, %t", w.n.Bad(), w.n.Down(), m.bad, m.custody.Failed())
	}
	for n := -1; n <= nodes; n++ {
		if up := slices.Contains(w.neighbours, n) && m.ends[n].Up(); w.n.Up(n) != up || w.n.Cost(n) != m.table.Cost(n) {
			w.t.Fatalf("%d: up %t, costs %d; not %t, %d", n, w.n.Up(n), w.n.Cost(n), up, m.table.Cost(n))
		}
	}
	if w.rnd.Intn(3) == 0 {
		got, want := w.n.Delivered(), m.delivered
		m.delivered = nil
		if !slices.EqualFunc(got, want, func(a, b api.Msg) bool { return a.Id == b.Id && bytes.Equal(a.Data, b.Data) }) {
			w.t.Fatalf("delivered %q; not %q", texts(got), texts(want))
		}
	}
	if got, want := onDisk(w.t, w.d), onDisk(w.t, w.dm); got != want {
		w.t.Fatalf("the disk is %s; not %s", got, want)
	}
}

// down lets both be down for some calls, and then begins them anew.
func (w *twin) whileDown() {
	w.t.Helper()
	for range 10 {
		w.step()
		w.check()
	}
	for _, k := range w.neighbours {
		w.carry(k)
	}
	w.revive()
	w.check()
}

func newTwin(t *testing.T, seed int) *twin {
	t.Helper()
	rnd := rand.New(rand.NewSource(int64(seed)))
	d, e := disk.New(mostDisk)
	ok(t, e)
	w := &twin{t: t, rnd: rnd, d: d, dm: d.Fork(), sides: map[int]*side{}, silent: seed%4 == 3}
	w.neighbours = [][]int{{1, 2, 6}, {2}, {0, 1, 2, 5, 6, 63}, {1, 5}, {}}[seed%5]
	w.s = api.Settings{
		Quota: api.Quota{Held: 1 + rnd.Intn(20), Bytes: 40 + rnd.Intn(400), Gaps: rnd.Intn(8)},
		Disk:  mostDisk, Segment: 16 + rnd.Intn(300),
		Window: 1 + rnd.Intn(8), Timer: 1 + rnd.Intn(6), Tries: 1 + rnd.Intn(4), Wait: 1 + rnd.Intn(6),
	}
	if seed%3 == 0 {
		w.s.Quota = api.Quota{Held: mostHeld, Bytes: mostDisk, Gaps: mostGaps}
		w.s.Segment = 1 << 14
	}
	if w.silent {
		w.s.Timer, w.s.Tries = mostTimer, mostTimer
	}
	if !w.open() {
		t.Fatal("it can't begin")
	}
	for _, k := range w.neighbours {
		w.side(k)
	}
	return w
}

// P21.1 to P21.3, of any calls
func TestAnyCalls(t *testing.T) {
	told := 0
	for seed := range 60 {
		w := newTwin(t, seed)
		for range 500 {
			w.step()
			w.check()
			if w.n.Down() {
				w.whileDown()
			}
		}
		for _, l := range w.offers {
			told += len(l)
		}
	}
	if told < 1000 {
		t.Fatalf("only %d offers went out", told)
	}
}

// What a call answers hangs on the calls ahead alone: the same ones make the same node, and the same disk.
func TestTheSameCallsMakeTheSame(t *testing.T) {
	for seed := range 20 {
		was := ""
		for n := range 3 {
			w := newTwin(t, seed)
			for range 200 {
				w.step()
				if w.n.Down() {
					w.whileDown()
				}
			}
			got := view(w.n) + onDisk(t, w.d)
			if n == 0 {
				was = got
			}
			alike(t, fmt.Sprintf("seed %d", seed), got, was)
		}
	}
}
