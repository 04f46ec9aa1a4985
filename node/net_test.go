package node_test

import (
	"bytes"
	"fmt"
	"math/rand"
	"slices"
	"testing"

	"portage/api"
	"portage/custody"
	"portage/disk"
	"portage/node"
)

// net are several nodes, and lines between them on which bytes are lost, turned, doubled and late.
type net struct {
	t     *testing.T
	rnd   *rand.Rand
	s     api.Settings
	links [][2]int
	nodes []*node.Node // nil: off
	disks []*disk.Disk
	lines map[[2]int][]passing
	round int
	poor  bool // of 100 pieces so many are lost, turned, doubled, late

	given     map[string]bool // what was submitted; some of it was refused, or the power went meanwhile
	accepted  map[api.Id]string
	delivered map[api.Id]bool
	refused   int
}

// passing is a piece of bytes on its way, till the round of that number.
type passing struct {
	p   []byte
	due int
}

func newNet(t *testing.T, rnd *rand.Rand, size int, s api.Settings) *net {
	t.Helper()
	w := &net{t: t, rnd: rnd, s: s, lines: map[[2]int][]passing{}, given: map[string]bool{}, accepted: map[api.Id]string{}, delivered: map[api.Id]bool{}}
	for b := 1; b < size; b++ { // connected, and some more links
		for a := range b {
			if a == b-1 || rnd.Intn(3) == 0 {
				w.links = append(w.links, [2]int{a, b})
			}
		}
	}
	for n := range size {
		w.disks = append(w.disks, newDisk(t))
		w.nodes = append(w.nodes, nil)
		w.begin(n)
	}
	return w
}

func (w *net) neighbours(n int) []int {
	var out []int
	for _, l := range w.links {
		if l[0] == n {
			out = append(out, l[1])
		}
		if l[1] == n {
			out = append(out, l[0])
		}
	}
	slices.Sort(out)
	return out
}

// begin lets a node begin, if its disk allows that.
func (w *net) begin(n int) {
	w.t.Helper()
	x, e := node.New(n, w.neighbours(n), w.disks[n], w.s)
	switch e {
	case api.OK:
		w.nodes[n] = x
	case api.ErrDown:
		w.crash(n)
	default:
		w.t.Fatalf("New: %d", e)
	}
}

// crash lets a node's power go, and what is on its lines; some of what was not safe is kept.
func (w *net) crash(n int) {
	w.t.Helper()
	w.nodes[n] = nil
	ok(w.t, w.disks[n].Crash([]int{w.rnd.Intn(50), w.rnd.Intn(50), w.rnd.Intn(50)}))
	ok(w.t, w.disks[n].Limit(mostDisk))
	for way := range w.lines {
		if way[0] == n || way[1] == n {
			delete(w.lines, way)
		}
	}
}

// after sees to what a call has done to a node: its power may have gone; bytes go out; messages were delivered.
func (w *net) after(n int) {
	w.t.Helper()
	x := w.nodes[n]
	if x == nil {
		return
	}
	for _, m := range x.Delivered() {
		if m.Id.Dest != n || !w.wasGiven(m) || w.delivered[m.Id] {
			w.t.Fatalf("%v %q is delivered at %d; twice: %t", m.Id, m.Data, n, w.delivered[m.Id])
		}
		w.delivered[m.Id] = true
	}
	if x.Down() {
		w.crash(n)
		return
	}
	for _, to := range w.neighbours(n) {
		if p := x.Take(to); p != nil {
			w.put(n, to, p)
		}
	}
}

// put lays bytes on a line.
func (w *net) put(from, to int, p []byte) {
	way := [2]int{from, to}
	piece := passing{p, w.round + w.s.Delay}
	if !w.poor {
		w.lines[way] = append(w.lines[way], piece)
		return
	}
	switch w.rnd.Intn(20) {
	case 0: // lost
	case 1:
		piece.p = w.cut(p)
		w.lines[way] = append(w.lines[way], piece)
	case 2: // doubled
		w.lines[way] = append(w.lines[way], piece, piece)
	case 3: // late, and in the midst of others
		piece.due += w.rnd.Intn(4)
		w.lines[way] = append(w.lines[way], piece)
	default:
		w.lines[way] = append(w.lines[way], piece)
	}
}

// cut answers p with some bytes turned, or without some.
func (w *net) cut(p []byte) []byte {
	p = bytes.Clone(p)
	at := w.rnd.Intn(len(p))
	if w.rnd.Intn(2) == 0 {
		p[at] ^= byte(1 + w.rnd.Intn(255))
		return p
	}
	return slices.Delete(p, at, min(len(p), at+1+w.rnd.Intn(20)))
}

// move lets all that is due come.
func (w *net) move() {
	w.t.Helper()
	w.round++
	for _, l := range w.links {
		for _, way := range [][2]int{l, {l[1], l[0]}} {
			var come, left []passing
			for _, p := range w.lines[way] {
				if p.due < w.round {
					come = append(come, p)
				} else {
					left = append(left, p)
				}
			}
			w.lines[way] = left
			for _, p := range come {
				if x := w.nodes[way[1]]; x != nil {
					if e := x.Receive(way[0], p.p); (e == api.ErrDown) != x.Down() || e != api.OK && e != api.ErrDown {
						w.t.Fatalf("Receive: %d", e)
					}
					w.after(way[1])
				}
			}
		}
	}
}

func (w *net) tick() {
	w.t.Helper()
	for n, x := range w.nodes {
		if x != nil {
			ok(w.t, x.Tick())
			w.after(n)
		}
	}
}

func (w *net) submit(from, to int) {
	w.t.Helper()
	x := w.nodes[from]
	if x == nil || from == to {
		return
	}
	data := fmt.Sprint(from, to, w.round, w.rnd.Intn(1000))
	w.given[data] = true
	i, e := x.Submit(to, []byte(data))
	if e == api.OK {
		if _, again := w.accepted[i]; again {
			w.t.Fatalf("%v is told again", i)
		}
		w.accepted[i] = data
	} else {
		w.refused++
	}
	w.after(from)
}

// wasGiven answers whether somebody submitted m. What was not accepted, as the power went meanwhile, may be held all the same.
func (w *net) wasGiven(m api.Msg) bool {
	if data, ok := w.accepted[m.Id]; ok {
		return data == string(m.Data)
	}
	var from, to int
	_, e := fmt.Sscan(string(m.Data), &from, &to)
	return w.given[string(m.Data)] && e == nil && m.Id.Origin == from && m.Id.Dest == to
}

// disturb does something to a node.
func (w *net) disturb(n int) {
	w.t.Helper()
	switch x := w.nodes[n]; {
	case x == nil:
		w.begin(n)
		w.after(n)
	case w.disks[n].Down() || w.rnd.Intn(3) == 0:
		w.crash(n)
	case w.rnd.Intn(3) == 0:
		ok(w.t, w.disks[n].Arm(w.rnd.Intn(6)))
	case w.rnd.Intn(3) == 0:
		ok(w.t, w.disks[n].Limit(w.disks[n].Used()+w.rnd.Intn(60)))
	default:
		x.Compact()
		w.after(n)
	}
}

// safe answers what a custody has that is opened on what of a node's disk is safe.
func (w *net) safe(n int) api.State {
	w.t.Helper()
	d := w.disks[n].Fork()
	ok(w.t, d.Crash(nil))
	ok(w.t, d.Limit(mostDisk))
	c, e := custody.Open(d, n, w.s.Quota, w.s.Segment)
	ok(w.t, e)
	return c.State()
}

// checkSafe asks that each message that was accepted is delivered, or held, by what is safe somewhere.
func (w *net) checkSafe() {
	w.t.Helper()
	held := map[api.Id]bool{}
	var states []api.State
	for n := range w.nodes {
		st := w.safe(n)
		for _, m := range st.Held {
			if !w.wasGiven(m) {
				w.t.Fatalf("%d holds %v %q", n, m.Id, m.Data)
			}
			held[m.Id] = true
		}
		states = append(states, st)
	}
	for i := range w.accepted {
		if !held[i] && !arrived(states[i.Dest], i) {
			w.t.Fatalf("%v is lost", i)
		}
	}
	for i := range w.delivered {
		if !arrived(states[i.Dest], i) {
			w.t.Fatalf("that %v was delivered is lost", i)
		}
	}
}

// arrived answers whether a state says that i was delivered.
func arrived(st api.State, i api.Id) bool {
	return slices.ContainsFunc(st.Seen, func(m api.Mark) bool {
		return m.Origin == i.Origin && m.Epoch == i.Epoch && (i.Counter <= m.Upto || slices.Contains(m.More, i.Counter))
	})
}

// missing answers how many that were accepted have not arrived. (One may have that nobody told of: the power went at that very word, and what it wrote was kept.)
func (w *net) missing() int {
	out := 0
	for i := range w.accepted {
		if x := w.nodes[i.Dest]; x == nil || !arrived(x.State(), i) {
			out++
		}
	}
	return out
}

// held answers how many messages are held anywhere.
func (w *net) held() int {
	out := 0
	for _, x := range w.nodes {
		out += len(x.State().Held)
	}
	return out
}

// calm lets all nodes be up, and clocks and lines go on, till nobody holds anything.
func (w *net) calm() {
	w.t.Helper()
	w.poor = false
	for n := range w.nodes {
		ok(w.t, w.disks[n].Limit(mostDisk))
		if w.disks[n].Down() {
			w.crash(n)
		}
		ok(w.t, w.disks[n].Arm(-1))
		if w.nodes[n] == nil {
			w.begin(n)
			w.after(n)
		}
	}
	rounds := 64 + 26*(w.s.Timer+w.s.Delay+4) + 40*(w.s.Wait+2*w.s.Delay+4)
	for n := 0; w.held() > 0; n++ {
		if n > 3*rounds {
			w.t.Fatalf("%d of %d have not arrived, %d are held", w.missing(), len(w.accepted), w.held())
		}
		if n == rounds && w.missing() > 0 {
			w.t.Fatalf("%d of %d have not arrived", w.missing(), len(w.accepted))
		}
		w.tick()
		for range w.s.Delay + 2 {
			w.move()
		}
	}
	if w.missing() > 0 {
		w.t.Fatalf("%d of %d have not arrived", w.missing(), len(w.accepted))
	}
}

// Whatever is lost, doubled, late, whoever loses its power: nothing is lost, nothing comes twice, and in a calm all gets there.
func TestSeveralNodes(t *testing.T) {
	accepted, crashes := 0, 0
	for seed := range 400 {
		rnd := rand.New(rand.NewSource(int64(seed)))
		w := newNet(t, rnd, 2+rnd.Intn(4), api.Settings{
			Quota: api.Quota{Held: mostHeld, Bytes: mostDisk, Gaps: mostGaps},
			Disk:  mostDisk, Segment: 64 + rnd.Intn(4000),
			Window: 1 + rnd.Intn(16), Timer: 2 + rnd.Intn(6), Tries: 1 + rnd.Intn(4), Wait: 1 + rnd.Intn(8), Delay: rnd.Intn(3),
		})
		w.poor = seed%4 > 0
		for n := range 400 {
			size := len(w.nodes)
			switch k := rnd.Intn(30); {
			case k < 1 && w.missing() < 12:
				w.submit(rnd.Intn(size), rnd.Intn(size))
			case k < 10:
				w.tick()
			case k < 12 && seed%8 > 1:
				w.disturb(rnd.Intn(size))
				crashes++
			default:
				w.move()
			}
			if n%20 == 0 {
				w.checkSafe()
			}
		}
		w.calm()
		w.checkSafe()
		accepted += len(w.accepted)
	}
	if accepted < 500 || crashes < 500 {
		t.Fatalf("only %d were accepted, %d disturbances", accepted, crashes)
	}
}

// Routes are found by what neighbours say, and are found anew where a node is off.
func TestRoutesAreFound(t *testing.T) {
	rnd := rand.New(rand.NewSource(1))
	w := newNet(t, rnd, 5, with(func(s *api.Settings) { s.Timer = 2 }))
	w.links = [][2]int{{0, 1}, {0, 4}, {1, 2}, {2, 3}, {3, 4}} // a ring
	for n := range w.nodes {
		w.disks[n] = newDisk(t)
		w.begin(n)
	}
	rounds := func(n int) {
		for range n {
			w.tick()
			w.move()
			w.move()
		}
	}
	rounds(40)
	for a := range 5 {
		for b := range 5 {
			way := (a - b + 5) % 5
			if got := w.nodes[a].Cost(b); got != min(way, 5-way) {
				t.Fatalf("from %d to %d it costs %d", a, b, got)
			}
		}
	}
	w.submit(0, 2)
	rounds(20)
	w.crash(1)
	rounds(3 * mostTimer) // 1 is forgotten, and that it leads to 2
	if got := w.nodes[0].Cost(2); got != 3 {
		t.Fatalf("from 0 to 2 it costs %d", got)
	}
	if got := w.nodes[0].Cost(1); got != far {
		t.Fatalf("from 0 to 1 it costs %d", got)
	}
	w.submit(0, 2)
	w.submit(0, 1)
	rounds(20)
	if len(w.delivered) != 2 || len(w.nodes[0].State().Held) != 1 {
		t.Fatalf("%v are delivered; 0 holds %v", w.delivered, w.nodes[0].State().Held)
	}
	w.calm()
}
