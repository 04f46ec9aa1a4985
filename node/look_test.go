package node_test

import (
	"bytes"
	"fmt"
	"maps"
	"math"
	"slices"
	"strings"
	"testing"

	"portage/api"
	"portage/control"
	"portage/disk"
	"portage/hdlc"
	"portage/hop"
	"portage/link"
	"portage/msg"
	"portage/node"
)

const (
	nodes       = 64      // MaxNodes
	far         = 16      // Infinity
	mostDisk    = 1 << 20 // MaxDisk
	mostHeld    = 256     // MaxHeld
	mostGaps    = 256     // MaxGaps
	mostWindow  = 63      // MaxWindow
	mostTimer   = 64      // MaxTimer
	mostQueue   = 64      // MaxQueue
	mostPayload = 48      // MaxPayload
	mostNumber  = 65535   // MaxNumber
	mostFrame   = 128     // MaxFrame
	mostFiles   = 64      // MaxFiles
)

// self is the node that most tests look at; 1, 2 and 6 are its neighbours.
const self = 3

var around = []int{1, 2, 6}

// beyond are numbers that no node has.
var beyond = []int{math.MinInt, math.MinInt32, -65, -2, -1, nodes, nodes + 1, 128, 256, 1 << 16, math.MaxInt32, math.MaxInt}

// roomy answers settings with room for all that a test may need.
func roomy() api.Settings {
	return api.Settings{
		Quota: api.Quota{Held: mostHeld, Bytes: mostDisk, Gaps: mostGaps},
		Disk:  mostDisk, Segment: 4096,
		Window: 8, Timer: 7, Tries: 3, Wait: 5, Delay: 0,
	}
}

// with answers roomy settings, changed.
func with(change func(s *api.Settings)) api.Settings {
	s := roomy()
	change(&s)
	return s
}

func ok(t *testing.T, e api.Errno) {
	t.Helper()
	answers(t, e, api.OK)
}

func answers(t *testing.T, e, want api.Errno) {
	t.Helper()
	if e != want {
		t.Fatalf("%d; not %d", e, want)
	}
}

// long answers so many bytes.
func long(n int) string {
	return strings.Repeat("0123456789", n/10+1)[:n]
}

// Words, as texts

// id answers the id of that text.
func id(text string) api.Id {
	i, e := msg.Parse(text)
	if e != api.OK {
		panic(text)
	}
	return i
}

func text(i api.Id) string {
	s, _ := msg.Text(i)
	return s
}

func ms(i, data string) api.Msg {
	return api.Msg{Id: id(i), Data: []byte(data)}
}

func offer(n int, i, data string) api.Hop {
	return api.Hop{Kind: api.HOffer, N: n, Msg: ms(i, data)}
}

func ack(n int, i string) api.Hop {
	return api.Hop{Kind: api.HAck, N: n, Msg: api.Msg{Id: id(i)}}
}

func refuse(n int, i string) api.Hop {
	return api.Hop{Kind: api.HRefuse, N: n, Msg: api.Msg{Id: id(i)}}
}

// tells answers routes by pairs of a destination and its cost; all others cost 16.
func tells(pairs ...int) api.Hop {
	costs := slices.Repeat([]int{far}, nodes)
	for p := range slices.Chunk(pairs, 2) {
		costs[p[0]] = p[1]
	}
	return api.Hop{Kind: api.HRoutes, Costs: costs}
}

// word tells a word: its kind, the offer's number, the id, the data; of routes what does not cost 16.
func word(h api.Hop) string {
	switch h.Kind {
	case api.HOffer:
		return fmt.Sprintf("offer %d %s %s", h.N, text(h.Msg.Id), h.Msg.Data)
	case api.HAck:
		return fmt.Sprintf("ack %d %s", h.N, text(h.Msg.Id))
	case api.HRefuse:
		return fmt.Sprintf("refuse %d %s", h.N, text(h.Msg.Id))
	}
	out := "routes"
	for dest, cost := range h.Costs {
		if cost != far {
			out += fmt.Sprintf(" %d:%d", dest, cost)
		}
	}
	return out
}

// told tells a control: its word, its numbers, its P, and the word that is its data.
func told(c api.Ctl) string {
	out := control.Word(c.Kind)
	switch c.Kind {
	case api.CI:
		out += fmt.Sprintf(" %d/%d", c.NS, c.NR)
	case api.CRR, api.CRNR, api.CSREJ:
		out += fmt.Sprintf(" %d", c.NR)
	}
	if c.P {
		out += " p"
	}
	if c.Kind == api.CI {
		h, _ := hop.Get(c.Data)
		out += " " + word(h)
	}
	return out
}

// frames answers the bytes of these controls' frames.
func frames(l []api.Ctl) []byte {
	var out []byte
	for _, c := range l {
		content, e := control.Put(c)
		if e != api.OK {
			panic(fmt.Sprint(c))
		}
		out = append(out, frame(content)...)
	}
	return out
}

func frame(content []byte) []byte {
	p, e := hdlc.Encode(content)
	if e != api.OK {
		panic(fmt.Sprint(content))
	}
	return p
}

// A node among others that the tests play

// side is who stands at the other side of a link of the node's.
type side struct {
	end     *link.Link
	decoder *hdlc.Decoder
	heard   []string // words, since they were asked for
	away    bool     // it is passed over when all is carried there and back
}

// bench is a node on its disk, with a side for each neighbour.
type bench struct {
	t     *testing.T
	d     *disk.Disk
	s     api.Settings
	self  int
	n     *node.Node
	sides map[int]*side
}

func newDisk(t *testing.T) *disk.Disk {
	t.Helper()
	d, e := disk.New(mostDisk)
	ok(t, e)
	return d
}

// alone answers a node on a new disk that has not met anybody yet.
func alone(t *testing.T, s api.Settings, neighbours ...int) *bench {
	t.Helper()
	return on(t, newDisk(t), s, neighbours...)
}

// on answers the node self on that disk.
func on(t *testing.T, d *disk.Disk, s api.Settings, neighbours ...int) *bench {
	t.Helper()
	b := &bench{t: t, d: d, s: s, self: self, sides: map[int]*side{}}
	n, e := node.New(self, neighbours, d, s)
	if n == nil || e != api.OK {
		t.Fatalf("New: %v, %d", n != nil, e)
	}
	b.n = n
	for _, number := range neighbours {
		b.begins(number, 7+number)
	}
	return b
}

// met answers a node on a new disk that all its neighbours have met, and to which they said all that they had to.
func met(t *testing.T, s api.Settings, neighbours ...int) *bench {
	t.Helper()
	b := alone(t, s, neighbours...)
	b.meets(neighbours...)
	return b
}

// usual answers a node that 1, 2 and 6 have met: 1 and 2 said where they are, 2 also the way to 5 and 9, 6 nothing.
func usual(t *testing.T) *bench {
	t.Helper()
	return usualOf(t, roomy())
}

func usualOf(t *testing.T, s api.Settings) *bench {
	t.Helper()
	b := met(t, s, around...)
	b.says(1, tells(1, 0))
	b.says(2, tells(2, 0, 5, 1, 9, 3))
	b.settle()
	return b
}

// begins lets the neighbour of that number begin anew, by that incarnation.
func (b *bench) begins(number, me int) {
	b.t.Helper()
	end, e := link.New(me, b.s.Window, mostTimer, mostTimer)
	ok(b.t, e)
	b.sides[number] = &side{end: end, decoder: hdlc.New()}
}

// meets lets neighbours meet the node.
func (b *bench) meets(numbers ...int) {
	b.t.Helper()
	for _, number := range numbers {
		for range 2 {
			b.take(number)
			ok(b.t, b.back(number))
		}
		if !b.n.Up(number) || !b.sides[number].end.Up() {
			b.t.Fatalf("%d has not met the node", number)
		}
	}
	b.settle()
}

// numbers answers the neighbours, rising.
func (b *bench) numbers() []int {
	return slices.Sorted(maps.Keys(b.sides))
}

// take lets a side have what goes out to it, and answers the controls; nothing else may go out.
func (b *bench) take(to int) []api.Ctl {
	b.t.Helper()
	x := b.sides[to]
	p := b.n.Take(to)
	var out []api.Ctl
	var again []byte
	for _, content := range x.decoder.Feed(p) {
		c, e := control.Get(content)
		ok(b.t, e)
		again = append(again, frame(content)...)
		out = append(out, c)
		ok(b.t, x.end.Receive(c))
	}
	if !bytes.Equal(p, again) {
		b.t.Fatalf("% x goes out; not % x", p, again)
	}
	for _, p := range x.end.In() {
		h, e := hop.Get(p)
		ok(b.t, e)
		x.heard = append(x.heard, word(h))
	}
	return out
}

// back lets the node receive what a side has sent, in one call.
func (b *bench) back(from int) api.Errno {
	return b.n.Receive(from, b.sent(from))
}

// sent answers the bytes that a side has sent.
func (b *bench) sent(from int) []byte {
	return frames(b.sides[from].end.Out())
}

// pushes lets a side send words, which do not come to the node yet.
func (b *bench) pushes(from int, words ...api.Hop) {
	b.t.Helper()
	for _, h := range words {
		p, e := hop.Put(h)
		ok(b.t, e)
		ok(b.t, b.sides[from].end.Push(p))
	}
}

// says lets a side say words to the node, in one call.
func (b *bench) says(from int, words ...api.Hop) {
	b.t.Helper()
	ok(b.t, b.say(from, words...))
}

func (b *bench) say(from int, words ...api.Hop) api.Errno {
	b.t.Helper()
	b.pushes(from, words...)
	return b.back(from)
}

// settle carries all there and back till nothing is left.
func (b *bench) settle() {
	b.t.Helper()
	for range 100 {
		quiet := true
		for _, number := range b.numbers() {
			if b.sides[number].away {
				continue
			}
			quiet = len(b.take(number)) == 0 && quiet
			if p := b.sent(number); len(p) > 0 {
				quiet = false
				ok(b.t, b.n.Receive(number, p))
			}
		}
		if quiet {
			return
		}
	}
	b.t.Fatal("it does not come to rest")
}

// hears asks which words a side has heard since the last time, once all is quiet.
func (b *bench) hears(to int, want ...string) {
	b.t.Helper()
	b.settle()
	b.heard(to, want...)
}

func (b *bench) heard(to int, want ...string) {
	b.t.Helper()
	got := b.sides[to].heard
	b.sides[to].heard = nil
	if !slices.Equal(got, want) {
		b.t.Fatalf("%d hears %q; not %q", to, got, want)
	}
}

// nobodyHears asks that no side has heard anything since the last time.
func (b *bench) nobodyHears() {
	b.t.Helper()
	for _, number := range b.numbers() {
		b.hears(number)
	}
}

// goesOut asks which controls go out to a side just now.
func (b *bench) goesOut(to int, want ...string) {
	b.t.Helper()
	var got []string
	for _, c := range b.take(to) {
		got = append(got, told(c))
	}
	if !slices.Equal(got, want) {
		b.t.Fatalf("to %d goes out %q; not %q", to, got, want)
	}
}

// ticks lets so many ticks pass at the node.
func (b *bench) ticks(n int) {
	b.t.Helper()
	for range n {
		ok(b.t, b.n.Tick())
	}
}

// submits gives a message to the node, which accepts it by that id.
func (b *bench) submits(dest int, data, want string) {
	b.t.Helper()
	if i, e := b.n.Submit(dest, []byte(data)); e != api.OK || i != id(want) {
		b.t.Fatalf("Submit(%d, %q): %v, %d; not %s", dest, data, i, e, want)
	}
}

// delivers asks for what was delivered since the last time.
func (b *bench) delivers(want ...string) {
	b.t.Helper()
	if got := texts(b.n.Delivered()); !slices.Equal(got, want) {
		b.t.Fatalf("delivered: %q; not %q", got, want)
	}
}

// holds asks for what is held, in order.
func (b *bench) holds(want ...string) {
	b.t.Helper()
	if got := texts(b.n.State().Held); !slices.Equal(got, want) {
		b.t.Fatalf("held: %q; not %q", got, want)
	}
}

// safelyHolds asks for what is held, in order, by what of the disk is safe.
func (b *bench) safelyHolds(want ...string) {
	b.t.Helper()
	if got := texts(b.safe().Held); !slices.Equal(got, want) {
		b.t.Fatalf("safely held: %q; not %q", got, want)
	}
}

// texts tells messages: each one's id and data.
func texts(l []api.Msg) []string {
	var out []string
	for _, m := range l {
		out = append(out, fmt.Sprintf("%s %s", text(m.Id), m.Data))
	}
	return out
}

// safe answers the state of a node that is opened on what of the disk is safe.
func (b *bench) safe() api.State {
	b.t.Helper()
	d := b.d.Fork()
	ok(b.t, d.Limit(mostDisk))
	ok(b.t, d.Crash(nil))
	n, e := node.New(b.self, b.numbers(), d, b.s)
	ok(b.t, e)
	return n.State()
}

// Seen from outside

// onDisk tells the files of a disk, and how much of each is safe.
func onDisk(t *testing.T, d *disk.Disk) string {
	t.Helper()
	var out strings.Builder
	all := d.Fork()
	ok(t, all.Crash(slices.Repeat([]int{math.MaxInt}, mostFiles)))
	for _, name := range d.Names() {
		p, e := all.Read(name)
		ok(t, e)
		fmt.Fprintf(&out, "%s: %x, %d safe; ", name, p, d.Safe(name))
	}
	fmt.Fprintf(&out, "down %t", d.Down())
	return out.String()
}

// view tells all that a node tells without a change, and its disk.
func (b *bench) view() string {
	b.t.Helper()
	return view(b.n) + onDisk(b.t, b.d) + "\n"
}

func view(n *node.Node) string {
	var out strings.Builder
	fmt.Fprint(&out, n.State(), "\nup")
	for _, number := range append(rising(nodes), beyond...) {
		if n.Up(number) {
			fmt.Fprint(&out, " ", number)
		}
	}
	fmt.Fprint(&out, ", costs")
	for _, dest := range append(rising(nodes), beyond...) {
		if cost := n.Cost(dest); cost != far {
			fmt.Fprintf(&out, " %d:%d", dest, cost)
		}
	}
	fmt.Fprintf(&out, ", bad %d, down %t\n", n.Bad(), n.Down())
	return out.String()
}

// rising answers the numbers from 0 on.
func rising(n int) []int {
	out := make([]int, n)
	for i := range out {
		out[i] = i
	}
	return out
}

// becomes tells what comes of a node and its sides: now, and as time goes on.
func (b *bench) becomes() string {
	b.t.Helper()
	var out strings.Builder
	out.WriteString(b.view())
	for _, number := range b.numbers() {
		p := b.n.Take(number)
		fmt.Fprintf(&out, "to %d: %x\n", number, p)
		b.back(number) // that was lost
	}
	fmt.Fprintln(&out, texts(b.n.Delivered()))
	for n := range 3 * mostTimer {
		fmt.Fprint(&out, b.n.Tick(), " ")
		if n%9 == 0 {
			i, e := b.n.Submit([]int{1, 2, 5, 9}[n/9%4], []byte{byte(n)})
			fmt.Fprint(&out, i, e, " ")
		}
		for _, number := range b.numbers() {
			for _, c := range b.take(number) {
				fmt.Fprint(&out, number, " ", told(c), "; ")
			}
			b.sides[number].end.Tick()
			fmt.Fprint(&out, b.back(number), "; ")
		}
	}
	fmt.Fprintln(&out, texts(b.n.Delivered()))
	out.WriteString(b.view())
	return out.String()
}

// called is a call that may be refused, by its text.
type called struct {
	text string
	do   func(b *bench) api.Errno
}

func submitting(dest int, data string) called {
	return called{fmt.Sprintf("Submit(%d, %q)", dest, data), func(b *bench) api.Errno {
		i, e := b.n.Submit(dest, []byte(data))
		if (e != api.OK) != (i == api.Id{}) {
			b.t.Fatalf("%v, %d", i, e)
		}
		return e
	}}
}

func ticking() called {
	return called{"Tick()", func(b *bench) api.Errno { return b.n.Tick() }}
}

func receiving(from int, p string) called {
	return called{fmt.Sprintf("Receive(%d, % x)", from, p), func(b *bench) api.Errno { return b.n.Receive(from, []byte(p)) }}
}

func compacting() called {
	return called{"Compact()", func(b *bench) api.Errno { return b.n.Compact() }}
}

func routing(dest, via int) called {
	return called{fmt.Sprintf("Route(%d, %d)", dest, via), func(b *bench) api.Errno { return b.n.Route(dest, via) }}
}

// leaves asks that calls answer want on the bench that make makes, and that all is as it was, now and later.
func leaves(t *testing.T, make func() *bench, want api.Errno, calls ...called) {
	t.Helper()
	asWas := make().becomes()
	for _, c := range calls {
		b := make()
		if e := c.do(b); e != want {
			t.Fatalf("%s: %d; not %d", c.text, e, want)
		}
		alike(t, "behind "+c.text, b.becomes(), asWas)
	}
}

// alike asks that two texts are the same, and shows where they part.
func alike(t *testing.T, name, got, want string) {
	t.Helper()
	if got == want {
		return
	}
	at := 0
	for at < min(len(got), len(want)) && got[at] == want[at] {
		at++
	}
	about := func(s string) string { return s[max(0, at-100):min(len(s), at+300)] }
	t.Fatalf("%s:\n%s\nnot\n%s", name, about(got), about(want))
}
