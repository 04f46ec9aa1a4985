package snap

import (
	"bytes"
	"encoding/binary"
	"fmt"
	"hash/crc32"
	"math/rand"
	"slices"
	"strings"
	"testing"

	"portage/api"
	"portage/msg"
	"portage/store"
)

const (
	nodes     = 64      // MaxNodes
	most      = 65535   // MaxNumber, and of marks
	mostHeld  = 256     // MaxHeld
	mostBytes = 1 << 20 // MaxDisk
	mostGaps  = 256     // MaxGaps
	payload   = 48      // MaxPayload
	shortest  = 12      // bytes of a state that has nothing
)

// great answers the greatest quota.
func great() api.Quota {
	return api.Quota{Held: mostHeld, Bytes: mostBytes, Gaps: mostGaps}
}

func id(origin, dest, epoch, counter int) api.Id {
	return api.Id{Origin: origin, Dest: dest, Epoch: epoch, Counter: counter}
}

func ms(i api.Id, data string) api.Msg {
	return api.Msg{Id: i, Data: []byte(data)}
}

func next(l ...int) []api.Next {
	var out []api.Next
	for at := 0; at < len(l); at += 2 {
		out = append(out, api.Next{Dest: l[at], Counter: l[at+1]})
	}
	return out
}

func mk(origin, epoch, upto int, more ...int) api.Mark {
	return api.Mark{Origin: origin, Epoch: epoch, Upto: upto, More: more}
}

func marks(l ...api.Mark) []api.Mark {
	return l
}

// long answers so many bytes.
func long(n int) string {
	return strings.Repeat("x", n)
}

// some answers a right state of the node 3 that has some of all.
func some() api.State {
	return api.State{
		Self:  3,
		Epoch: 9,
		Next:  next(0, 4, 2, 1, 63, 65535),
		Held:  []api.Msg{ms(id(3, 2, 9, 1), "a"), ms(id(5, 1, 20, 7), "bcd"), ms(id(3, 2, 8, 6), "ef")},
		Seen:  marks(mk(1, 2, 3, 5, 7), mk(1, 260, 1), mk(63, 1, 0, 9)),
	}
}

// bytesOfSome answers the bytes of some() ahead of the sum, as the chapter's words lay them.
func bytesOfSome() []byte {
	return []byte{
		3,    // Self
		0, 9, // Epoch
		3,       // Next
		0, 0, 4, // Dest, Counter
		2, 0, 1,
		63, 255, 255,
		0, 3, // Held
		7, 3, 2, 0, 9, 0, 1, 'a',
		9, 5, 1, 0, 20, 0, 7, 'b', 'c', 'd',
		8, 3, 2, 0, 8, 0, 6, 'e', 'f',
		0, 3, // Seen
		1, 0, 2, 0, 3, 0, 2, 0, 5, 0, 7, // Origin, Epoch, Upto, how many More, these
		1, 1, 4, 0, 1, 0, 0,
		63, 0, 1, 0, 0, 0, 1, 0, 9,
	}
}

// many answers a state that holds n messages of so many bytes.
func many(n, size int) api.State {
	st := api.State{Self: 3}
	for k := range n {
		st.Held = append(st.Held, ms(id(4+k%7, 1, 1+k/most, 1+k%most), long(size)))
	}
	return st
}

// allNext answers the counters for all destinations of self.
func allNext(self int) []api.Next {
	var l []api.Next
	for dest := range nodes {
		if dest != self {
			l = append(l, next(dest, 1+dest*1000)...)
		}
	}
	return l
}

// gaps answers n numbers from 2 on, each behind a gap.
func gaps(n int) []int {
	var l []int
	for k := range n {
		l = append(l, 2*k+2)
	}
	return l
}

// manyMarks answers a state of the node 3 that has so many marks, without gaps.
func manyMarks(n int) api.State {
	st := api.State{Self: 3}
	for k := range n {
		st.Seen = append(st.Seen, mk(4+k/most, 1+k%most, 1+k%most))
	}
	return st
}

// rightStates answers right states of many kinds.
func rightStates() []api.State {
	return []api.State{
		{},
		{Self: 63},
		{Next: []api.Next{}, Held: []api.Msg{}, Seen: []api.Mark{}},
		{Epoch: 1},
		{Self: 1, Epoch: 256},
		{Epoch: most},
		some(),
		{Self: 1, Epoch: 1, Next: next(0, 1)},
		{Self: 1, Epoch: 1, Next: next(0, most, 63, 1)},
		{Self: 5, Epoch: 1, Next: allNext(5)},
		{Self: 1, Held: []api.Msg{ms(id(0, 2, most, most), long(payload))}},
		{Self: 1, Held: []api.Msg{ms(id(63, 0, 1, 1), "\x00")}},
		{Epoch: 2, Next: next(1, 1), Held: []api.Msg{ms(id(0, 1, 2, 1), "x"), ms(id(0, 1, 1, 1), "x"), ms(id(0, 1, 1, most), "\x07\x00\x01")}},
		{Self: 1, Seen: marks(mk(0, most, most), mk(63, 1, 1))},
		{Self: 1, Seen: marks(mk(0, 1, 0, most))},
		{Self: 1, Seen: marks(mk(0, 1, 0, 2, 3, 4), mk(0, 2, most-2, most))},
		{Self: 1, Seen: marks(mk(0, 1, 0, gaps(mostGaps)...))},
		many(mostHeld, payload),
		many(mostHeld, 1),
	}
}

// a spoiled state is some() that is not right in one way.
type spoiled struct {
	name  string
	spoil func(st *api.State)
}

// spoilt answers each way in which a state may not be right whose numbers all have the bytes in which they stand.
func spoilt() []spoiled {
	set := func(name string, spoil func(st *api.State)) spoiled { return spoiled{name, spoil} }
	return []spoiled{
		set("counters in the epoch 0", func(st *api.State) { st.Epoch, st.Held = 0, nil }),
		set("Next falls", func(st *api.State) { st.Next = next(2, 1, 0, 4) }),
		set("Next has a destination twice", func(st *api.State) { st.Next = next(2, 1, 2, 1) }),
		set("Next has self", func(st *api.State) { st.Next = next(2, 1, 3, 1) }),
		set("Next has the node 64", func(st *api.State) { st.Next[2].Dest = 64 }),
		set("Next has the node 255", func(st *api.State) { st.Next[2].Dest = 255 }),
		set("Next has the counter 0", func(st *api.State) { st.Next[0].Counter = 0 }),
		set("all 64 nodes in Next", func(st *api.State) { st.Next = slices.Insert(allNext(3), 3, next(3, 1)...) }),
		set("a message without Data", func(st *api.State) { st.Held[1].Data = nil }),
		set("a message of 49 bytes", func(st *api.State) { st.Held[1].Data = []byte(long(payload + 1)) }),
		set("a message of 249 bytes", func(st *api.State) { st.Held[1].Data = []byte(long(249)) }),
		set("a message of the origin 64", func(st *api.State) { st.Held[1].Id.Origin = 64 }),
		set("a message for the node 64", func(st *api.State) { st.Held[1].Id.Dest = 64 }),
		set("a message of the epoch 0", func(st *api.State) { st.Held[1].Id.Epoch = 0 }),
		set("a message of the counter 0", func(st *api.State) { st.Held[1].Id.Counter = 0 }),
		set("a message for its origin", func(st *api.State) { st.Held[1].Id.Dest = 5 }),
		set("a message for self", func(st *api.State) { st.Held[1].Id.Dest = 3 }),
		set("an id twice, the same Data", func(st *api.State) { st.Held[2] = st.Held[1] }),
		set("an id twice, other Data", func(st *api.State) { st.Held[2].Id = st.Held[1].Id }),
		set("a message of self's next epoch", func(st *api.State) { st.Held[2].Id.Epoch = 10 }),
		set("a message of self's last epoch", func(st *api.State) { st.Held[2].Id.Epoch = most }),
		set("a counter that Next has not reached", func(st *api.State) { st.Held[0].Id.Counter = 2 }),
		set("a counter that Next does not have", func(st *api.State) { st.Next = next(0, 4, 63, most) }),
		set("a mark of the origin 64", func(st *api.State) { st.Seen[2].Origin = 64 }),
		set("a mark of the origin 255", func(st *api.State) { st.Seen[2].Origin = 255 }),
		set("a mark of self", func(st *api.State) { st.Seen[2].Origin = 3 }),
		set("a mark of the epoch 0", func(st *api.State) { st.Seen[0].Epoch = 0 }),
		set("a mark of nothing", func(st *api.State) { st.Seen[1].Upto = 0 }),
		set("More has 0", func(st *api.State) { st.Seen[0].More = []int{0, 7} }),
		set("More has what Upto has", func(st *api.State) { st.Seen[0].More = []int{3, 7} }),
		set("More has the one behind Upto", func(st *api.State) { st.Seen[0].More = []int{4, 7} }),
		set("More has 1, and Upto is 0", func(st *api.State) { st.Seen[2].More = []int{1} }),
		set("More falls", func(st *api.State) { st.Seen[0].More = []int{7, 5} }),
		set("More has one twice", func(st *api.State) { st.Seen[0].More = []int{5, 5} }),
		set("More behind the last number", func(st *api.State) { st.Seen[0].Upto = most }),
		set("marks' origins fall", func(st *api.State) { st.Seen = marks(mk(2, 1, 1), mk(1, 1, 1)) }),
		set("marks' epochs fall", func(st *api.State) { st.Seen = marks(mk(2, 2, 1), mk(2, 1, 1)) }),
		set("a mark twice", func(st *api.State) { st.Seen = marks(mk(2, 2, 1), mk(2, 2, 1)) }),
		set("two marks of one epoch", func(st *api.State) { st.Seen = marks(mk(2, 2, 1), mk(2, 2, 5)) }),
	}
}

// numberless answers ways in which a state may not be right whose numbers stand in no such bytes.
func numberless() []spoiled {
	var all []spoiled
	for _, n := range []int{-1 << 63, -1 << 32, -65536, -1, 65536, 65537, 1 << 20, 1<<32 + 1, 1<<63 - 1} {
		set := func(name string, spoil func(st *api.State)) {
			all = append(all, spoiled{fmt.Sprintf("%s %d", name, n), spoil})
		}
		set("Epoch", func(st *api.State) { st.Epoch = n })
		set("Next's Dest", func(st *api.State) { st.Next[1].Dest = n })
		set("Next's Counter", func(st *api.State) { st.Next[0].Counter = n })
		set("a message's Origin", func(st *api.State) { st.Held[1].Id.Origin = n })
		set("a message's Dest", func(st *api.State) { st.Held[1].Id.Dest = n })
		set("a message's Epoch", func(st *api.State) { st.Held[1].Id.Epoch = n })
		set("a message's Counter", func(st *api.State) { st.Held[1].Id.Counter = n })
		set("a mark's Origin", func(st *api.State) { st.Seen[2].Origin = n })
		set("a mark's Epoch", func(st *api.State) { st.Seen[1].Epoch = n })
		set("a mark's Upto", func(st *api.State) { st.Seen[1].Upto = n })
		set("a number of More", func(st *api.State) { st.Seen[0].More[1] = n })
	}
	return all
}

// overfull answers ways to give some() more than a state may have.
func overfull() []spoiled {
	return []spoiled{
		{"too many messages", func(st *api.State) { st.Held = append(st.Held, many(mostHeld, 1).Held...) }},
		{"too many gaps in one mark", func(st *api.State) { st.Seen = append(st.Seen, mk(63, most, 0, gaps(mostGaps+1)...)) }},
		{"too many gaps in three marks", func(st *api.State) {
			st.Seen = append(st.Seen, mk(63, 2, 0, gaps(100)...), mk(63, 3, 0, gaps(100)...), mk(63, 4, 0, gaps(100)...))
		}},
	}
}

// of answers some() in which that is wrong.
func (s spoiled) of() api.State {
	st := some()
	s.spoil(&st)
	return st
}

// laid answers the numbers of a state as the chapter lays them, cut to the bytes in which they stand, whether it is right or not, without a sum.
func laid(st api.State) []byte {
	var p []byte
	one := func(n int) { p = append(p, byte(n)) }
	two := func(n int) { p = binary.BigEndian.AppendUint16(p, uint16(n)) }
	one(st.Self)
	two(st.Epoch)
	one(len(st.Next))
	for _, n := range st.Next {
		one(n.Dest)
		two(n.Counter)
	}
	two(len(st.Held))
	for _, m := range st.Held {
		one(6 + len(m.Data))
		one(m.Id.Origin)
		one(m.Id.Dest)
		two(m.Id.Epoch)
		two(m.Id.Counter)
		p = append(p, m.Data...)
	}
	two(len(st.Seen))
	for _, m := range st.Seen {
		one(m.Origin)
		two(m.Epoch)
		two(m.Upto)
		two(len(m.More))
		for _, c := range m.More {
			two(c)
		}
	}
	return p
}

// summed answers p with its sum.
func summed(p []byte) []byte {
	return binary.BigEndian.AppendUint32(slices.Clone(p), crc32.ChecksumIEEE(p))
}

// wanted answers the state whose bytes p are by the chapter's words, if it is right, and there is one: where bytes are missing, a list is left by a panic.
func wanted(p []byte) (st api.State, ok bool) {
	defer func() {
		if recover() != nil {
			st, ok = api.State{}, false
		}
	}()
	sum := p[len(p)-4:]
	ok = binary.BigEndian.Uint32(sum) == crc32.ChecksumIEEE(p[:len(p)-4])
	p = slices.Clip(p[:len(p)-4])
	cut := func(n int) []byte {
		part := p[:n:n]
		p = p[n:]
		return part
	}
	one := func() int { return int(cut(1)[0]) }
	two := func() int { return int(binary.BigEndian.Uint16(cut(2))) }
	st.Self = one()
	st.Epoch = two()
	for n := one(); n > 0; n-- {
		dest := one()
		st.Next = append(st.Next, next(dest, two())...)
	}
	for n := two(); n > 0; n-- {
		m, e := msg.Get(cut(one()))
		ok = ok && e == api.OK
		st.Held = append(st.Held, m)
	}
	for n := two(); n > 0; n-- {
		var m api.Mark
		m.Origin = one()
		m.Epoch = two()
		m.Upto = two()
		for k := two(); k > 0; k-- {
			m.More = append(m.More, two())
		}
		st.Seen = append(st.Seen, m)
	}
	if _, e := store.From(great(), st); !ok || e != api.OK || len(p) > 0 {
		return api.State{}, false
	}
	return st, true
}

// text answers all that a state has.
func text(st api.State) string {
	var out strings.Builder
	fmt.Fprintf(&out, "%d in %d;", st.Self, st.Epoch)
	for _, n := range st.Next {
		fmt.Fprintf(&out, " %d: %d", n.Dest, n.Counter)
	}
	out.WriteString("; held")
	for _, m := range st.Held {
		fmt.Fprintf(&out, " %v %q", m.Id, m.Data)
	}
	out.WriteString("; seen")
	for _, m := range st.Seen {
		fmt.Fprintf(&out, " %d/%d: %d %d", m.Origin, m.Epoch, m.Upto, m.More)
	}
	return out.String()
}

// short answers a state for a reader, with what is long cut.
func short(st api.State) string {
	s := text(st)
	if len(s) > 400 {
		return s[:400] + ".."
	}
	return s
}

// cutHex answers bytes for a reader, with what is long cut.
func cutHex(p []byte) string {
	if len(p) > 120 {
		return fmt.Sprintf("%x.. (%d)", p[:120], len(p))
	}
	return fmt.Sprintf("%x", p)
}

// checks asks that Check and Put answer that of a state, Put beside OK its bytes, which Get takes (P16.3).
func checks(t *testing.T, want api.Errno, name string, st api.State) {
	t.Helper()
	if e := Check(st); e != want {
		t.Fatalf("%s: Check(%s): %d; not %d", name, short(st), e, want)
	}
	p, e := Put(st)
	if e != want || e != api.OK && p != nil {
		t.Fatalf("%s: Put(%s): %s, %d; not %d", name, short(st), cutHex(p), e, want)
	}
	if want != api.OK {
		return
	}
	if bytesAre := summed(laid(st)); !bytes.Equal(p, bytesAre) {
		t.Fatalf("%s: Put(%s): %s; not %s", name, short(st), cutHex(p), cutHex(bytesAre))
	}
	gets(t, p, st)
}

// gets asks that Get answers that state.
func gets(t *testing.T, p []byte, want api.State) {
	t.Helper()
	st, e := Get(p)
	if e != api.OK || text(st) != text(want) {
		t.Fatalf("Get(%s): %s, %d; not %s", cutHex(p), short(st), e, short(want))
	}
}

// isNone answers whether Get tells that bytes are none's.
func isNone(p []byte) bool {
	st, e := Get(p)
	nothing := st.Self == 0 && st.Epoch == 0 && len(st.Next) == 0 && len(st.Held) == 0 && len(st.Seen) == 0
	return e == api.ErrForm && nothing
}

func none(t *testing.T, name string, p []byte) {
	t.Helper()
	if !isNone(p) {
		st, e := Get(p)
		t.Fatalf("%s: Get(%s): %s, %d", name, cutHex(p), short(st), e)
	}
}

// someState answers what a store has behind events as they come.
func someState(t *testing.T, rnd *rand.Rand) api.State {
	t.Helper()
	self, among, numbers := rnd.Intn(nodes), nodes, most
	if rnd.Intn(2) == 0 { // of few ids, so that many meet
		self, among, numbers = rnd.Intn(4), 4, 6
	}
	s, e := store.New(self, great())
	if e != api.OK {
		t.Fatal(e)
	}
	for range rnd.Intn(4) {
		s.Apply(api.Ev{Kind: api.EvBoot})
	}
	for range rnd.Intn(40) {
		i := id(rnd.Intn(among), rnd.Intn(among), 1+rnd.Intn(numbers), 1+rnd.Intn(numbers))
		switch rnd.Intn(5) {
		case 0:
			i.Origin, i.Epoch = self, 1+rnd.Intn(s.Epoch()+1)
		case 1, 2:
			i.Dest = self
		}
		data := make([]byte, 1+rnd.Intn(payload))
		rnd.Read(data)
		s.Apply(api.Ev{Kind: api.EvHold, Msg: api.Msg{Id: i, Data: data}})
		s.Apply(api.Ev{Kind: api.EvDeliver, Msg: api.Msg{Id: i}})
		if held := s.Held(); len(held) > 0 && rnd.Intn(6) == 0 {
			s.Apply(api.Ev{Kind: api.EvRelease, Msg: api.Msg{Id: held[rnd.Intn(len(held))].Id}})
		}
	}
	return s.State()
}

// turned answers a state in which one number is another one.
func turned(rnd *rand.Rand, st api.State) api.State {
	numbers := []*int{&st.Self, &st.Epoch}
	for at := range st.Next {
		n := &st.Next[at]
		numbers = append(numbers, &n.Dest, &n.Counter)
	}
	for at := range st.Held {
		i := &st.Held[at].Id
		numbers = append(numbers, &i.Origin, &i.Dest, &i.Epoch, &i.Counter)
	}
	for at := range st.Seen {
		m := &st.Seen[at]
		numbers = append(numbers, &m.Origin, &m.Epoch, &m.Upto)
		for k := range m.More {
			numbers = append(numbers, &m.More[k])
		}
	}
	*numbers[rnd.Intn(len(numbers))] += []int{-1, 1, 1, 2, -64, 64, 256, -65536, 65536}[rnd.Intn(9)]
	return st
}
