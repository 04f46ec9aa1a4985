package store

import (
	"fmt"
	"math"
	"slices"
	"strings"
	"testing"

	"portage/api"
	"portage/seen"
)

const (
	nodes     = 64      // MaxNodes
	most      = 65535   // MaxNumber
	mostHeld  = 256     // MaxHeld
	mostBytes = 1 << 20 // MaxDisk
	mostGaps  = 256     // MaxGaps
	payload   = 48      // MaxPayload
)

// great is the greatest quota.
var great = quota(mostHeld, mostBytes, mostGaps)

func quota(held, bytes, gaps int) api.Quota {
	return api.Quota{Held: held, Bytes: bytes, Gaps: gaps}
}

func id(origin, dest, epoch, counter int) api.Id {
	return api.Id{Origin: origin, Dest: dest, Epoch: epoch, Counter: counter}
}

func ms(i api.Id, data string) api.Msg {
	return api.Msg{Id: i, Data: []byte(data)}
}

func next(l ...int) []api.Next {
	var out []api.Next
	for at := 0; at < len(l); at += 2 {
		out = append(out, api.Next{Dest: l[at], Counter: l[at+1]})
	}
	return out
}

func mk(origin, epoch, upto int, more ...int) api.Mark {
	return api.Mark{Origin: origin, Epoch: epoch, Upto: upto, More: more}
}

func boot() api.Ev                   { return api.Ev{Kind: 1} }
func hold(i api.Id, d string) api.Ev { return api.Ev{Kind: 2, Msg: ms(i, d)} }
func release(i api.Id) api.Ev        { return api.Ev{Kind: 3, Msg: api.Msg{Id: i}} }
func deliver(i api.Id) api.Ev        { return api.Ev{Kind: 4, Msg: api.Msg{Id: i}} }

// long answers so many bytes.
func long(n int) string {
	return strings.Repeat("x", n)
}

func ok(t *testing.T, e api.Errno) {
	t.Helper()
	answers(t, e, api.OK)
}

func answers(t *testing.T, e, want api.Errno) {
	t.Helper()
	if e != want {
		t.Fatalf("%d; not %d", e, want)
	}
}

func made(t *testing.T, self int, q api.Quota) *Store {
	t.Helper()
	s, e := New(self, q)
	if s == nil || e != api.OK {
		t.Fatalf("New(%d, %+v): %v, %d", self, q, s != nil, e)
	}
	return s
}

func madeOf(t *testing.T, q api.Quota, st api.State) *Store {
	t.Helper()
	s, e := From(q, st)
	if s == nil || e != api.OK {
		t.Fatalf("From(%+v, %s): %v, %d", q, short(st), s != nil, e)
	}
	return s
}

// applies asks that May and Apply take all events.
func applies(t *testing.T, s *Store, l ...api.Ev) {
	t.Helper()
	for _, e := range l {
		if got := s.May(e); got != api.OK {
			t.Fatalf("May(%+v): %d; the state is %s", e, got, short(s.State()))
		}
		if got := s.Apply(e); got != api.OK {
			t.Fatalf("Apply(%+v): %d; the state is %s", e, got, short(s.State()))
		}
	}
}

// refuses asks that May and Apply answer that error of e, and that the store is unchanged behind each.
func refuses(t *testing.T, s *Store, want api.Errno, e api.Ev) {
	t.Helper()
	was := tells(s)
	if got := s.May(e); got != want {
		t.Errorf("May(%+v): %d; not %d", e, got, want)
	}
	if now := tells(s); now != was {
		t.Fatalf("behind May(%+v): %s; not %s", e, now, was)
	}
	if got := s.Apply(e); got != want {
		t.Errorf("Apply(%+v): %d; not %d", e, got, want)
	}
	if now := tells(s); now != was {
		t.Fatalf("behind Apply(%+v): %s; not %s", e, now, was)
	}
}

// text answers all that a state has.
func text(st api.State) string {
	var out strings.Builder
	fmt.Fprintf(&out, "%d in %d;", st.Self, st.Epoch)
	for _, n := range st.Next {
		fmt.Fprintf(&out, " %d: %d", n.Dest, n.Counter)
	}
	out.WriteString("; held")
	for _, m := range st.Held {
		fmt.Fprintf(&out, " %v %q", m.Id, m.Data)
	}
	out.WriteString("; seen")
	for _, m := range st.Seen {
		fmt.Fprintf(&out, " %d/%d: %d %d", m.Origin, m.Epoch, m.Upto, m.More)
	}
	return out.String()
}

// short answers a state for a reader, with what is long cut.
func short(st api.State) string {
	s := text(st)
	if len(s) > 400 {
		return s[:400] + ".."
	}
	return s
}

// tells answers all that the calls tell of a store which change nothing: its state, what it would say of what may come, and so how much room it has.
func tells(s *Store) string {
	var out strings.Builder
	st := s.State()
	fmt.Fprintf(&out, "%s; %d bytes, epoch %d;", text(st), s.Bytes(), s.Epoch())
	for _, dest := range []int{-1, 0, 1, 2, 3, 62, 63, 64} {
		i, e := s.Fresh(dest)
		fmt.Fprintf(&out, " %d: %v %d", dest, i, e)
	}
	self := st.Self
	other, third := (self+1)%nodes, (self+2)%nodes
	for n := 1; n <= payload; n++ { // which no store here holds
		fmt.Fprintf(&out, " %d", s.May(hold(id(third, other, most, most), long(n))))
	}
	gap := deliver(id(other, self, most, most))
	fmt.Fprintf(&out, " %d %d", s.May(boot()), s.May(gap))
	for _, m := range st.Held {
		found, there := s.Find(m.Id)
		fmt.Fprintf(&out, " %v %q %t %d", found.Id, found.Data, there, s.May(release(m.Id)))
	}
	return out.String()
}

// checkStore asks that a store has just what the state says, and room for what the quota says.
func checkStore(t *testing.T, s *Store, q api.Quota, want api.State) {
	t.Helper()
	if got := s.State(); text(got) != text(want) {
		t.Fatalf("the state is %s; not %s", short(got), short(want))
	}
	if s.Epoch() != want.Epoch {
		t.Fatalf("the epoch is %d; not %d", s.Epoch(), want.Epoch)
	}
	checkHeld(t, s, q, want)
	checkSeen(t, s, q, want)
	for dest := -2; dest < nodes+2; dest++ {
		i, e := s.Fresh(dest)
		if wantI, wantE := wantedFresh(want, dest); i != wantI || e != wantE {
			t.Fatalf("Fresh(%d): %v, %d; not %v, %d", dest, i, e, wantI, wantE)
		}
	}
	wantBoot := api.OK
	if want.Epoch == most {
		wantBoot = api.ErrOver
	}
	answers(t, s.May(boot()), wantBoot)
}

// checkHeld asks for the messages of the state, and for the room beside them.
func checkHeld(t *testing.T, s *Store, q api.Quota, want api.State) {
	t.Helper()
	size := 0
	for _, m := range want.Held {
		size += len(m.Data)
		found, there := s.Find(m.Id)
		if !there || found.Id != m.Id || string(found.Data) != string(m.Data) {
			t.Fatalf("Find(%v): %v, %t", m.Id, found, there)
		}
		answers(t, s.May(release(m.Id)), api.OK)
		answers(t, s.May(api.Ev{Kind: 2, Msg: m}), api.ErrTwice)
	}
	if s.Bytes() != size {
		t.Fatalf("%d bytes; not %d", s.Bytes(), size)
	}
	if got := s.Held(); text(api.State{Held: got}) != text(api.State{Held: want.Held}) {
		t.Fatalf("held: %v; not %v", got, want.Held)
	}
	absent := id((want.Self+2)%nodes, (want.Self+1)%nodes, most, most)
	for n := 1; n <= payload; n++ {
		e := api.OK
		if len(want.Held) >= q.Held || size+n > q.Bytes {
			e = api.ErrFull
		}
		if got := s.May(hold(absent, long(n))); got != e {
			t.Fatalf("%d messages of %d bytes, quota %+v: one more of %d: %d; not %d", len(want.Held), size, q, n, got, e)
		}
	}
}

// checkSeen asks for what was delivered by the state, and for the room beside it.
func checkSeen(t *testing.T, s *Store, q api.Quota, want api.State) {
	t.Helper()
	gaps := 0
	for _, m := range want.Seen {
		gaps += len(m.More)
		asked := []int{1, 2, m.Upto - 1, m.Upto, m.Upto + 1, m.Upto + 2, most}
		for _, c := range append(asked, m.More...) {
			if c < 1 || c > most {
				continue
			}
			there := c <= m.Upto || slices.Contains(m.More, c)
			if got := s.Seen(id(m.Origin, want.Self, m.Epoch, c)); got != there {
				t.Fatalf("Seen of the counter %d of %v: %t", c, m, got)
			}
		}
	}
	e := api.OK
	if gaps >= q.Gaps {
		e = api.ErrFull
	}
	absent := id((want.Self+1)%nodes, want.Self, most, most)
	if s.Seen(absent) {
		t.Fatalf("Seen(%v)", absent)
	}
	if got := s.May(deliver(absent)); got != e {
		t.Fatalf("%d gaps, quota %+v: one more: %d; not %d", gaps, q, got, e)
	}
}

// wantedFresh answers what the chapter asks Fresh for, of the store of a state.
func wantedFresh(st api.State, dest int) (api.Id, api.Errno) {
	if st.Epoch == 0 {
		return api.Id{}, api.ErrState
	}
	if dest < 0 || dest > nodes-1 {
		return api.Id{}, api.ErrRange
	}
	if dest == st.Self {
		return api.Id{}, api.ErrForm
	}
	last := 0
	for _, n := range st.Next {
		if n.Dest == dest {
			last = n.Counter
		}
	}
	if last == most {
		return api.Id{}, api.ErrOver
	}
	return id(st.Self, dest, st.Epoch, last+1), api.OK
}

// wantedId answers what the chapter of messages asks Check for.
func wantedId(i api.Id) api.Errno {
	for _, x := range []struct{ n, least, most int }{{i.Origin, 0, nodes - 1}, {i.Dest, 0, nodes - 1}, {i.Epoch, 1, most}, {i.Counter, 1, most}} {
		if x.n < x.least || x.n > x.most {
			return api.ErrRange
		}
	}
	if i.Origin == i.Dest {
		return api.ErrForm
	}
	return api.OK
}

// wantedMsg answers what that chapter asks CheckMsg for.
func wantedMsg(m api.Msg) api.Errno {
	if e := wantedId(m.Id); e != api.OK {
		return e
	}
	if len(m.Data) == 0 {
		return api.ErrForm
	}
	if len(m.Data) > payload {
		return api.ErrLong
	}
	return api.OK
}

// wantedEv answers the first line of P15.2: what is said of an event by itself.
func wantedEv(e api.Ev) api.Errno {
	none := len(e.Msg.Data) == 0
	switch e.Kind {
	case 1:
		if e.Msg.Id == id(0, 0, 0, 0) && none {
			return api.OK
		}
		return api.ErrForm
	case 2:
		return wantedMsg(e.Msg)
	case 3, 4:
		if fault := wantedId(e.Msg.Id); fault != api.OK {
			return fault
		}
		if !none {
			return api.ErrForm
		}
		return api.OK
	}
	return api.ErrRange
}

// wantedFrom answers what the chapter asks From for.
func wantedFrom(q api.Quota, st api.State) api.Errno {
	if q.Held < 0 || q.Held > mostHeld || q.Bytes < 0 || q.Bytes > mostBytes || q.Gaps < 0 || q.Gaps > mostGaps || st.Self < 0 || st.Self >= nodes {
		return api.ErrRange
	}
	if !rightState(st) {
		return api.ErrForm
	}
	size, gaps := 0, 0
	for _, m := range st.Held {
		size += len(m.Data)
	}
	for _, m := range st.Seen {
		gaps += len(m.More)
	}
	if len(st.Held) > q.Held || size > q.Bytes || gaps > q.Gaps {
		return api.ErrFull
	}
	return api.OK
}

// rightState answers whether a state is right, by the words of the chapter.
func rightState(st api.State) bool {
	if st.Self < 0 || st.Self > nodes-1 || st.Epoch < 0 || st.Epoch > most {
		return false
	}
	reached := map[int]int{}
	for at, n := range st.Next {
		if st.Epoch == 0 || n.Dest < 0 || n.Dest > nodes-1 || n.Dest == st.Self || n.Counter < 1 || n.Counter > most {
			return false
		}
		if at > 0 && n.Dest <= st.Next[at-1].Dest {
			return false
		}
		reached[n.Dest] = n.Counter
	}
	for at, m := range st.Held {
		if wantedMsg(m) != api.OK || m.Id.Dest == st.Self {
			return false
		}
		for _, ahead := range st.Held[:at] {
			if ahead.Id == m.Id {
				return false
			}
		}
		if m.Id.Origin != st.Self {
			continue
		}
		if m.Id.Epoch > st.Epoch || m.Id.Epoch == st.Epoch && m.Id.Counter > reached[m.Id.Dest] {
			return false
		}
	}
	return rightSeen(st)
}

func rightSeen(st api.State) bool {
	for at, m := range st.Seen {
		if m.Origin < 0 || m.Origin > nodes-1 || m.Origin == st.Self || m.Epoch < 1 || m.Epoch > most || m.Upto < 0 || m.Upto > most {
			return false
		}
		if m.Upto == 0 && len(m.More) == 0 {
			return false
		}
		for k, c := range m.More {
			if c < m.Upto+2 || c > most || k > 0 && c <= m.More[k-1] {
				return false
			}
		}
		if at == 0 {
			continue
		}
		if ahead := st.Seen[at-1]; ahead.Origin > m.Origin || ahead.Origin == m.Origin && ahead.Epoch >= m.Epoch {
			return false
		}
	}
	return true
}

// wrongIds answers ids that are not right, of each kind.
func wrongIds() []api.Id {
	var all []api.Id
	for _, n := range []int{math.MinInt, -256, -64, -1, 64, 65, 256, 257, 65536, 1<<32 + 1, math.MaxInt} {
		all = append(all, id(n, 5, 1, 2), id(1, n, 1, 2), id(n, n, 1, 2))
	}
	for _, n := range []int{math.MinInt, -65535, -1, 0, 65536, 65537, 131073, 1<<32 + 1, math.MaxInt} {
		all = append(all, id(1, 5, n, 2), id(1, 5, 1, n), id(1, 1, n, 2), id(1, 1, 1, n))
	}
	for _, n := range []int{0, 1, 2, 63} {
		all = append(all, id(n, n, 1, 2))
	}
	return append(all, api.Id{})
}

// model is what the chapter says of a store.
type model struct {
	self  int
	q     api.Quota
	epoch int
	last  map[int]int
	held  []api.Msg
	seen  *seen.Set
}

func newModel(t *testing.T, self int, q api.Quota) *model {
	t.Helper()
	set, e := seen.New(q.Gaps)
	ok(t, e)
	return &model{self: self, q: q, last: map[int]int{}, seen: set}
}

func (m *model) at(i api.Id) int {
	return slices.IndexFunc(m.held, func(x api.Msg) bool { return x.Id == i })
}

func (m *model) may(e api.Ev) api.Errno {
	if fault := wantedEv(e); fault != api.OK {
		return fault
	}
	i := e.Msg.Id
	switch e.Kind {
	case 1:
		if m.epoch == most {
			return api.ErrOver
		}
	case 2:
		if i.Dest == m.self || i.Origin == m.self && i.Epoch > m.epoch {
			return api.ErrForm
		}
		if m.at(i) >= 0 {
			return api.ErrTwice
		}
		size := len(e.Msg.Data)
		for _, x := range m.held {
			size += len(x.Data)
		}
		if len(m.held) >= m.q.Held || size > m.q.Bytes {
			return api.ErrFull
		}
	case 3:
		if m.at(i) < 0 {
			return api.ErrNone
		}
	case 4:
		if i.Dest != m.self {
			return api.ErrForm
		}
		return m.seen.May(i)
	}
	return api.OK
}

func (m *model) apply(e api.Ev) api.Errno {
	if fault := m.may(e); fault != api.OK {
		return fault
	}
	i := e.Msg.Id
	switch e.Kind {
	case 1:
		m.epoch++
		m.last = map[int]int{}
	case 2:
		m.held = append(m.held, ms(i, string(e.Msg.Data)))
		if i.Origin == m.self && i.Epoch == m.epoch && i.Counter > m.last[i.Dest] {
			m.last[i.Dest] = i.Counter
		}
	case 3:
		at := m.at(i)
		m.held = append(slices.Clone(m.held[:at]), m.held[at+1:]...)
	case 4:
		m.seen.Add(i)
	}
	return api.OK
}

func (m *model) state() api.State {
	st := api.State{Self: m.self, Epoch: m.epoch, Held: m.held, Seen: m.seen.Marks()}
	for dest := range nodes {
		if m.last[dest] > 0 {
			st.Next = append(st.Next, next(dest, m.last[dest])...)
		}
	}
	return st
}

// both does the same on a store and on its model, and asks that they answer the same, and are.
func both(t *testing.T, s *Store, m *model, e api.Ev) api.Errno {
	t.Helper()
	was, want := text(s.State()), m.may(e)
	if got := s.May(e); got != want {
		t.Fatalf("May(%+v): %d; not %d; the state is %s", e, got, want, was)
	}
	if now := text(s.State()); now != was {
		t.Fatalf("behind May(%+v): %s; not %s", e, now, was)
	}
	if got := s.Apply(e); got != m.apply(e) {
		t.Fatalf("Apply(%+v): %d; not %d; the state is %s", e, got, want, was)
	}
	if now := text(s.State()); now != text(m.state()) {
		t.Fatalf("behind Apply(%+v): %s; not %s", e, now, text(m.state()))
	}
	if s.Bytes() != sizeHeld(m.held) || s.Epoch() != m.epoch {
		t.Fatalf("behind Apply(%+v): %d bytes, epoch %d", e, s.Bytes(), s.Epoch())
	}
	return want
}

func sizeHeld(l []api.Msg) int {
	n := 0
	for _, m := range l {
		n += len(m.Data)
	}
	return n
}
