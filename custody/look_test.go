package custody_test

import (
	"encoding/binary"
	"fmt"
	"hash/crc32"
	"math"
	"slices"
	"strings"
	"testing"

	"portage/api"
	"portage/custody"
	"portage/disk"
)

const (
	nodes       = 64      // MaxNodes
	most        = 65535   // MaxNumber
	mostHeld    = 256     // MaxHeld
	mostBytes   = 1 << 20 // MaxDisk
	mostGaps    = 256     // MaxGaps
	mostPayload = 48      // MaxPayload
	mostFiles   = 64      // MaxFiles
	lastNumber  = 99999   // of a segment, and so of a snapshot
	mostArmed   = 60      // so many changes are told from never
	everything  = math.MaxInt
)

// self is the node whose custodies most tests open, in segments of so many bytes.
const (
	self    = 3
	segment = 60
)

// great answers the greatest quota.
func great() api.Quota {
	return quota(mostHeld, mostBytes, mostGaps)
}

func quota(held, bytes, gaps int) api.Quota {
	return api.Quota{Held: held, Bytes: bytes, Gaps: gaps}
}

func id(origin, dest, epoch, counter int) api.Id {
	return api.Id{Origin: origin, Dest: dest, Epoch: epoch, Counter: counter}
}

func ms(i api.Id, data string) api.Msg {
	return api.Msg{Id: i, Data: []byte(data)}
}

func boot() api.Ev                      { return api.Ev{Kind: 1} }
func hold(i api.Id, data string) api.Ev { return api.Ev{Kind: 2, Msg: ms(i, data)} }
func release(i api.Id) api.Ev           { return api.Ev{Kind: 3, Msg: api.Msg{Id: i}} }
func deliver(i api.Id) api.Ev           { return api.Ev{Kind: 4, Msg: api.Msg{Id: i}} }

// long answers so many bytes.
func long(n int) string {
	return strings.Repeat("0123456789", n/10+1)[:n]
}

func ok(t *testing.T, e api.Errno) {
	t.Helper()
	answers(t, e, api.OK)
}

func answers(t *testing.T, e, want api.Errno) {
	t.Helper()
	if e != want {
		t.Fatalf("%d; not %d", e, want)
	}
}

// What stands on a disk

// stands is a file as it is seen from outside.
type stands struct {
	name  string
	bytes string
	safe  int
}

// safely answers a file whose bytes are all safe.
func safely(name, p string) stands {
	return stands{name, p, len(p)}
}

// view is all of a disk that a custody could change.
type view struct {
	files []stands
	down  bool
	armed int // behind so many changes the power goes; -1, if it does not
}

// look asks a disk, and forks of it, for all of that.
func look(t *testing.T, d *disk.Disk) view {
	t.Helper()
	return view{filesOf(t, d), d.Down(), armedOf(t, d)}
}

func filesOf(t *testing.T, d *disk.Disk) []stands {
	t.Helper()
	readable := crashed(t, d, everything)
	var out []stands
	for _, name := range d.Names() {
		p, e := readable.Read(name)
		ok(t, e)
		out = append(out, stands{name, string(p), d.Safe(name)})
	}
	return out
}

// armedOf makes changes on a fork that leave no trace but themselves, till the power goes.
func armedOf(t *testing.T, d *disk.Disk) int {
	t.Helper()
	if d.Down() {
		return 0
	}
	d = d.Fork()
	ok(t, d.Limit(mostBytes))
	for n := range mostArmed {
		if d.Down() {
			return n
		}
		if l := d.Names(); len(l) > 0 {
			ok(t, d.Sync(l[0]))
		} else {
			ok(t, d.Append("armed", nil))
		}
	}
	return -1
}

func checkView(t *testing.T, d *disk.Disk, want view) {
	t.Helper()
	got := look(t, d)
	if !slices.Equal(got.files, want.files) || got.down != want.down || got.armed != want.armed {
		t.Fatalf("the disk is %v; not %v", got, want)
	}
}

// checkFiles asks that a disk has just these files, and power for ever.
func checkFiles(t *testing.T, d *disk.Disk, want ...stands) {
	t.Helper()
	checkView(t, d, view{files: want, armed: -1})
}

// String answers a view for a reader, without most of what is long.
func (v view) String() string {
	var out strings.Builder
	for _, f := range v.files {
		fmt.Fprintf(&out, "%s: %.80q, %d of %d safe; ", f.name, f.bytes, f.safe, len(f.bytes))
	}
	fmt.Fprintf(&out, "down: %t, armed: %d", v.down, v.armed)
	return out.String()
}

// crashed answers a fork of a disk behind a crash that keeps so much of each tail.
func crashed(t *testing.T, d *disk.Disk, keep int) *disk.Disk {
	t.Helper()
	d = d.Fork()
	ok(t, d.Crash(slices.Repeat([]int{keep}, mostFiles)))
	return d
}

func made(t *testing.T) *disk.Disk {
	t.Helper()
	d, e := disk.New(mostBytes)
	ok(t, e)
	return d
}

// laid answers a disk with these files.
func laid(t *testing.T, files ...stands) *disk.Disk {
	t.Helper()
	d := made(t)
	for _, f := range files {
		ok(t, d.Append(f.name, []byte(f.bytes[:f.safe])))
		ok(t, d.Sync(f.name))
		ok(t, d.Append(f.name, []byte(f.bytes[f.safe:])))
	}
	return d
}

// Bytes, by the words of the layers below

// row answers the records of these payloads, one behind the other.
func row(payloads ...string) string {
	var out strings.Builder
	for _, p := range payloads {
		length := binary.BigEndian.AppendUint32(nil, uint32(len(p)))
		sum := crc32.ChecksumIEEE(append(length, p...))
		out.Write(length)
		out.Write(binary.BigEndian.AppendUint32(nil, sum))
		out.WriteString(p)
	}
	return out.String()
}

// log answers the records of these events.
func log(l ...api.Ev) string {
	var out strings.Builder
	for _, e := range l {
		out.WriteString(row(evBytes(e)))
	}
	return out.String()
}

func evBytes(e api.Ev) string {
	if e.Kind == 1 {
		return "\x01"
	}
	return string(rune(e.Kind)) + msgBytes(e.Msg)
}

func msgBytes(m api.Msg) string {
	p := []byte{byte(m.Id.Origin), byte(m.Id.Dest)}
	p = two(two(p, m.Id.Epoch), m.Id.Counter)
	return string(p) + string(m.Data)
}

func two(p []byte, n int) []byte {
	return binary.BigEndian.AppendUint16(p, uint16(n))
}

// shot answers the bytes of a state, with their sum.
func shot(st api.State) string {
	p := two([]byte{byte(st.Self)}, st.Epoch)
	p = append(p, byte(len(st.Next)))
	for _, n := range st.Next {
		p = two(append(p, byte(n.Dest)), n.Counter)
	}
	p = two(p, len(st.Held))
	for _, m := range st.Held {
		b := msgBytes(m)
		p = append(append(p, byte(len(b))), b...)
	}
	p = two(p, len(st.Seen))
	for _, m := range st.Seen {
		p = two(two(two(append(p, byte(m.Origin)), m.Epoch), m.Upto), len(m.More))
		for _, c := range m.More {
			p = two(p, c)
		}
	}
	return string(binary.BigEndian.AppendUint32(p, crc32.ChecksumIEEE(p)))
}

func snapshot(k int) string { return fmt.Sprintf("s%05d", k) }
func part(k int) string     { return fmt.Sprintf("w%05d", k) }

// States, by the words of the layers below

// replayed answers the state that events make of another one; of those that it has no room for it knows nothing.
func replayed(st api.State, l ...api.Ev) api.State {
	last, seen := map[int]int{}, countersOf(st.Seen)
	for _, n := range st.Next {
		last[n.Dest] = n.Counter
	}
	held := slices.Clone(st.Held)
	for _, e := range l {
		i := e.Msg.Id
		switch e.Kind {
		case 1:
			st.Epoch++
			clear(last)
		case 2:
			held = append(held, ms(i, string(e.Msg.Data)))
			if i.Origin == st.Self && i.Epoch == st.Epoch {
				last[i.Dest] = max(last[i.Dest], i.Counter)
			}
		case 3:
			held = slices.DeleteFunc(held, func(m api.Msg) bool { return m.Id == i })
		case 4:
			key := [2]int{i.Origin, i.Epoch}
			if seen[key] == nil {
				seen[key] = map[int]bool{}
			}
			seen[key][i.Counter] = true
		}
	}
	st.Next, st.Held, st.Seen = nil, held, marksOf(seen)
	for dest := range nodes {
		if last[dest] > 0 {
			st.Next = append(st.Next, api.Next{Dest: dest, Counter: last[dest]})
		}
	}
	return st
}

// countersOf answers which counters marks say, by Origin and Epoch.
func countersOf(l []api.Mark) map[[2]int]map[int]bool {
	out := map[[2]int]map[int]bool{}
	for _, m := range l {
		there := map[int]bool{}
		for c := 1; c <= m.Upto; c++ {
			there[c] = true
		}
		for _, c := range m.More {
			there[c] = true
		}
		out[[2]int{m.Origin, m.Epoch}] = there
	}
	return out
}

func marksOf(seen map[[2]int]map[int]bool) []api.Mark {
	var out []api.Mark
	for key, there := range seen {
		m := api.Mark{Origin: key[0], Epoch: key[1]}
		for there[m.Upto+1] {
			m.Upto++
		}
		for c := range there {
			if c > m.Upto {
				m.More = append(m.More, c)
			}
		}
		slices.Sort(m.More)
		out = append(out, m)
	}
	slices.SortFunc(out, func(a, b api.Mark) int {
		if a.Origin != b.Origin {
			return a.Origin - b.Origin
		}
		return a.Epoch - b.Epoch
	})
	return out
}

// of answers the state that these events make of a node that has nothing.
func of(l ...api.Ev) api.State {
	return replayed(api.State{Self: self}, l...)
}

// text answers all that a state has; no list and an empty one are alike.
func text(st api.State) string {
	return fmt.Sprint(st)
}

// some answers a state of all kinds of things: 3 messages of 6 bytes, 3 gaps.
func some() api.State {
	return api.State{
		Self: self, Epoch: 9,
		Next: []api.Next{{Dest: 1, Counter: 2}, {Dest: 5, Counter: 1}},
		Held: []api.Msg{ms(id(self, 1, 9, 2), "ab"), ms(id(6, 7, 20, 7), "c"), ms(id(self, 5, 8, 30), "def")},
		Seen: []api.Mark{{Origin: 1, Epoch: 2, Upto: 3, More: []int{5, 7}}, {Origin: 1, Epoch: 4, Upto: 1}, {Origin: 63, Epoch: 1, More: []int{9}}},
	}
}

// Custodies

func open(d *disk.Disk) (*custody.Custody, api.Errno) {
	return custody.Open(d, self, great(), segment)
}

// opened answers the custody that Open makes, which must have just that state.
func opened(t *testing.T, d *disk.Disk, want api.State) *custody.Custody {
	t.Helper()
	c, e := open(d)
	if c == nil || e != api.OK {
		t.Fatalf("Open: %v, %d", c != nil, e)
	}
	checkState(t, c, want)
	if c.Failed() {
		t.Fatal("it has failed")
	}
	return c
}

// fresh answers a custody on a disk of its own, behind these events.
func fresh(t *testing.T, l ...api.Ev) (*custody.Custody, *disk.Disk) {
	t.Helper()
	d := made(t)
	c := opened(t, d, of(boot()))
	puts(t, c, l...)
	return c, d
}

// having answers a custody on a disk of its own that has some of all, in the epoch 10, from the snapshot 4.
func having(t *testing.T) (*custody.Custody, *disk.Disk) {
	t.Helper()
	d := laid(t, safely(snapshot(4), shot(some())))
	return opened(t, d, replayed(some(), boot())), d
}

// puts puts these events down by their calls.
func puts(t *testing.T, c *custody.Custody, l ...api.Ev) {
	t.Helper()
	for _, e := range l {
		if fault := put(c, e); fault != api.OK {
			t.Fatalf("%+v: %d; the state is %s", e, fault, text(c.State()))
		}
	}
}

// put puts an event down by its call.
func put(c *custody.Custody, e api.Ev) api.Errno {
	switch e.Kind {
	case 2:
		return c.Hold(e.Msg)
	case 3:
		return c.Release(e.Msg.Id)
	}
	return c.Deliver(e.Msg.Id)
}

func submits(t *testing.T, c *custody.Custody, dest int, data string, want api.Id) {
	t.Helper()
	if i, e := c.Submit(dest, []byte(data)); i != want || e != api.OK {
		t.Fatalf("Submit(%d, %q): %v, %d; not %v", dest, data, i, e, want)
	}
}

// checkState asks that all calls tell of just that state.
func checkState(t *testing.T, c *custody.Custody, want api.State) {
	t.Helper()
	if got := text(c.State()); got != text(want) {
		t.Fatalf("the state is %s; not %s", got, text(want))
	}
	if got := c.Held(); text(api.State{Held: got}) != text(api.State{Held: want.Held}) {
		t.Fatalf("held: %v; not %v", got, want.Held)
	}
	for _, m := range want.Held {
		if found, there := c.Find(m.Id); !there || fmt.Sprint(found) != fmt.Sprint(m) {
			t.Fatalf("Find(%v): %v, %t", m.Id, found, there)
		}
	}
	for _, m := range want.Seen {
		for _, n := range append([]int{1, m.Upto, m.Upto + 1, m.Upto + 2}, m.More...) {
			there := n > 0 && n <= m.Upto || slices.Contains(m.More, n)
			if c.Seen(id(m.Origin, want.Self, m.Epoch, n)) != there {
				t.Fatalf("Seen of %d of %v: %t", n, m, !there)
			}
		}
	}
}

// behind asks that an Open behind a crash that keeps so much of each tail makes that state, in the next epoch.
func behind(t *testing.T, d *disk.Disk, keep int, want api.State) {
	t.Helper()
	opened(t, crashed(t, d, keep), replayed(want, boot()))
}

// called is a call, by its text.
type called struct {
	text string
	do   func(c *custody.Custody) api.Errno
}

func submitting(dest int, data string) called {
	return called{fmt.Sprintf("Submit(%d, %q)", dest, data), func(c *custody.Custody) api.Errno {
		i, e := c.Submit(dest, []byte(data))
		if e != api.OK && i != (api.Id{}) {
			return -1
		}
		return e
	}}
}

func putting(e api.Ev) called {
	return called{fmt.Sprintf("%+v", e), func(c *custody.Custody) api.Errno { return put(c, e) }}
}

func compacting() called {
	return called{"Compact", (*custody.Custody).Compact}
}

// refuses asks that calls are refused by that error, and change nothing at all.
func refuses(t *testing.T, c *custody.Custody, d *disk.Disk, want api.Errno, calls ...called) {
	t.Helper()
	state, was, size, failed := c.State(), look(t, d), c.Size(), c.Failed()
	for _, x := range calls {
		if e := x.do(c); e != want {
			t.Errorf("%s: %d; not %d", x.text, e, want)
		}
		checkState(t, c, state)
		checkView(t, d, was) // and so all is the same behind a crash
		if c.Size() != size || c.Failed() != failed {
			t.Fatalf("%s: the size is %d, failed %t; not %d, %t", x.text, c.Size(), c.Failed(), size, failed)
		}
	}
}

// refusesFull asks that calls are refused by that error of the disk, which has power, and change no state, neither at once nor behind a crash.
func refusesFull(t *testing.T, c *custody.Custody, d *disk.Disk, want api.Errno, calls ...called) {
	t.Helper()
	state := c.State()
	for _, x := range calls {
		if e := x.do(c); e != want {
			t.Errorf("%s: %d; not %d", x.text, e, want)
		}
		checkState(t, c, state)
		if c.Failed() {
			t.Fatalf("%s: it has failed", x.text)
		}
		roomy := d.Fork()
		ok(t, roomy.Limit(mostBytes))
		behind(t, roomy, everything, state)
	}
}

// hasFailed asks that a custody has failed: each call that may change it answers ErrState, and changes nothing.
func hasFailed(t *testing.T, c *custody.Custody, d *disk.Disk) {
	t.Helper()
	if !c.Failed() {
		t.Fatal("it has not failed")
	}
	calls := []called{submitting(1, "x"), submitting(self, ""), submitting(-1, long(49)), compacting()}
	for _, i := range []api.Id{id(1, 2, 1, 1), id(1, self, 1, 1), id(0, 0, 0, 0), id(64, 1, 1, 1)} {
		calls = append(calls, putting(hold(i, "x")), putting(hold(i, "")), putting(release(i)), putting(deliver(i)))
	}
	for _, m := range c.Held() {
		calls = append(calls, putting(release(m.Id)), putting(api.Ev{Kind: 2, Msg: m}))
	}
	refuses(t, c, d, api.ErrState, calls...)
}
