package node_test

import (
	"fmt"
	"math"
	"slices"
	"testing"

	"portage/api"
	"portage/disk"
	"portage/node"
	"portage/snap"
	"portage/wal"
)

// P21.1

// setting is one of the numbers of settings, and its range.
type setting struct {
	name        string
	at          func(s *api.Settings) *int
	least, most int
}

func all() []setting {
	return []setting{
		{"Quota.Held", func(s *api.Settings) *int { return &s.Quota.Held }, 0, mostHeld},
		{"Quota.Bytes", func(s *api.Settings) *int { return &s.Quota.Bytes }, 0, mostDisk},
		{"Quota.Gaps", func(s *api.Settings) *int { return &s.Quota.Gaps }, 0, mostGaps},
		{"Disk", func(s *api.Settings) *int { return &s.Disk }, 1, mostDisk},
		{"Segment", func(s *api.Settings) *int { return &s.Segment }, 16, mostDisk},
		{"Window", func(s *api.Settings) *int { return &s.Window }, 1, mostWindow},
		{"Timer", func(s *api.Settings) *int { return &s.Timer }, 1, mostTimer},
		{"Tries", func(s *api.Settings) *int { return &s.Tries }, 1, mostTimer},
		{"Wait", func(s *api.Settings) *int { return &s.Wait }, 1, mostTimer},
		{"Delay", func(s *api.Settings) *int { return &s.Delay }, 0, mostTimer},
	}
}

// set answers roomy settings of which one number is n.
func (x setting) set(n int) api.Settings {
	return with(func(s *api.Settings) { *x.at(s) = n })
}

// outside answers numbers that are not in its range.
func (x setting) outside() []int {
	return []int{x.least - 1, x.most + 1, x.least - 2, x.most + 2, -1 - x.most, x.least - 256, x.most + 256, x.least - 1<<16, x.most + 1<<16, math.MinInt32, math.MaxInt32, math.MinInt, math.MaxInt}
}

func TestCheckOfEachSettingAtItsBounds(t *testing.T) {
	ok(t, node.Check(roomy()))
	for _, x := range all() {
		for _, n := range []int{x.least, x.least + 1, x.most / 2, x.most - 1, x.most} {
			if e := node.Check(x.set(max(n, x.least))); e != api.OK {
				t.Errorf("%s %d: %d", x.name, n, e)
			}
		}
	}
	ok(t, node.Check(api.Settings{Disk: 1, Segment: 16, Window: 1, Timer: 1, Tries: 1, Wait: 1}))
	ok(t, node.Check(api.Settings{Quota: api.Quota{Held: 256, Bytes: mostDisk, Gaps: 256}, Disk: mostDisk, Segment: mostDisk, Window: 63, Timer: 64, Tries: 64, Wait: 64, Delay: 64}))
}

func TestCheckOfEachSettingBeyondItsBounds(t *testing.T) {
	for _, x := range all() {
		for _, n := range x.outside() {
			if e := node.Check(x.set(n)); e != api.ErrRange {
				t.Errorf("%s %d: %d", x.name, n, e)
			}
		}
	}
	answers(t, node.Check(api.Settings{}), api.ErrRange)
}

func TestNewOfSettingsThatMayBe(t *testing.T) {
	for _, x := range all() {
		for _, n := range []int{x.least, x.most} {
			b := alone(t, x.set(n), around...)
			if b.n.State().Epoch != 1 || b.n.Down() {
				t.Errorf("%s %d: %s", x.name, n, b.view())
			}
		}
	}
}

// refuses asks that New is refused, and changes nothing of the disk.
func refuses(t *testing.T, want api.Errno, self int, neighbours []int, d *disk.Disk, s api.Settings) {
	t.Helper()
	was := ""
	if d != nil {
		was = onDisk(t, d)
	}
	n, e := node.New(self, neighbours, d, s)
	if n != nil || e != want {
		t.Fatalf("New(%d, %v, .., %+v): %v, %d; not %d", self, neighbours, s, n != nil, e, want)
	}
	if d != nil && onDisk(t, d) != was {
		t.Fatalf("the disk is %s; not %s", onDisk(t, d), was)
	}
}

// draft answers a disk on which something lies that an Open takes away at once.
func draft(t *testing.T) *disk.Disk {
	t.Helper()
	d := newDisk(t)
	ok(t, d.Append("t", []byte("x")))
	return d
}

func TestNewOfSettingsThatMayNotBe(t *testing.T) {
	for _, x := range all() {
		for _, n := range x.outside() {
			refuses(t, api.ErrRange, self, around, draft(t), x.set(n))
		}
	}
}

// wrongNeighbours are lists that are no node's neighbours, of the node self.
func wrongNeighbours() [][]int {
	out := [][]int{{self}, {1, self}, {self, 9}, {1, self, 9}, {2, 1}, {1, 1}, {1, 2, 2}, {1, 9, 8}, {63, 62}, {0, 63, 64}, {-1, 0}}
	for _, n := range beyond {
		out = append(out, []int{n})
	}
	return out
}

func TestNewOfNeighboursThatAreNotRight(t *testing.T) {
	for _, l := range wrongNeighbours() {
		refuses(t, api.ErrForm, self, l, draft(t), roomy())
	}
	for _, n := range beyond {
		refuses(t, api.ErrRange, n, around, draft(t), roomy())
	}
}

// Neighbours that are right, from none to all.
func TestNewOfNeighbours(t *testing.T) {
	others := slices.DeleteFunc(rising(nodes), func(n int) bool { return n == self })
	for _, l := range [][]int{nil, {}, {0}, {63}, {0, 63}, {2, 4}, others} {
		b := alone(t, roomy(), l...)
		for _, to := range append(rising(nodes), beyond...) {
			if p := b.n.Take(to); (len(p) > 0) != slices.Contains(l, to) {
				t.Fatalf("of %v to %d: % x", l, to, p)
			}
		}
		b.meetsNobody(t)
	}
	for _, other := range []int{0, 1, nodes - 1} { // other selfs
		n, e := node.New(other, []int{2, 5}, newDisk(t), roomy())
		ok(t, e)
		if n.State().Self != other || n.Cost(other) != 0 {
			t.Fatalf("%s", view(n))
		}
	}
}

// meetsNobody asks that a new node is as one that nobody said anything to.
func (b *bench) meetsNobody(t *testing.T) {
	t.Helper()
	want := fmt.Sprint(api.State{Self: self, Epoch: 1}, "\nup, costs 3:0, bad 0, down false\n")
	if got := view(b.n); got != want {
		t.Fatalf("%s; not %s", got, want)
	}
	b.delivers()
}

// having answers a disk with the snapshot of a state.
func having(t *testing.T, st api.State) *disk.Disk {
	t.Helper()
	p, e := snap.Put(st)
	ok(t, e)
	d := newDisk(t)
	ok(t, d.Append("s00001", p))
	ok(t, d.Sync("s00001"))
	return d
}

// down answers a disk without power.
func down(t *testing.T, d *disk.Disk) *disk.Disk {
	t.Helper()
	ok(t, d.Arm(0))
	return d
}

// Those of custody.Open.
func TestNewOfADiskThatIsNotRight(t *testing.T) {
	refuses(t, api.ErrState, self, around, nil, roomy())
	refuses(t, api.ErrDown, self, around, down(t, newDisk(t)), roomy())
	refuses(t, api.ErrDown, self, around, down(t, having(t, api.State{Self: self, Epoch: 4})), roomy())
	refuses(t, api.ErrForm, self, around, having(t, api.State{Self: 4, Epoch: 4}), roomy())
	held := api.State{Self: self, Epoch: 4, Held: []api.Msg{ms("1>9:1.1", "abc"), ms("1>9:1.2", "de")}, Seen: []api.Mark{{Origin: 1, Epoch: 1, More: []int{2, 4}}}}
	for _, q := range []api.Quota{{Held: 1, Bytes: 5, Gaps: 2}, {Held: 2, Bytes: 4, Gaps: 2}, {Held: 2, Bytes: 5, Gaps: 1}} {
		refuses(t, api.ErrFull, self, around, having(t, held), with(func(s *api.Settings) { s.Quota = q }))
	}
	on(t, having(t, held), with(func(s *api.Settings) { s.Quota = api.Quota{Held: 2, Bytes: 5, Gaps: 2} }), around...)
	for _, n := range []int{0, 1, 8} { // no room for the record of the epoch
		d := newDisk(t)
		ok(t, d.Limit(n))
		refuses(t, api.ErrFull, self, around, d, roomy())
	}
	d := newDisk(t)
	ok(t, d.Limit(9))
	on(t, d, roomy(), around...)
	junk := newDisk(t)
	ok(t, junk.Append("s00001", []byte("junk")))
	refuses(t, api.ErrForm, self, around, junk, roomy())
	// The power goes in the midst of it.
	for changes := range 2 {
		d := newDisk(t)
		ok(t, d.Arm(changes))
		if n, e := node.New(self, around, d, roomy()); n != nil || e != api.ErrDown {
			t.Fatalf("%d changes: %v, %d", changes, n != nil, e)
		}
	}
}

// The settings' Disk is for whoever makes disks: the node takes the one that it is handed, whatever room it has.
func TestNewDoesNotAskForTheDisksRoom(t *testing.T) {
	d := newDisk(t)
	b := on(t, d, with(func(s *api.Settings) { s.Disk = 1 }), around...)
	b.submits(1, "x", "3>1:1.1")
}

func TestWhichOfNewsErrorsComesFirst(t *testing.T) {
	wrong := with(func(s *api.Settings) { s.Wait = 0 })
	wrongQuota := with(func(s *api.Settings) { s.Quota.Gaps = -1 })
	wrongSegment := with(func(s *api.Settings) { s.Segment = 15 })
	another := func() *disk.Disk { return having(t, api.State{Self: 4, Epoch: 4}) }
	disks := func() []*disk.Disk { return []*disk.Disk{nil, down(t, newDisk(t)), another(), draft(t)} }
	// A self that is none is ahead of neighbours that are not right, and these are ahead of the settings.
	for _, d := range disks() {
		refuses(t, api.ErrRange, nodes, []int{2, 1}, d, roomy())
		refuses(t, api.ErrRange, -1, []int{-1}, d, wrong)
	}
	for _, s := range []api.Settings{roomy(), wrong, wrongQuota, wrongSegment} {
		for _, d := range disks() {
			refuses(t, api.ErrForm, self, []int{2, 1}, d, s)
		}
	}
	// The settings are ahead of the disk.
	for _, s := range []api.Settings{wrong, wrongQuota, wrongSegment} {
		for _, d := range disks() {
			refuses(t, api.ErrRange, self, around, d, s)
		}
	}
	// No power is ahead of what is there.
	refuses(t, api.ErrDown, self, around, down(t, another()), roomy())
}

// The node's first work: each end's call goes out.
func TestTheFirstWork(t *testing.T) {
	b := alone(t, roomy(), around...)
	want := frames([]api.Ctl{{Kind: api.CSABME, Me: 512}})
	for _, to := range around {
		if p := b.n.Take(to); !slices.Equal(p, want) {
			t.Fatalf("to %d: % x; not % x", to, p, want)
		}
	}
	b.nobodyHears()
	// What it holds from before is not offered, for nobody is up yet.
	b = on(t, having(t, api.State{Self: self, Epoch: 4, Held: []api.Msg{ms("1>2:1.1", "abc")}}), roomy(), around...)
	for _, to := range around {
		b.goesOut(to, "sabme")
	}
	b.holds("1>2:1.1 abc")
}

func TestNewOnADiskThatAnElderNodeWrote(t *testing.T) {
	b := usual(t)
	b.submits(1, "a", "3>1:1.1")
	b.submits(9, "b", "3>9:1.1")
	b.hears(1, "offer 0 3>1:1.1 a")
	b.says(1, ack(0, "3>1:1.1"), offer(4, "1>3:1.1", "c"))
	b.holds("3>9:1.1 b")
	b.delivers("1>3:1.1 c")
	d := b.d
	b = on(t, d, roomy(), 2, 9) // other neighbours, by the way
	b.holds("3>9:1.1 b")
	if st := b.n.State(); st.Epoch != 2 || len(st.Next) != 0 || fmt.Sprint(st.Seen) != "[{1 1 1 []}]" {
		t.Fatalf("%v", st)
	}
	b.delivers() // that was told then
	b.meets(2, 9)
	b.says(9, tells(9, 0))
	b.hears(9, "offer 0 3>9:1.1 b")
	b.hears(2)
	b.submits(1, "d", "3>1:2.1")
}

func TestNewOnADiskWhosePowerWent(t *testing.T) {
	b := usual(t)
	b.submits(1, "a", "3>1:1.1")
	b.submits(2, "b", "3>2:1.1")
	b.hears(1, "offer 0 3>1:1.1 a")
	b.says(1, ack(0, "3>1:1.1"))
	b.holds("3>2:1.1 b")
	for keep, want := range map[int][]string{0: {"3>1:1.1 a", "3>2:1.1 b"}, 1000: {"3>2:1.1 b"}} { // that it let go was not safe
		d := b.d.Fork()
		ok(t, d.Arm(0))
		refuses(t, api.ErrDown, self, around, d, roomy())
		ok(t, d.Crash([]int{keep, keep}))
		on(t, d, roomy(), around...).holds(want...)
	}
}

// The custody is one of the settings' Segment and Quota.
func TestTheCustodyIsOfTheSettings(t *testing.T) {
	b := alone(t, with(func(s *api.Settings) { s.Segment = 16; s.Quota = api.Quota{Held: 2, Bytes: 5, Gaps: 1} }))
	b.submits(1, "abc", "3>1:1.1")
	if l := b.d.Names(); !slices.Equal(l, []string{wal.Name(1), wal.Name(2)}) {
		t.Fatalf("%q", l)
	}
	_, e := b.n.Submit(1, []byte("def"))
	answers(t, e, api.ErrFull)
	b.submits(1, "de", "3>1:1.2")
	_, e = b.n.Submit(1, []byte("f"))
	answers(t, e, api.ErrFull)
}

// The ends' me is 512 times the epoch, reduced by 65536.
func TestTheEndsMe(t *testing.T) {
	for epoch, want := range map[int]int{1: 512, 2: 1024, 3: 1536, 100: 51200, 127: 65024, 128: 0, 129: 512, 255: 65024, 256: 0, 257: 512, 65407: 65024, 65408: 0, 65534: 64512, 65535: 65024} {
		b := on(t, having(t, api.State{Self: self, Epoch: epoch - 1}), roomy(), around...)
		if b.n.State().Epoch != epoch {
			t.Fatalf("epoch %d", b.n.State().Epoch)
		}
		for _, to := range around {
			if l := b.take(to); len(l) != 1 || l[0].Me != want {
				t.Fatalf("epoch %d: %+v; not %d", epoch, l, want)
			}
		}
	}
	// No epoch is left: it goes on with the last one.
	b := on(t, having(t, api.State{Self: self, Epoch: mostNumber}), roomy(), 1)
	if l := b.take(1); len(l) != 1 || l[0].Me != 65024 {
		t.Fatalf("%+v", l)
	}
	_, e := b.n.Submit(1, []byte("x"))
	answers(t, e, api.ErrOver)
}

func TestTheEndsMeBehindManyOpenings(t *testing.T) {
	d := newDisk(t)
	for epoch := 1; epoch <= 300; epoch++ {
		b := on(t, d, roomy(), 1)
		if l := b.take(1); len(l) != 1 || l[0].Kind != api.CSABME || l[0].Me != 512*epoch%65536 {
			t.Fatalf("epoch %d: %+v", epoch, l)
		}
		if epoch%50 == 0 {
			ok(t, b.n.Compact())
		}
		ok(t, d.Crash(nil))
	}
}
