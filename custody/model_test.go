package custody_test

import (
	"math/rand"
	"regexp"
	"slices"
	"strconv"
	"testing"

	"portage/api"
	"portage/custody"
	"portage/disk"
	"portage/snap"
	"portage/store"
	"portage/wal"
)

// model is what the chapter says of a custody, on a disk of its own, sentence by sentence.
type model struct {
	d      *disk.Disk
	q      api.Quota
	log    *wal.Log
	store  *store.Store
	number int // of the snapshot
	spent  bool
	failed bool
}

var snapshotName = regexp.MustCompile(`^s[0-9]{5}$`)

// first answers the first error of these calls, each of which is made if the one ahead answered none.
func first(calls ...func() api.Errno) api.Errno {
	for _, call := range calls {
		if e := call(); e != api.OK {
			return e
		}
	}
	return api.OK
}

func (m *model) has(name string) bool {
	return slices.Contains(m.d.Names(), name)
}

// open answers a model that goes on with the disk of this one.
func (m *model) open(node int, q api.Quota, size int) (*model, api.Errno) {
	s, e := store.New(node, q)
	switch {
	case e != api.OK:
		return nil, e
	case size < 16 || size > mostBytes:
		return nil, api.ErrRange
	case m.d.Down():
		return nil, api.ErrDown
	}
	out := &model{d: m.d, q: q, store: s}
	var records [][]byte
	e = first(
		func() api.Errno {
			if out.has("t") {
				return out.d.Remove("t")
			}
			return api.OK
		},
		func() api.Errno { return out.readSnapshot(node) },
		func() (e api.Errno) {
			out.log, records, e = wal.Open(out.d, max(1, out.number), size)
			return e
		},
		func() api.Errno {
			for _, p := range records {
				ev, e := store.GetEv(p)
				if e != api.OK || out.store.Apply(ev) != api.OK {
					return api.ErrForm
				}
			}
			return api.OK
		},
		func() api.Errno {
			out.spent = out.store.May(boot()) == api.ErrOver
			if out.spent {
				return api.OK
			}
			return out.put(boot(), true)
		},
	)
	if e != api.OK {
		return nil, e
	}
	return out, api.OK
}

func (m *model) readSnapshot(node int) api.Errno {
	var found []string
	for _, name := range m.d.Names() {
		if snapshotName.MatchString(name) && name != "s00000" {
			found = append(found, name)
		}
	}
	if len(found) == 0 {
		return api.OK
	}
	name := slices.Max(found)
	m.number, _ = strconv.Atoi(name[1:])
	p, e := m.d.Read(name)
	if e != api.OK {
		return e
	}
	for _, other := range found {
		if other == name {
			continue
		}
		if e := m.d.Remove(other); e != api.OK {
			return e
		}
	}
	st, e := snap.Get(p)
	if e != api.OK || st.Self != node {
		return api.ErrForm
	}
	m.store, e = store.From(m.q, st)
	return e
}

// down notes that the disk answered ErrDown.
func (m *model) down(e api.Errno) api.Errno {
	m.failed = m.failed || e == api.ErrDown
	return e
}

func (m *model) put(e api.Ev, safely bool) api.Errno {
	if m.failed {
		return api.ErrState
	}
	return m.down(first(
		func() api.Errno { return m.store.May(e) },
		func() api.Errno { return m.log.Append([]byte(evBytes(e))) },
		func() api.Errno {
			if safely {
				return m.log.Sync()
			}
			return api.OK
		},
		func() api.Errno { return m.store.Apply(e) },
	))
}

func (m *model) submit(dest int, data string) (api.Id, api.Errno) {
	if m.failed {
		return api.Id{}, api.ErrState
	}
	i, e := m.store.Fresh(dest)
	if e == api.OK && m.spent {
		e = api.ErrOver
	}
	if e == api.OK {
		e = m.put(hold(i, data), true)
	}
	if e != api.OK {
		return api.Id{}, e
	}
	return i, api.OK
}

func (m *model) compact() api.Errno {
	if m.failed {
		return api.ErrState
	}
	k, e := m.log.Begin()
	if e != api.OK || k == m.number {
		return m.down(e)
	}
	return m.down(first(
		func() api.Errno {
			e := m.d.Append("t", []byte(shot(m.store.State())))
			if e == api.ErrFull && m.has("t") {
				m.d.Remove("t")
			}
			return e
		},
		func() api.Errno { return m.d.Sync("t") },
		func() api.Errno { return m.d.Rename("t", snapshot(k)) },
		func() api.Errno {
			old := m.number
			m.number = k
			if old == 0 {
				return api.OK
			}
			return m.d.Remove(snapshot(old))
		},
		func() api.Errno { return m.log.Drop(k) },
	))
}

// pair is a custody, and what it should be.
type pair struct {
	c *custody.Custody
	d *disk.Disk
	m *model
}

// both does something to both disks.
func (p *pair) both(t *testing.T, do func(d *disk.Disk) api.Errno) {
	t.Helper()
	answers(t, do(p.d), do(p.m.d))
}

// open opens both, and asks that they answer the same; what was there is gone on with, if that is refused.
func (p *pair) open(t *testing.T, node int, q api.Quota, size int) bool {
	t.Helper()
	c, e := custody.Open(p.d, node, q, size)
	m, want := p.m.open(node, q, size)
	if e != want || (c != nil) != (m != nil) {
		t.Fatalf("Open(%d, %+v, %d): %v, %d; not %d", node, q, size, c != nil, e, want)
	}
	if c != nil {
		p.c, p.m = c, m
	}
	return c != nil
}

// step does one call on both, and asks that they answer the same.
func (p *pair) step(t *testing.T, rnd *rand.Rand) {
	t.Helper()
	epoch := p.m.store.Epoch()
	some := id(rnd.Intn(5), rnd.Intn(5), 1+rnd.Intn(epoch+1), rnd.Intn(8))
	if held := p.m.store.Held(); len(held) > 0 && rnd.Intn(2) == 0 {
		some = held[rnd.Intn(len(held))].Id
	}
	data := long(rnd.Intn(8) * rnd.Intn(8))
	switch kind := rnd.Intn(40); {
	case kind < 10:
		dest := rnd.Intn(7) - 1
		i, e := p.c.Submit(dest, []byte(data))
		if want, wantE := p.m.submit(dest, data); i != want || e != wantE {
			t.Fatalf("Submit(%d, %q): %v, %d; not %v, %d", dest, data, i, e, want, wantE)
		}
	case kind < 16:
		p.put(t, hold(some, data), true)
	case kind < 24:
		p.put(t, release(some), false)
	case kind < 31:
		some.Dest = self
		p.put(t, deliver(some), true)
	case kind < 34:
		answers(t, p.c.Compact(), p.m.compact())
	default:
		p.disturb(t, rnd)
	}
}

func (p *pair) put(t *testing.T, e api.Ev, safely bool) {
	t.Helper()
	answers(t, put(p.c, e), p.m.put(e, safely))
}

// disturb does to both disks what others than the custody do, and begins anew.
func (p *pair) disturb(t *testing.T, rnd *rand.Rand) {
	t.Helper()
	n := rnd.Intn(30)
	switch rnd.Intn(8) {
	case 0, 1:
		p.both(t, func(d *disk.Disk) api.Errno { return d.Arm(n - 1) })
		return
	case 2:
		p.both(t, func(d *disk.Disk) api.Errno { return d.Limit(30 * n) })
		return
	case 3:
		p.both(t, func(d *disk.Disk) api.Errno { return d.Limit(mostBytes) })
		return
	case 4:
		name := []string{"t", "s00000", "s000001", "s00001", snapshot(max(1, p.m.number-1)), part(p.m.log.Last() + 2), part(max(1, p.m.log.First()-1))}[rnd.Intn(7)]
		if name != snapshot(p.m.number) {
			p.both(t, func(d *disk.Disk) api.Errno { return d.Append(name, []byte(long(n))) })
		}
	}
	keep, changes := []int{rnd.Intn(30), rnd.Intn(30), rnd.Intn(30), rnd.Intn(30)}, rnd.Intn(3)
	p.both(t, func(d *disk.Disk) api.Errno { return d.Crash(keep) })
	if rnd.Intn(4) == 0 {
		p.both(t, func(d *disk.Disk) api.Errno { return d.Arm(changes) })
	}
	q := great()
	if rnd.Intn(5) == 0 {
		q = quota(rnd.Intn(20), rnd.Intn(300), rnd.Intn(20))
	}
	node := self
	if rnd.Intn(9) == 0 {
		node = rnd.Intn(6) - 1
	}
	p.open(t, node, q, 14+rnd.Intn(90))
}

func (p *pair) check(t *testing.T) {
	t.Helper()
	if got, want := text(p.c.State()), text(p.m.store.State()); got != want {
		t.Fatalf("the state is %s; not %s", got, want)
	}
	size := p.m.d.Used()
	if p.m.d.Down() {
		size = 0
	}
	if p.c.Size() != size || p.c.Failed() != p.m.failed {
		t.Fatalf("the size is %d, failed %t; not %d, %t", p.c.Size(), p.c.Failed(), size, p.m.failed)
	}
	checkView(t, p.d, look(t, p.m.d))
}

// begin answers a pair on disks with these files.
func begin(t *testing.T, files []stands, size int) *pair {
	t.Helper()
	d := laid(t, files...)
	p := &pair{d: d, m: &model{d: d.Fork()}}
	if !p.open(t, self, great(), size) {
		t.Fatal("it can't be opened")
	}
	return p
}

// P17.1 to P17.4, of any calls
func TestAnyCalls(t *testing.T) {
	last := some()
	last.Epoch = most - 3
	for _, files := range [][]stands{nil, {safely(snapshot(4), shot(some()))}, {safely(snapshot(lastNumber-4), shot(some()))}, {safely(snapshot(1), shot(last))}} {
		for seed := range 60 {
			rnd := rand.New(rand.NewSource(int64(seed)))
			p := begin(t, files, 16+rnd.Intn(90))
			for range 150 {
				p.step(t, rnd)
				p.check(t)
			}
		}
	}
}

// What a call answers hangs on the calls ahead alone: the same ones make the same custody, and the same disk.
func TestTheSameCallsMakeTheSame(t *testing.T) {
	for seed := range 20 {
		var was view
		var state string
		for n := range 3 {
			rnd := rand.New(rand.NewSource(int64(seed)))
			p := begin(t, nil, 50)
			for range 80 {
				p.step(t, rnd)
			}
			if n == 0 {
				was, state = look(t, p.d), text(p.c.State())
			}
			checkView(t, p.d, was)
			if text(p.c.State()) != state {
				t.Fatalf("%s; not %s", text(p.c.State()), state)
			}
		}
	}
}
