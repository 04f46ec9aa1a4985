package disk

import (
	"math/rand"
	"slices"
	"strings"
	"testing"

	"portage/api"
)

// model is what the chapter says of a disk, in a list of files by rising names.
type model struct {
	files []stands
	limit int
	down  bool
	armed int // -1, if the power is not to go
}

func newModel(limit int) *model {
	return &model{limit: limit, armed: -1}
}

func (m *model) fork() *model {
	other := *m
	other.files = slices.Clone(m.files)
	return &other
}

func (m *model) used() int {
	n := 0
	for _, f := range m.files {
		n += len(f.bytes)
	}
	return n
}

func (m *model) view() view {
	return view{files: m.files, used: m.used(), limit: m.limit, down: m.down, armed: m.armed}
}

// at answers the place of a file, or the one where it would be.
func (m *model) at(name string) (int, bool) {
	return slices.BinarySearchFunc(m.files, name, func(f stands, name string) int { return strings.Compare(f.name, name) })
}

func goodName(name string) bool {
	return len(name) >= 1 && len(name) <= mostName && strings.Trim(name, "abcdefghijklmnopqrstuvwxyz0123456789.") == ""
}

// first answers the error that a call of these names has ahead of all others.
func (m *model) first(names ...string) api.Errno {
	if m.down {
		return api.ErrDown
	}
	for _, name := range names {
		if !goodName(name) {
			return api.ErrForm
		}
	}
	return api.OK
}

// needed answers the place of the file of the first of these names, which must be there.
func (m *model) needed(names ...string) (int, api.Errno) {
	if e := m.first(names...); e != api.OK {
		return 0, e
	}
	i, there := m.at(names[0])
	if !there {
		return 0, api.ErrNone
	}
	return i, api.OK
}

func (m *model) change() api.Errno {
	if m.armed > 0 {
		m.armed--
		m.down = m.armed == 0
	}
	return api.OK
}

func (m *model) append(name, p string) api.Errno {
	if e := m.first(name); e != api.OK {
		return e
	}
	i, there := m.at(name)
	if m.used()+len(p) > m.limit || !there && len(m.files) >= mostFiles {
		return api.ErrFull
	}
	if !there {
		m.files = slices.Insert(m.files, i, stands{name: name})
	}
	m.files[i].bytes += p
	return m.change()
}

func (m *model) sync(name string) api.Errno {
	i, e := m.needed(name)
	if e != api.OK {
		return e
	}
	m.files[i].safe = len(m.files[i].bytes)
	return m.change()
}

func (m *model) cut(name string, n int) api.Errno {
	i, e := m.needed(name)
	if e != api.OK {
		return e
	}
	if n < 0 || n > len(m.files[i].bytes) {
		return api.ErrRange
	}
	m.files[i] = stands{name, m.files[i].bytes[:n], n}
	return m.change()
}

func (m *model) rename(from, to string) api.Errno {
	i, e := m.needed(from, to)
	if e != api.OK {
		return e
	}
	f := m.files[i]
	if f.tail() > 0 {
		return api.ErrState
	}
	m.files = slices.Delete(m.files, i, i+1)
	i, taken := m.at(to)
	if taken {
		m.files = slices.Delete(m.files, i, i+1)
	}
	f.name = to
	m.files = slices.Insert(m.files, i, f)
	return m.change()
}

func (m *model) remove(name string) api.Errno {
	i, e := m.needed(name)
	if e != api.OK {
		return e
	}
	m.files = slices.Delete(m.files, i, i+1)
	return m.change()
}

func (m *model) setLimit(n int) api.Errno {
	if n < 0 || n > mostLimit {
		return api.ErrRange
	}
	m.limit = n
	return api.OK
}

func (m *model) arm(n int) api.Errno {
	if m.down {
		return api.ErrDown
	}
	m.armed = max(n, -1)
	m.down = n == 0
	return api.OK
}

func (m *model) crash(keep []int) api.Errno {
	for i, f := range m.files {
		n := 0
		if i < len(keep) && keep[i] > 0 {
			n = keep[i]
		}
		n = min(n, f.tail()) + f.safe
		m.files[i] = stands{f.name, f.bytes[:n], n}
	}
	m.down, m.armed = false, -1
	return api.OK
}

// pair is a disk, and what it should be.
type pair struct {
	d *Disk
	m *model
}

// someName answers one of few names, now and then one that is none.
func someName(rnd *rand.Rand) string {
	if rnd.Intn(20) == 0 {
		return []string{"", "A", "thirteenbytes", "a b", "\x00"}[rnd.Intn(5)]
	}
	return []string{"a", "b", "c", ".", "0", "twelve.bytes", "aa"}[rnd.Intn(7)]
}

func someNumbers(rnd *rand.Rand) []int {
	var out []int
	for range rnd.Intn(9) {
		out = append(out, rnd.Intn(12)-2)
	}
	return out
}

func someText(rnd *rand.Rand) string {
	p := make([]byte, rnd.Intn(9))
	rnd.Read(p)
	return string(p)
}

// step does one call on both, and answers what they answered.
func (p pair) step(rnd *rand.Rand) (string, api.Errno, api.Errno) {
	name, n := someName(rnd), rnd.Intn(14)-2
	switch kind := rnd.Intn(40); {
	case kind < 14:
		s := someText(rnd)
		return "Append", p.d.Append(name, []byte(s)), p.m.append(name, s)
	case kind < 20:
		return "Sync", p.d.Sync(name), p.m.sync(name)
	case kind < 24:
		return "Cut", p.d.Cut(name, n), p.m.cut(name, n)
	case kind < 29:
		to := someName(rnd)
		return "Rename", p.d.Rename(name, to), p.m.rename(name, to)
	case kind < 31:
		return "Remove", p.d.Remove(name), p.m.remove(name)
	case kind < 33:
		n *= 10
		return "Limit", p.d.Limit(n), p.m.setLimit(n)
	case kind < 35:
		return "Arm", p.d.Arm(n), p.m.arm(n)
	case kind < 38:
		keep := someNumbers(rnd)
		return "Crash", p.d.Crash(keep), p.m.crash(keep)
	}
	_, e := p.d.Read(name)
	_, want := p.m.needed(name)
	return "Read", e, want
}

// P10.1 to P10.4, P10.6, P10.7, of any calls: each disk and each fork is what its own calls make of it.
func TestAnyCalls(t *testing.T) {
	for seed := range 60 {
		rnd := rand.New(rand.NewSource(int64(seed)))
		limit := 1 + rnd.Intn(120)
		pairs := []pair{{made(t, limit), newModel(limit)}}
		for range 600 {
			p := pairs[rnd.Intn(len(pairs))]
			used, room := p.m.used(), p.m.limit
			call, e, want := p.step(rnd)
			if e != want {
				t.Fatalf("seed %d: %s: %d; not %d", seed, call, e, want)
			}
			if p.d.Used() > used && p.d.Used() > room {
				t.Fatalf("seed %d: %s: %d in use, of %d", seed, call, p.d.Used(), room)
			}
			if rnd.Intn(60) == 0 && len(pairs) < 4 {
				pairs = append(pairs, pair{p.d.Fork(), p.m.fork()})
			}
			if e != api.OK || rnd.Intn(4) == 0 {
				checkView(t, p.d, p.m.view())
			}
		}
		for _, p := range pairs {
			checkView(t, p.d, p.m.view())
		}
	}
}

// P10.5, of any calls: behind a crash each file has its safe bytes, and a beginning of its tail.
func TestBehindAnyCrash(t *testing.T) {
	for seed := range 100 {
		rnd := rand.New(rand.NewSource(int64(seed)))
		p := pair{made(t, 100), newModel(100)}
		for range 200 {
			p.step(rnd)
			was, limit := filesOf(t, p.d), limitOf(t, p.d)
			fork, keep := p.d.Fork(), someNumbers(rnd)
			ok(t, fork.Crash(keep))
			now := look(t, fork)
			if now.down || now.armed != -1 || now.limit != limit || len(now.files) != len(was) {
				t.Fatalf("seed %d: %+v; ahead %v", seed, now, was)
			}
			for i, f := range now.files {
				kept := 0
				if i < len(keep) {
					kept = keep[i]
				}
				ahead := was[i]
				if f.name != ahead.name || f.tail() != 0 || !strings.HasPrefix(ahead.bytes, f.bytes) || f.safe-ahead.safe != min(max(kept, 0), ahead.tail()) {
					t.Fatalf("seed %d: %v of %v, keeping %d", seed, f, ahead, kept)
				}
			}
		}
	}
}

// What a call answers hangs on the calls ahead alone: the same ones make the same disk.
func TestTheSameCallsMakeTheSameDisk(t *testing.T) {
	for seed := range 20 {
		var views []view
		for range 3 {
			rnd := rand.New(rand.NewSource(int64(seed)))
			p := pair{made(t, 100), newModel(100)}
			for range 200 {
				p.step(rnd)
			}
			views = append(views, look(t, p.d))
			checkView(t, p.d, views[0])
		}
	}
}
