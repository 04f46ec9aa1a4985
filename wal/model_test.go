package wal

import (
	"fmt"
	"math/rand"
	"regexp"
	"slices"
	"strconv"
	"testing"

	"portage/api"
	"portage/disk"
)

// model is what the chapter says of a log, on a disk of its own.
type model struct {
	d      *disk.Disk
	first  int
	last   int
	size   int
	failed bool
}

var segmentName = regexp.MustCompile(`^w[0-9]{5}$`)

func named(k int) string {
	return fmt.Sprintf("w%05d", k)
}

// names answers the names of the segments' files from low up to but without high, rising.
func (m *model) names(low, high int) []string {
	var out []string
	for _, name := range m.d.Names() {
		if !segmentName.MatchString(name) {
			continue
		}
		if k, _ := strconv.Atoi(name[1:]); k >= max(low, 1) && k < high {
			out = append(out, name)
		}
	}
	return out
}

func (m *model) has(k int) bool {
	return len(m.names(k, k+1)) == 1
}

// bytes answers what a segment has, as one sees it with power.
func (m *model) bytes(k int) string {
	p, _ := m.d.Read(named(k))
	return string(p)
}

func (m *model) down() bool {
	_, e := m.d.Read("a")
	return e == api.ErrDown
}

func (m *model) open(first, size int) ([]string, api.Errno) {
	if first < 1 || first > lastSegment || size < 16 || size > mostSize {
		return nil, api.ErrRange
	}
	if m.down() {
		return nil, api.ErrDown
	}
	for _, name := range m.names(1, first) {
		if e := m.d.Remove(name); e != api.OK {
			return nil, e
		}
	}
	var told []string
	k := first
	for ; m.has(k); k++ {
		p, e := m.d.Read(named(k))
		if e != api.OK {
			return nil, e
		}
		payloads, n := recordsIn(string(p))
		told = append(told, payloads...)
		if n == len(p) {
			continue
		}
		if e := m.d.Cut(named(k), n); e != api.OK {
			return nil, e
		}
		k++
		break
	}
	above := m.names(k, lastSegment+1)
	for i := len(above) - 1; i >= 0; i-- {
		if e := m.d.Remove(above[i]); e != api.OK {
			return nil, e
		}
	}
	*m = model{d: m.d, first: first, last: max(first, k-1), size: size}
	return told, api.OK
}

// fails notes what the disk answered.
func (m *model) fails(e api.Errno) api.Errno {
	m.failed = m.failed || e == api.ErrDown
	return e
}

func (m *model) append(p string) api.Errno {
	switch {
	case m.failed:
		return api.ErrState
	case p == "":
		return api.ErrForm
	case len(p) > mostPayload:
		return api.ErrLong
	case m.bytes(m.last) != "" && len(m.bytes(m.last)+row(p)) > m.size:
		if _, e := m.begin(); e != api.OK {
			return e
		}
	}
	return m.fails(m.d.Append(named(m.last), []byte(row(p))))
}

func (m *model) sync() api.Errno {
	switch {
	case m.failed:
		return api.ErrState
	case m.down():
		return m.fails(api.ErrDown)
	case m.d.Safe(named(m.last)) < len(m.bytes(m.last)):
		return m.fails(m.d.Sync(named(m.last)))
	}
	return api.OK
}

func (m *model) begin() (int, api.Errno) {
	empty := m.bytes(m.last) == "" // it stays so in sync, at which the power may go
	if e := m.sync(); e != api.OK {
		return 0, e
	}
	if empty {
		return m.last, api.OK
	}
	if m.last == lastSegment {
		return 0, api.ErrRange
	}
	m.last++
	return m.last, api.OK
}

func (m *model) drop(k int) api.Errno {
	switch {
	case m.failed:
		return api.ErrState
	case k < m.first || k > m.last:
		return api.ErrRange
	}
	for _, name := range m.names(m.first, k) {
		if e := m.fails(m.d.Remove(name)); e != api.OK {
			return e
		}
	}
	m.first = k
	return api.OK
}

func (m *model) bytesInAll() int {
	n := 0
	for k := m.first; k <= m.last; k++ {
		n += len(m.bytes(k))
	}
	return n
}

// pair is a log, and what it should be.
type pair struct {
	l *Log
	d *disk.Disk
	m *model
}

// both does something on both disks.
func (p *pair) both(t *testing.T, do func(d *disk.Disk) api.Errno) {
	t.Helper()
	answers(t, do(p.d), do(p.m.d))
}

// open opens both, and asks that they answer the same.
func (p *pair) open(t *testing.T, first, size int) {
	t.Helper()
	l, payloads, e := Open(p.d, first, size)
	want, wanted := p.m.open(first, size)
	if e != wanted || !slices.Equal(texts(payloads), want) || (l != nil) != (e == api.OK) {
		t.Fatalf("Open(%d, %d): %q, %d; not %q, %d", first, size, texts(payloads), e, want, wanted)
	}
	if l != nil {
		p.l = l
	}
}

// disturb does to both disks what others than the log do.
func (p *pair) disturb(t *testing.T, rnd *rand.Rand) {
	t.Helper()
	name := []string{"a", "w00000", "w000001", named(rnd.Intn(9)), named(p.m.last), named(p.m.last + 1), named(lastSegment)}[rnd.Intn(7)]
	n := rnd.Intn(40)
	switch rnd.Intn(9) {
	case 0, 1:
		p.both(t, func(d *disk.Disk) api.Errno { return d.Arm(n - 1) })
	case 2, 3, 4:
		keep := []int{rnd.Intn(30), rnd.Intn(30), rnd.Intn(30), rnd.Intn(3), rnd.Intn(3)}
		p.both(t, func(d *disk.Disk) api.Errno { return d.Crash(keep) })
	case 5:
		p.both(t, func(d *disk.Disk) api.Errno { return d.Limit(20 * n) })
	case 6:
		p.both(t, func(d *disk.Disk) api.Errno { return d.Append(name, []byte(text(n%5))) })
	case 7:
		p.both(t, func(d *disk.Disk) api.Errno { return d.Remove(name) })
	case 8:
		p.both(t, func(d *disk.Disk) api.Errno { return d.Cut(name, n) })
	}
}

// step does one call on both, and asks that they answer the same.
func (p *pair) step(t *testing.T, rnd *rand.Rand) {
	t.Helper()
	switch kind := rnd.Intn(60); {
	case kind < 26:
		s := text(rnd.Intn(4) * rnd.Intn(14))
		answers(t, p.l.Append([]byte(s)), p.m.append(s))
	case kind < 33:
		answers(t, p.l.Sync(), p.m.sync())
	case kind < 38:
		k, e := p.l.Begin()
		want, wanted := p.m.begin()
		if k != want || e != wanted {
			t.Fatalf("Begin: %d, %d; not %d, %d", k, e, want, wanted)
		}
	case kind < 44:
		k := p.m.first + rnd.Intn(p.m.last-p.m.first+3) - 1
		answers(t, p.l.Drop(k), p.m.drop(k))
	case kind < 54:
		p.disturb(t, rnd)
	default:
		first := []int{p.m.first, p.m.first, p.m.first + 1, p.m.last, p.m.last + 1, 1, rnd.Intn(9), lastSegment}[rnd.Intn(8)]
		p.open(t, first, 14+rnd.Intn(60))
	}
}

func (p *pair) check(t *testing.T) {
	t.Helper()
	checkLog(t, p.l, p.m.first, p.m.last, p.m.bytesInAll())
	checkView(t, p.d, look(t, p.m.d))
}

// P12.1 to P12.3, of any calls
func TestAnyCalls(t *testing.T) {
	for seed := range 150 {
		rnd := rand.New(rand.NewSource(int64(seed)))
		d := made(t)
		p := &pair{d: d, m: &model{d: d.Fork()}}
		p.open(t, []int{1, 1, 3, lastSegment - 2}[rnd.Intn(4)], 16+rnd.Intn(60))
		for range 200 {
			p.step(t, rnd)
			p.check(t)
		}
	}
}

// What a call answers hangs on the calls ahead alone: the same ones make the same log.
func TestTheSameCallsMakeTheSameLog(t *testing.T) {
	for seed := range 20 {
		var views []view
		for range 3 {
			rnd := rand.New(rand.NewSource(int64(seed)))
			d := made(t)
			p := &pair{d: d, m: &model{d: d.Fork()}}
			p.open(t, 1, 30)
			for range 100 {
				p.step(t, rnd)
			}
			views = append(views, look(t, d))
			checkView(t, d, views[0])
		}
	}
}
