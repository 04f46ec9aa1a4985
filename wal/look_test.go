package wal

import (
	"encoding/binary"
	"hash/crc32"
	"math"
	"slices"
	"strings"
	"testing"

	"portage/api"
	"portage/disk"
)

const (
	lastSegment = 99999
	mostSize    = 1048576 // MaxDisk
	mostFiles   = 64      // MaxFiles
	mostPayload = 65536   // MaxRecord
	mostArmed   = 40      // so many changes are told from never
	head        = 8       // of a record
)

// stands is a file as it is seen from outside.
type stands struct {
	name  string
	bytes string
	safe  int
}

// view is all of a disk that a log could change.
type view struct {
	files []stands
	down  bool
	armed int // behind so many changes the power goes; -1, if it does not
}

func (v view) same(other view) bool {
	return slices.Equal(v.files, other.files) && v.down == other.down && v.armed == other.armed
}

// look asks a disk, and forks of it, for all of that.
func look(t *testing.T, d *disk.Disk) view {
	t.Helper()
	return view{filesOf(t, d), d.Down(), armedOf(t, d)}
}

func filesOf(t *testing.T, d *disk.Disk) []stands {
	t.Helper()
	readable := d.Fork()
	ok(t, readable.Crash(slices.Repeat([]int{math.MaxInt}, mostFiles))) // power, and all bytes
	var out []stands
	for _, name := range d.Names() {
		p, e := readable.Read(name)
		ok(t, e)
		out = append(out, stands{name, string(p), d.Safe(name)})
	}
	return out
}

// armedOf makes changes on a fork that leave no trace but themselves, till the power goes.
func armedOf(t *testing.T, d *disk.Disk) int {
	t.Helper()
	if d.Down() {
		return 0
	}
	d = d.Fork()
	ok(t, d.Limit(mostSize))
	for n := range mostArmed {
		if d.Down() {
			return n
		}
		if l := d.Names(); len(l) > 0 {
			ok(t, d.Sync(l[0]))
		} else {
			ok(t, d.Append("armed", nil))
		}
	}
	return -1
}

func checkView(t *testing.T, d *disk.Disk, want view) {
	t.Helper()
	if got := look(t, d); !got.same(want) {
		t.Fatalf("the disk is %+v; not %+v", short(got), short(want))
	}
}

// short answers a view for a reader, with what is long cut.
func short(v view) view {
	v.files = slices.Clone(v.files)
	for i, f := range v.files {
		if len(f.bytes) > 60 {
			v.files[i].bytes = f.bytes[:60] + ".."
		}
	}
	return v
}

// checkFiles asks that a disk has just these files, and power for ever.
func checkFiles(t *testing.T, d *disk.Disk, want ...stands) {
	t.Helper()
	checkView(t, d, view{files: want, armed: -1})
}

func made(t *testing.T) *disk.Disk {
	t.Helper()
	d, e := disk.New(mostSize)
	ok(t, e)
	return d
}

// laid answers a disk with these files.
func laid(t *testing.T, files ...stands) *disk.Disk {
	t.Helper()
	d := made(t)
	for _, f := range files {
		ok(t, d.Append(f.name, []byte(f.bytes[:f.safe])))
		ok(t, d.Sync(f.name))
		ok(t, d.Append(f.name, []byte(f.bytes[f.safe:])))
	}
	return d
}

// powerless answers such a disk whose power has gone.
func powerless(t *testing.T, files ...stands) *disk.Disk {
	t.Helper()
	d := laid(t, files...)
	ok(t, d.Arm(0))
	return d
}

// safely answers a file whose bytes are all safe.
func safely(name, p string) stands {
	return stands{name, p, len(p)}
}

// row answers the records of these payloads, one behind the other.
func row(payloads ...string) string {
	var out strings.Builder
	for _, p := range payloads {
		length := binary.BigEndian.AppendUint32(nil, uint32(len(p)))
		sum := crc32.ChecksumIEEE(append(length, p...))
		out.Write(length)
		out.Write(binary.BigEndian.AppendUint32(nil, sum))
		out.WriteString(p)
	}
	return out.String()
}

func text(n int) string {
	return strings.Repeat("0123456789", n/10+1)[:n]
}

func texts(payloads [][]byte) []string {
	var out []string
	for _, p := range payloads {
		out = append(out, string(p))
	}
	return out
}

func ok(t *testing.T, e api.Errno) {
	t.Helper()
	answers(t, e, api.OK)
}

func answers(t *testing.T, e, want api.Errno) {
	t.Helper()
	if e != want {
		t.Fatalf("%d; not %d", e, want)
	}
}

// opened answers the log that Open makes, which must tell just these payloads.
func opened(t *testing.T, d *disk.Disk, first, size int, want ...string) *Log {
	t.Helper()
	l, payloads, e := Open(d, first, size)
	if got := texts(payloads); l == nil || e != api.OK || !slices.Equal(got, want) {
		t.Fatalf("Open(%d, %d): %v, %q, %d; not %q", first, size, l != nil, got, e, want)
	}
	return l
}

// opensNot asks that Open answers that error, and nothing else.
func opensNot(t *testing.T, d *disk.Disk, first, size int, want api.Errno) {
	t.Helper()
	if l, payloads, e := Open(d, first, size); l != nil || payloads != nil || e != want {
		t.Fatalf("Open(%d, %d): %v, %q, %d; not %d", first, size, l != nil, payloads, e, want)
	}
}

func checkLog(t *testing.T, l *Log, first, last, size int) {
	t.Helper()
	if l.First() != first || l.Last() != last || l.Size() != size {
		t.Fatalf("from %d to %d, %d bytes; not from %d to %d, %d bytes", l.First(), l.Last(), l.Size(), first, last, size)
	}
}

func appends(t *testing.T, l *Log, payloads ...string) {
	t.Helper()
	for _, p := range payloads {
		ok(t, l.Append([]byte(p)))
	}
}

func begins(t *testing.T, l *Log, want int) {
	t.Helper()
	if k, e := l.Begin(); k != want || e != api.OK {
		t.Fatalf("Begin: %d, %d; not %d", k, e, want)
	}
}

// called is a call, by the text of it.
type called struct {
	text string
	do   func(l *Log) api.Errno
}

func appending(p string) called {
	return called{"Append", func(l *Log) api.Errno { return l.Append([]byte(p)) }}
}

func syncing() called {
	return called{"Sync", (*Log).Sync}
}

func beginning(t *testing.T) called {
	return called{"Begin", func(l *Log) api.Errno {
		k, e := l.Begin()
		if e != api.OK && k != 0 {
			t.Errorf("Begin: %d beside %d", k, e)
		}
		return e
	}}
}

func dropping(k int) called {
	return called{"Drop", func(l *Log) api.Errno { return l.Drop(k) }}
}

// refuses asks that a call is refused by that error, and changes nothing.
func refuses(t *testing.T, l *Log, d *disk.Disk, want api.Errno, calls ...called) {
	t.Helper()
	was := look(t, d)
	first, last, size := l.First(), l.Last(), l.Size()
	for _, c := range calls {
		if e := c.do(l); e != want {
			t.Errorf("%s: %d; not %d", c.text, e, want)
		}
		checkView(t, d, was)
		checkLog(t, l, first, last, size)
	}
}

// failed asks that a log has failed: each call answers ErrState, and changes nothing.
func failed(t *testing.T, l *Log, d *disk.Disk) {
	t.Helper()
	refuses(t, l, d, api.ErrState,
		appending("x"), appending(""), appending(text(mostPayload+1)), syncing(), beginning(t),
		dropping(l.First()), dropping(l.Last()), dropping(l.First()-1), dropping(l.Last()+1), dropping(0), dropping(-1))
}

// scribble turns the bytes of p, and those in the room behind it.
func scribble(p []byte) {
	p = p[:cap(p)]
	for i := range p {
		p[i] ^= 0xff
	}
}

// outside answers numbers that are not from least to most.
func outside(least, most int) []int {
	return []int{least - 1, least - 2, -1, -2, -256, most + 1, most + 2, most + 1<<20, 1<<31 - 1, 1 << 31, 1<<32 + 1, math.MinInt, math.MinInt + 1, math.MaxInt - 1, math.MaxInt}
}
