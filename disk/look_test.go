package disk

import (
	"bytes"
	"math"
	"slices"
	"strconv"
	"strings"
	"testing"

	"portage/api"
)

const (
	mostLimit = 1048576 // MaxDisk
	mostFiles = 64      // MaxFiles
	mostName  = 12      // MaxName
	mostArmed = 40      // so many changes are told from never
)

// stands is a file as it is seen from outside.
type stands struct {
	name  string
	bytes string
	safe  int
}

func (s stands) tail() int { return len(s.bytes) - s.safe }

// view is all of a disk that a later call could tell.
type view struct {
	files []stands
	used  int
	limit int
	down  bool
	armed int // behind so many changes the power goes; -1, if it does not
}

func (v view) same(other view) bool {
	return slices.Equal(v.files, other.files) && v.used == other.used && v.limit == other.limit && v.down == other.down && v.armed == other.armed
}

// look asks a disk for all that it tells, and forks of it for the rest.
func look(t *testing.T, d *Disk) view {
	t.Helper()
	return view{files: filesOf(t, d), used: d.Used(), limit: limitOf(t, d), down: d.Down(), armed: armedOf(t, d)}
}

func filesOf(t *testing.T, d *Disk) []stands {
	t.Helper()
	readable := d
	if d.Down() {
		readable = d.Fork()
		keepAll(t, readable) // power, and all bytes
	}
	var out []stands
	for _, name := range d.Names() {
		p, e := readable.Read(name)
		if e != api.OK {
			t.Fatalf("Read(%q): %v", name, e)
		}
		out = append(out, stands{name, string(p), d.Safe(name)})
	}
	return out
}

func keepAll(t *testing.T, d *Disk) {
	t.Helper()
	ok(t, d.Crash(slices.Repeat([]int{math.MaxInt}, mostFiles)))
}

var zeros = make([]byte, mostLimit)

// limitOf fills an emptied fork up.
func limitOf(t *testing.T, d *Disk) int {
	t.Helper()
	d = d.Fork()
	keepAll(t, d)
	for _, name := range d.Names() {
		ok(t, d.Remove(name))
	}
	for n := mostLimit; n > 0; n /= 2 {
		d.Append("limit", zeros[:n])
	}
	return d.Used()
}

// armedOf makes changes on a fork that leave no trace but themselves, till the power goes.
func armedOf(t *testing.T, d *Disk) int {
	t.Helper()
	if d.Down() {
		return 0
	}
	d = d.Fork()
	for n := range mostArmed {
		if d.Down() {
			return n
		}
		if l := d.Names(); len(l) > 0 {
			ok(t, d.Sync(l[0]))
		} else {
			ok(t, d.Append("armed", nil))
		}
	}
	return -1
}

func checkView(t *testing.T, d *Disk, want view) {
	t.Helper()
	if got := look(t, d); !got.same(want) {
		t.Fatalf("the disk is %+v; not %+v", short(got), short(want))
	}
}

// short answers a view for a reader, with what is long cut.
func short(v view) view {
	v.files = slices.Clone(v.files)
	for i, f := range v.files {
		if len(f.bytes) > 40 {
			v.files[i].bytes = f.bytes[:40] + ".."
		}
	}
	return v
}

func checkFiles(t *testing.T, d *Disk, want ...stands) {
	t.Helper()
	if got := filesOf(t, d); !slices.Equal(got, want) {
		t.Fatalf("the files are %v; not %v", got, want)
	}
	var names []string
	used := 0
	for _, f := range want {
		names = append(names, f.name)
		used += len(f.bytes)
	}
	if !slices.Equal(d.Names(), names) || d.Used() != used {
		t.Fatalf("names %q, %d bytes in use; not %q, %d", d.Names(), d.Used(), names, used)
	}
}

func made(t *testing.T, limit int) *Disk {
	t.Helper()
	d, e := New(limit)
	if d == nil || e != api.OK {
		t.Fatalf("New(%d): %v %v", limit, d, e)
	}
	return d
}

// laid answers a disk with these files, of that limit.
func laid(t *testing.T, limit int, files ...stands) *Disk {
	t.Helper()
	d := made(t, mostLimit)
	for _, f := range files {
		ok(t, d.Append(f.name, []byte(f.bytes[:f.safe])))
		ok(t, d.Sync(f.name))
		ok(t, d.Append(f.name, []byte(f.bytes[f.safe:])))
	}
	ok(t, d.Limit(limit))
	return d
}

// powerless answers such a disk whose power has gone.
func powerless(t *testing.T, limit int, files ...stands) *Disk {
	t.Helper()
	d := laid(t, limit, files...)
	ok(t, d.Arm(0))
	return d
}

func ok(t *testing.T, e api.Errno) {
	t.Helper()
	answers(t, e, api.OK)
}

func answers(t *testing.T, e, want api.Errno) {
	t.Helper()
	if e != want {
		t.Fatalf("%d; not %d", e, want)
	}
}

// called is a call, by the text of it.
type called struct {
	text string
	do   func(d *Disk) api.Errno
}

func appends(name, p string) called {
	return called{"Append " + name, func(d *Disk) api.Errno { return d.Append(name, []byte(p)) }}
}

func syncs(name string) called {
	return called{"Sync " + name, func(d *Disk) api.Errno { return d.Sync(name) }}
}

func cuts(name string, n int) called {
	return called{"Cut " + name + " " + strconv.Itoa(n), func(d *Disk) api.Errno { return d.Cut(name, n) }}
}

func renames(from, to string) called {
	return called{"Rename " + from + " " + to, func(d *Disk) api.Errno { return d.Rename(from, to) }}
}

func removes(name string) called {
	return called{"Remove " + name, func(d *Disk) api.Errno { return d.Remove(name) }}
}

func reads(t *testing.T, name string) called {
	return called{"Read " + name, func(d *Disk) api.Errno {
		p, e := d.Read(name)
		if e != api.OK && p != nil {
			t.Errorf("Read %q: % x beside %d", name, p, e)
		}
		return e
	}}
}

// ofName answers each call that is about a file, of this name; of Rename both ways.
func ofName(t *testing.T, name string) []called {
	return []called{
		appends(name, "x"), appends(name, ""), syncs(name), cuts(name, 0), cuts(name, -1),
		renames(name, "free"), renames("a", name), renames("none", name), renames(name, name), removes(name), reads(t, name),
	}
}

// refuses asks that a call is refused by that error, and changes nothing.
func refuses(t *testing.T, d *Disk, want api.Errno, calls ...called) {
	t.Helper()
	was := look(t, d)
	for _, c := range calls {
		if e := c.do(d); e != want {
			t.Errorf("%q: %d; not %d", c.text, e, want)
		}
		checkView(t, d, was)
	}
}

// many answers so many files, by rising names, of one byte each.
func many(n int) []stands {
	var out []stands
	for i := range n {
		out = append(out, stands{"m" + string(rune('0'+i/10)) + string(rune('0'+i%10)), "x", 1})
	}
	return out
}

// scribble turns the bytes of p, and those in the room behind it.
func scribble(p []byte) {
	p = p[:cap(p)]
	for i := range p {
		p[i] ^= 0xff
	}
}

func text(n int) string {
	return strings.Repeat("0123456789", n/10+1)[:n]
}

func sameBytes(t *testing.T, d *Disk, name, want string) {
	t.Helper()
	p, e := d.Read(name)
	if !bytes.Equal(p, []byte(want)) || e != api.OK {
		t.Fatalf("Read(%q): %q %d; not %q", name, p, e, want)
	}
}
