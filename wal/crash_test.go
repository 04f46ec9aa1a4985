package wal

import (
	"math/rand"
	"slices"
	"testing"

	"portage/api"
	"portage/disk"
)

// diary is a log, and who writes down what was put into it.
type diary struct {
	d     *disk.Disk
	l     *Log
	size  int
	first int // of the segments that are to be opened
	put   []entry
	safe  int // so many of those put are safe
}

// entry is a record, and the segment that it was put into.
type entry struct {
	payload string
	segment int
}

// do does one call; of the numbers below 0 -1 is a Sync, -2 a Begin, -3 a Drop of all but the last segment; others are an Append of so many bytes.
func (y *diary) do(t *testing.T, n int) api.Errno {
	t.Helper()
	last := y.l.Last()
	var e api.Errno
	switch n {
	case -1:
		e = y.l.Sync()
	case -2:
		_, e = y.l.Begin()
	case -3:
		y.first = last // the one that is asked for, as far as the call comes
		e = y.l.Drop(last)
	default:
		p := text(n)[1:] + string(rune('a'+len(y.put)%26))
		e = y.l.Append([]byte(p))
		if y.l.Last() > last {
			y.safe = len(y.put)
		}
		if e == api.OK {
			y.put = append(y.put, entry{p, y.l.Last()})
		}
	}
	if e == api.OK && (n == -1 || n == -2) {
		y.safe = len(y.put)
	}
	return e
}

// wanted answers the payloads of the first of those put that are not dropped.
func (y *diary) wanted(n int) []string {
	var out []string
	for _, r := range y.put[:n] {
		if r.segment >= y.first {
			out = append(out, r.payload)
		}
	}
	return out
}

// checkBehind asks what is there when the power has come again: all that was safe, and a beginning of the rest.
func (y *diary) checkBehind(t *testing.T, keep []int) (*Log, *disk.Disk) {
	t.Helper()
	d := y.d.Fork()
	ok(t, d.Crash(keep))
	l, payloads, e := Open(d, y.first, y.size)
	ok(t, e)
	told := texts(payloads)
	least, most := y.wanted(y.safe), y.wanted(len(y.put))
	if len(told) < len(least) || len(told) > len(most) || !slices.Equal(told, most[:len(told)]) {
		t.Fatalf("keeping %d: %q; not %q and a beginning of %q", keep, told, least, most)
	}
	was := look(t, d)
	opened(t, d, y.first, y.size, told...) // P12.5
	checkView(t, d, was)
	return l, d
}

// checkSegments asks that no segment has more bytes than it may (P12.6).
func checkSegments(t *testing.T, d *disk.Disk, size int) {
	t.Helper()
	for _, f := range filesOf(t, d) {
		payloads, _ := recordsIn(f.bytes)
		if len(f.bytes) > size && len(payloads) != 1 {
			t.Fatalf("%s has %d bytes, in %d records", f.name, len(f.bytes), len(payloads))
		}
	}
}

// recordsIn answers the payloads of whole records, and how many bytes they take; the sums are those of other tests.
func recordsIn(p string) ([]string, int) {
	var out []string
	at := 0
	for at+head < len(p) {
		n := int(p[at])<<24 | int(p[at+1])<<16 | int(p[at+2])<<8 | int(p[at+3])
		if n < 1 || n > len(p)-at-head || row(p[at+head:at+head+n]) != p[at:at+head+n] {
			break
		}
		out = append(out, p[at+head:at+head+n])
		at += head + n
	}
	return out, at
}

// keeps answers how much of the tails may be kept: each number, of all files, and some others.
func keeps(rnd *rand.Rand, d *disk.Disk) [][]int {
	most, out := 0, [][]int{nil}
	for _, p := range d.Names() {
		row, _ := d.Read(p)
		most = max(most, len(row)-d.Safe(p))
	}
	if d.Down() {
		most = 120
	}
	for n := 1; n <= most+1; n++ {
		out = append(out, slices.Repeat([]int{n}, mostFiles))
	}
	for range 3 {
		keep := make([]int, len(d.Names()))
		for i := range keep {
			keep[i] = rnd.Intn(most + 2)
		}
		out = append(out, keep)
	}
	return out
}

// scenarios answers calls as diary.do has them, and a size of segments.
func scenarios() map[int][]int {
	return map[int][]int{
		16: {1, 2, 30, -1, 3, -1, -1, -2, 5, 6, -3, 7, 8, -1, -3, -3, 40},
		20: {1, 1, 1, -1, 1, 1, -2, -2, 1, -3, 1, 4, 4, -1, 3, 1, 1},
		60: {1, 20, 3, 40, 3, -1, 4, 5, 100, 6, 7, -2, 8, 9, 10, -1, 30, -3, 2, 2, 2, 2, 2, 2, 2, -1, 2},
	}
}

// P12.4, P12.5, P12.6: the power goes at each change in turn
func TestTheRecordsThatWereSafe(t *testing.T) {
	for size, calls := range scenarios() {
		for n := 0; ; n++ {
			rnd := rand.New(rand.NewSource(int64(n)))
			d := made(t)
			y := &diary{d: d, l: opened(t, d, 1, size), size: size, first: 1}
			ok(t, d.Arm(n))
			done := 0
			for done < len(calls) && y.do(t, calls[done]) == api.OK {
				done++
			}
			down := d.Down()
			checkSegments(t, d, size)
			for _, keep := range keeps(rnd, d) {
				y.checkBehind(t, keep)
			}
			if down && done < len(calls) {
				failed(t, y.l, d)
			}
			if !down {
				break
			}
		}
	}
}

// The same, without an armed disk: a crash between any two calls.
func TestACrashBehindEachCall(t *testing.T) {
	for size, calls := range scenarios() {
		rnd := rand.New(rand.NewSource(int64(size)))
		d := made(t)
		y := &diary{d: d, l: opened(t, d, 1, size), size: size, first: 1}
		for _, n := range calls {
			ok(t, y.do(t, n))
			checkSegments(t, d, size)
			for _, keep := range keeps(rnd, d) {
				l, other := y.checkBehind(t, keep)
				appends(t, l, "more") // it is gone on with
				ok(t, l.Sync())
				checkSegments(t, other, size)
			}
			before := look(t, d)
			checkBytes(t, d, y.wanted(len(y.put)))
			checkView(t, d, before)
		}
	}
}

// checkBytes asks that the segments have just the records of these payloads.
func checkBytes(t *testing.T, d *disk.Disk, want []string) {
	t.Helper()
	var got []string
	for _, f := range filesOf(t, d) {
		payloads, n := recordsIn(f.bytes)
		if n != len(f.bytes) {
			t.Fatalf("%s has other bytes than records", f.name)
		}
		got = append(got, payloads...)
	}
	if !slices.Equal(got, want) {
		t.Fatalf("%q; not %q", got, want)
	}
}

// How much is told is how much was kept: just the records that are whole.
func TestAnyPartOfATailIsKept(t *testing.T) {
	payloads := []string{"ab", "c", "defg", "h", text(30)}
	for synced := range len(payloads) + 1 {
		d := made(t)
		l := opened(t, d, 1, 1000)
		appends(t, l, payloads[:synced]...)
		ok(t, l.Sync())
		appends(t, l, payloads[synced:]...)
		safe := len(row(payloads[:synced]...))
		for keep := range len(row(payloads...)) - safe + 1 {
			n := synced
			for n < len(payloads) && len(row(payloads[:n+1]...)) <= safe+keep {
				n++
			}
			fork := d.Fork()
			ok(t, fork.Crash([]int{keep}))
			opened(t, fork, 1, 1000, payloads[:n]...)
			checkFiles(t, fork, safely("w00001", row(payloads[:n]...)))
		}
	}
}

// The power goes in the midst of Open behind a crash, again and again.
func TestACrashWithinOpen(t *testing.T) {
	d := made(t)
	l := opened(t, d, 1, 20)
	appends(t, l, "a", "b", "c", "d", "e")
	begins(t, l, 4)
	appends(t, l, "f")
	ok(t, l.Sync())
	appends(t, l, "g")
	for first := 1; first <= 5; first++ {
		for keep := range 10 {
			for n := 1; n < 9; n++ {
				fork := d.Fork()
				ok(t, fork.Crash(slices.Repeat([]int{keep}, mostFiles)))
				want := [][]string{{"a", "b", "c", "d", "e", "f"}, {"c", "d", "e", "f"}, {"e", "f"}, {"f"}, nil}[first-1]
				if keep == 9 && first < 5 {
					want = append(want, "g")
				}
				ok(t, fork.Arm(n))
				Open(fork, first, 20)
				ok(t, fork.Crash(nil))
				opened(t, fork, first, 20, want...)
			}
		}
	}
}

// P12.6: what is refused changes no record, wherever the disk has no room.
func TestAppendWithAnyRoom(t *testing.T) {
	for size := 16; size < 40; size += 3 {
		for room := range 120 {
			d := made(t)
			l := opened(t, d, 1, size)
			ok(t, d.Limit(room))
			var put []string
			for i := range 12 {
				p := text(1 + i*i%7)
				was := filesOf(t, d)
				e := l.Append([]byte(p))
				if e == api.OK {
					put = append(put, p)
				} else {
					answers(t, e, api.ErrFull)
					for j, f := range filesOf(t, d) { // but for what is safe of it
						if len(was) <= j || f.bytes != was[j].bytes || f.name != was[j].name {
							t.Fatalf("a refused Append made %v of %v", filesOf(t, d), was)
						}
					}
				}
				checkSegments(t, d, size)
				checkBytes(t, d, put)
			}
			if l.Size() > room || l.Size() != len(row(put...)) {
				t.Fatalf("%d bytes, with room for %d", l.Size(), room)
			}
		}
	}
}
