package custody_test

import (
	"math"
	"slices"
	"testing"

	"portage/api"
	"portage/custody"
	"portage/disk"
)

// opensNot asks that Open answers that error, and nothing else.
func opensNot(t *testing.T, d *disk.Disk, node int, q api.Quota, size int, want api.Errno) {
	t.Helper()
	if c, e := custody.Open(d, node, q, size); c != nil || e != want {
		t.Fatalf("Open(%d, %+v, %d): %v, %d; not %d", node, q, size, c != nil, e, want)
	}
}

// outside answers numbers that are not from least to most.
func outside(least, most int) []int {
	return []int{least - 1, least - 2, -1 << 32, most + 1, most + 2, most + 1<<20, 1<<32 + least, math.MinInt, math.MaxInt}
}

// wrong answers what Open's numbers may not be, one of them at a time.
func wrong() []struct {
	node int
	q    api.Quota
	size int
} {
	type numbers = struct {
		node int
		q    api.Quota
		size int
	}
	var out []numbers
	for _, n := range outside(0, nodes-1) {
		out = append(out, numbers{n, great(), segment})
	}
	for _, n := range outside(0, mostHeld) {
		out = append(out, numbers{self, quota(n, 0, 0), segment})
	}
	for _, n := range outside(0, mostBytes) {
		out = append(out, numbers{self, quota(0, n, 0), segment})
	}
	for _, n := range outside(0, mostGaps) {
		out = append(out, numbers{self, quota(0, 0, n), segment})
	}
	for _, n := range outside(16, mostBytes) {
		out = append(out, numbers{self, great(), n})
	}
	return append(out, numbers{64, quota(-1, -1, -1), 15})
}

// P17.1: what Open is given

func TestOpenOfANilDisk(t *testing.T) {
	opensNot(t, nil, self, great(), segment, api.ErrState)
	for _, x := range wrong() { // ahead of ErrRange
		opensNot(t, nil, x.node, x.q, x.size, api.ErrState)
	}
}

func TestOpenWithNumbersOutOfTheirRange(t *testing.T) {
	d := laid(t, safely("t", "draft"), safely(snapshot(1), "none's"), safely(snapshot(2), shot(some())), stands{part(2), log(boot()), 3})
	ok(t, d.Arm(9))
	was := look(t, d)
	for _, x := range wrong() {
		opensNot(t, d, x.node, x.q, x.size, api.ErrRange)
	}
	checkView(t, d, was)
	ok(t, d.Arm(0))
	for _, x := range wrong() { // ahead of ErrDown
		opensNot(t, d, x.node, x.q, x.size, api.ErrRange)
	}
	was.down, was.armed = true, 0
	checkView(t, d, was)
}

func TestOpenWithNumbersAtTheirEnds(t *testing.T) {
	for _, node := range []int{0, 1, 62, 63} {
		for _, q := range []api.Quota{{}, great(), quota(mostHeld, 0, 0), quota(0, mostBytes, 0), quota(0, 0, mostGaps)} {
			for _, size := range []int{16, 17, mostBytes - 1, mostBytes} {
				d := made(t)
				c, e := custody.Open(d, node, q, size)
				ok(t, e)
				checkState(t, c, api.State{Self: node, Epoch: 1})
				checkFiles(t, d, safely(part(1), log(boot())))
			}
		}
	}
}

// The quota is the store's, the segment the log's.
func TestOpenUsesItsNumbers(t *testing.T) {
	d := made(t)
	c, e := custody.Open(d, 5, quota(2, 7, 1), 30)
	ok(t, e)
	puts(t, c, hold(id(5, 2, 1, 1), "abcd")) // 9 and 19 bytes
	refuses(t, c, d, api.ErrFull, putting(hold(id(1, 2, 1, 1), "abcd")))
	puts(t, c, hold(id(1, 2, 1, 1), "a")) // 16 bytes
	refuses(t, c, d, api.ErrFull, putting(hold(id(1, 2, 1, 2), "a")))
	puts(t, c, deliver(id(1, 5, 1, 2)))
	refuses(t, c, d, api.ErrFull, putting(deliver(id(1, 5, 1, 4))))
	checkFiles(t, d,
		safely(part(1), log(boot(), hold(id(5, 2, 1, 1), "abcd"))),
		safely(part(2), log(hold(id(1, 2, 1, 1), "a"))),
		safely(part(3), log(deliver(id(1, 5, 1, 2)))))
}

func TestOpenWithoutPower(t *testing.T) {
	files := []stands{safely("t", "draft"), safely(snapshot(1), "none's"), safely(snapshot(2), shot(some())), {part(2), log(boot()), 3}}
	for _, d := range []*disk.Disk{made(t), laid(t, files...)} {
		ok(t, d.Arm(0))
		was := look(t, d)
		opensNot(t, d, self, great(), segment, api.ErrDown)
		checkView(t, d, was)
	}
}

// P17.1: what stands on the disk

func TestOpenOfNoFiles(t *testing.T) {
	d := made(t)
	opened(t, d, api.State{Self: self, Epoch: 1})
	checkFiles(t, d, safely("w00001", "\x00\x00\x00\x01"+"\xa8\x3e\xf6\xca"+"\x01"))
}

func TestOpenOfALogAlone(t *testing.T) {
	held, gone := id(self, 1, 1, 1), id(8, 9, 4, 4)
	first := []api.Ev{boot(), hold(held, "abc")}
	second := []api.Ev{hold(gone, "x"), deliver(id(7, self, 2, 2)), release(gone)}
	d := laid(t, safely(part(1), log(first...)), safely(part(2), log(second...)))
	opened(t, d, of(slices.Concat(first, second, []api.Ev{boot()})...))
	second = append(second, boot())
	checkFiles(t, d, safely(part(1), log(first...)), safely(part(2), log(second...)))
	opened(t, d, of(slices.Concat(first, second, []api.Ev{boot()})...)) // for which the segment has no room
	checkFiles(t, d, safely(part(1), log(first...)), safely(part(2), log(second...)), safely(part(3), log(boot())))
}

// What is not safe is read, too: the power has not gone since.
func TestOpenOfATail(t *testing.T) {
	l := []api.Ev{boot(), hold(id(self, 1, 1, 1), "abc"), release(id(self, 1, 1, 1))}
	d := laid(t, stands{part(1), log(l...), 9})
	opened(t, d, of(append(l, boot())...))
	checkFiles(t, d, safely(part(1), log(append(l, boot())...)))
}

// A log that ends in a part of a record is cut.
func TestOpenOfALogThatWasCut(t *testing.T) {
	l := []api.Ev{boot(), hold(id(self, 1, 1, 1), "abc")}
	for n := 10; n < len(log(l...)); n++ {
		d := laid(t, safely(part(1), log(l...)[:n]), safely(part(2), log(boot())))
		opened(t, d, of(boot(), boot()))
		checkFiles(t, d, safely(part(1), log(boot(), boot())))
	}
}

func TestOpenRemovesTheDraft(t *testing.T) {
	for _, draft := range []stands{safely("t", ""), safely("t", shot(some())), {"t", shot(some())[:20], 7}} {
		d := laid(t, draft)
		opened(t, d, of(boot()))
		checkFiles(t, d, safely(part(1), log(boot())))

		d = laid(t, draft, safely(snapshot(4), shot(some())), safely(part(4), log(boot())))
		opened(t, d, replayed(some(), boot(), boot()))
		checkFiles(t, d, safely(snapshot(4), shot(some())), safely(part(4), log(boot(), boot())))
	}
}

func TestOpenOfOneSnapshot(t *testing.T) {
	for _, k := range []int{1, 2, 9, 10, 12345, lastNumber} {
		file := safely(snapshot(k), shot(some()))
		d := laid(t, file)
		c := opened(t, d, replayed(some(), boot()))
		checkFiles(t, d, file, safely(part(k), log(boot())))
		submits(t, c, 1, "x", id(self, 1, 10, 1))
		behind(t, d, 0, replayed(some(), boot(), hold(id(self, 1, 10, 1), "x")))
	}
}

func TestOpenOfAStateOfNothing(t *testing.T) {
	d := laid(t, safely(snapshot(1), shot(api.State{Self: self})))
	opened(t, d, of(boot()))
}

func TestOpenTakesTheGreatestSnapshot(t *testing.T) {
	last := safely(snapshot(1000), shot(some()))
	d := laid(t, safely(snapshot(1), "none's"), safely(snapshot(9), ""), safely(snapshot(200), shot(api.State{Self: self, Epoch: 77})), last)
	opened(t, d, replayed(some(), boot()))
	checkFiles(t, d, last, safely(part(1000), log(boot())))
}

// The log begins with the snapshot's segment; those below are of what it says already, those above a missing one are none of it.
func TestOpenOfASnapshotBesideSegments(t *testing.T) {
	file := safely(snapshot(4), shot(some()))
	below, at, above := safely(part(3), log(boot())), safely(part(4), log(release(id(6, 7, 20, 7)))), safely(part(5), log(hold(id(6, 7, 20, 8), "y")))
	after := replayed(some(), release(id(6, 7, 20, 7)))
	for _, x := range []struct {
		segments []stands
		want     api.State
		left     []stands
	}{
		{nil, some(), []stands{safely(part(4), log(boot()))}},
		{[]stands{below}, some(), []stands{safely(part(4), log(boot()))}},
		{[]stands{safely(part(1), "strange"), below}, some(), []stands{safely(part(4), log(boot()))}},
		{[]stands{at}, after, []stands{safely(part(4), at.bytes+log(boot()))}},
		{[]stands{below, at}, after, []stands{safely(part(4), at.bytes+log(boot()))}},
		{[]stands{above}, some(), []stands{safely(part(4), log(boot()))}},
		{[]stands{below, above}, some(), []stands{safely(part(4), log(boot()))}},
		{[]stands{at, above}, replayed(after, hold(id(6, 7, 20, 8), "y")), []stands{at, safely(part(5), above.bytes+log(boot()))}},
		{[]stands{below, at, above}, replayed(after, hold(id(6, 7, 20, 8), "y")), []stands{at, safely(part(5), above.bytes+log(boot()))}},
		{[]stands{below, at, safely(part(6), "strange")}, after, []stands{safely(part(4), at.bytes+log(boot()))}},
	} {
		d := laid(t, append(x.segments, file)...)
		opened(t, d, replayed(x.want, boot()))
		checkFiles(t, d, append([]stands{file}, x.left...)...)
	}
}

// Without a snapshot the log begins with the segment 1.
func TestOpenOfSegmentsWithoutTheFirst(t *testing.T) {
	d := laid(t, safely(part(2), log(boot(), boot())), safely(part(3), log(boot())))
	opened(t, d, of(boot()))
	checkFiles(t, d, safely(part(1), log(boot())))
}

func TestOpenLeavesOtherFiles(t *testing.T) {
	var others []stands
	for _, name := range []string{"a", "s", "s0", "s00000", "s000001", "s0000001", "s00010.", "s0001", "s0x001", "s1", "s100000", "s4", "s99999.", "ss00005", "t.", "t0", "tt", "u00001", "w00000", "w000004", "z"} {
		others = append(others, safely(name, "of others"))
	}
	d := laid(t, others...)
	opened(t, d, of(boot()))
	checkFiles(t, d, sorted(append(others, safely(part(1), log(boot()))))...)

	d = laid(t, append(others, safely(snapshot(4), shot(some())), safely(snapshot(3), ""))...)
	opened(t, d, replayed(some(), boot()))
	checkFiles(t, d, sorted(append(others, safely(snapshot(4), shot(some())), safely(part(4), log(boot()))))...)
}

// sorted answers files by their names.
func sorted(l []stands) []stands {
	out := slices.Clone(l)
	slices.SortFunc(out, func(a, b stands) int {
		if a.name < b.name {
			return -1
		}
		return 1
	})
	return out
}

// P17.1: snapshots that are refused

// badShots answers bytes that are no state's of self.
func badShots() []string {
	st := some()
	whole := shot(st)
	out := []string{"", "x", long(12), whole + "x", whole[1:], whole + whole}
	for n := range len(whole) {
		turned := []byte(whole)
		turned[n] ^= 1 << (n % 8)
		out = append(out, whole[:n], string(turned))
	}
	for _, node := range []int{0, self - 1, self + 1, 63} { // others' states, and one that is not right
		out = append(out, shot(api.State{Self: node}), shot(api.State{Self: node, Epoch: 9, Seen: st.Seen[1:2]}))
	}
	st.Held = append(st.Held, st.Held[0])
	return append(out, shot(st), shot(api.State{Self: self, Next: st.Next}))
}

func TestOpenOfASnapshotThatIsNoStates(t *testing.T) {
	rest := []stands{safely(part(3), log(boot())), {part(4), log(boot()), 2}}
	for _, p := range badShots() {
		bad := safely(snapshot(4), p)
		d := laid(t, append(rest, bad, safely("t", "draft"), safely(snapshot(2), shot(some())), safely(snapshot(3), shot(some())))...)
		opensNot(t, d, self, great(), segment, api.ErrForm)
		checkFiles(t, d, append([]stands{bad}, rest...)...) // what comes ahead of that is done, the log is not opened
		opensNot(t, d, self, api.Quota{}, 16, api.ErrForm)  // ahead of ErrFull
		checkFiles(t, d, append([]stands{bad}, rest...)...)
	}
}

// It is not passed over for an older one.
func TestOpenOfABadSnapshotAboveARightOne(t *testing.T) {
	d := laid(t, safely(snapshot(4), shot(some())), safely(snapshot(5), shot(some())+"x"))
	opensNot(t, d, self, great(), segment, api.ErrForm)
	checkFiles(t, d, safely(snapshot(5), shot(some())+"x"))
}

func TestOpenOfASnapshotBeyondTheQuota(t *testing.T) {
	files := []stands{safely(snapshot(4), shot(some())), {part(4), log(boot()), 2}}
	for _, q := range []api.Quota{{}, quota(2, 6, 3), quota(3, 5, 3), quota(3, 6, 2), quota(0, 6, 3), quota(3, 0, 3), quota(3, 6, 0), quota(2, mostBytes, mostGaps), quota(mostHeld, 5, mostGaps), quota(mostHeld, mostBytes, 2)} {
		d := laid(t, append(files, safely(snapshot(3), ""), safely("t", ""))...)
		opensNot(t, d, self, q, segment, api.ErrFull)
		checkFiles(t, d, files...)
	}
	for _, q := range []api.Quota{quota(3, 6, 3), quota(4, 7, 4)} {
		d := laid(t, files...)
		c, e := custody.Open(d, self, q, segment)
		ok(t, e)
		checkState(t, c, replayed(some(), boot(), boot()))
	}
	d := laid(t, safely(snapshot(4), shot(api.State{Self: self + 1, Held: some().Held[1:2]})))
	opensNot(t, d, self, api.Quota{}, segment, api.ErrForm) // another one's, whatever it has
}

// P17.1: logs that are refused

func TestOpenOfALogWhoseRecordIsNoEvents(t *testing.T) {
	i := id(6, 7, 20, 7)
	for _, p := range []string{
		"\x00", "\x05", "\xff", "\x01\x00", "\x01\x01", "\x02", "\x02" + msgBytes(ms(i, "")), "\x02" + msgBytes(ms(i, long(49))), "\x02" + msgBytes(ms(id(6, 6, 1, 1), "x")), "\x02" + msgBytes(ms(id(64, 6, 1, 1), "x")),
		"\x03", "\x03" + msgBytes(ms(i, ""))[:5], "\x03" + msgBytes(ms(i, "x")), "\x04" + msgBytes(ms(id(6, self, 0, 1), "")), "\x04" + msgBytes(ms(id(6, self, 1, 1), "x")), long(100), msgBytes(ms(i, "x")),
	} {
		for _, q := range []api.Quota{great(), {}} {
			d := laid(t, safely(part(1), log(boot())+row(p)+log(boot())))
			was := look(t, d)
			opensNot(t, d, self, q, segment, api.ErrForm)
			checkView(t, d, was)
		}
	}
}

func TestOpenOfALogWhoseRecordTheStoreRefuses(t *testing.T) {
	for _, x := range []struct {
		q api.Quota
		e api.Ev
	}{
		{great(), hold(id(1, self, 1, 1), "x")},      // it is for self
		{great(), hold(id(self, 1, 11, 1), "x")},     // of an epoch to come
		{great(), hold(some().Held[1].Id, "x")},      // held
		{great(), release(id(6, 7, 20, 8))},          // not held
		{great(), deliver(id(6, 7, 20, 7))},          // for another one
		{great(), deliver(id(1, self, 2, 5))},        // delivered
		{quota(3, 10, 3), hold(id(1, 2, 1, 1), "x")}, // too many messages
		{quota(4, 10, 3), hold(id(1, 2, 1, 1), "12345")},
		{quota(4, 10, 3), hold(id(self, 2, 10, 1), "12345")},
		{quota(4, 10, 3), deliver(id(1, self, 2, 9))}, // too many gaps
		{quota(4, 10, 3), deliver(id(2, self, 1, 2))},
	} {
		d := laid(t, safely(snapshot(4), shot(some())), safely(part(4), log(boot())), safely(part(5), log(x.e)))
		was := look(t, d)
		opensNot(t, d, self, x.q, segment, api.ErrForm)
		checkView(t, d, was)
	}
	last := some()
	last.Epoch, last.Next, last.Held = most, nil, nil
	d := laid(t, safely(snapshot(4), shot(last)), safely(part(4), log(boot()))) // no epoch is left
	opensNot(t, d, self, great(), segment, api.ErrForm)
}

// What comes behind a record that is refused says nothing, nor do the bytes at which the log was cut already.
func TestOpenCutsALogAheadOfReadingIt(t *testing.T) {
	bad := log(boot()) + row("\x09")
	d := laid(t, safely(part(1), bad+"none's"), safely(part(2), log(boot())), safely(part(4), log(boot())))
	opensNot(t, d, self, great(), segment, api.ErrForm)
	checkFiles(t, d, safely(part(1), bad))
}

// P17.1: the new epoch

func TestOpenOfTheLastEpochs(t *testing.T) {
	st := some()
	st.Epoch, st.Next = most-1, nil
	file := safely(snapshot(4), shot(st))
	d := laid(t, file)
	c := opened(t, d, replayed(st, boot())) // the last one, which is not spent
	submits(t, c, 1, "x", id(self, 1, most, 1))
	st = replayed(st, boot(), hold(id(self, 1, most, 1), "x"))
	for range 3 { // from now on no epoch begins, and nothing is put down for it
		was := look(t, d)
		c = opened(t, d, st)
		checkView(t, d, was)
		refuses(t, c, d, api.ErrOver, submitting(1, "x"))
	}
	checkFiles(t, d, file, safely(part(4), log(boot(), hold(id(self, 1, most, 1), "x"))))
}

// A spent custody needs no room, and no change, for its Open.
func TestOpenOfASpentOneWithoutRoom(t *testing.T) {
	st := some()
	st.Epoch = most
	file := safely(snapshot(4), shot(st))
	d := laid(t, file)
	ok(t, d.Limit(0))
	c := opened(t, d, st)
	checkFiles(t, d, file)
	refusesSpent(t, c, d)
}

// refusesSpent asks that no id is told by a spent custody, and which error comes first.
func refusesSpent(t *testing.T, c *custody.Custody, d *disk.Disk) {
	t.Helper()
	refuses(t, c, d, api.ErrOver, submitting(1, "x"), submitting(2, ""), submitting(63, long(49)), submitting(0, long(48)))
	refuses(t, c, d, api.ErrForm, submitting(self, "x"))
	refuses(t, c, d, api.ErrRange, submitting(-1, "x"), submitting(64, ""))
}

func TestOpenWithoutRoomForItsBoot(t *testing.T) {
	for _, files := range [][]stands{nil, {safely(snapshot(4), shot(some()))}, {safely(part(1), log(boot(), hold(id(self, 1, 1, 1), "x")))}, {safely(part(1), log(boot(), boot(), boot(), boot(), boot(), boot()))}} {
		d := laid(t, append(files, safely("t", "draft"))...)
		ok(t, d.Limit(len(log(boot()))-1))
		opensNot(t, d, self, great(), segment, api.ErrFull)
		checkFiles(t, d, files...)
		ok(t, d.Limit(d.Used()+9))
		if c, e := open(d); e != api.OK || c.Failed() {
			t.Fatalf("with room: %d", e)
		}
	}
}

func TestOpenWhereAllFilesAreThere(t *testing.T) {
	var files []stands
	for n := range mostFiles {
		files = append(files, safely("a"+part(n), ""))
	}
	d := laid(t, files...)
	opensNot(t, d, self, great(), segment, api.ErrFull)
	checkFiles(t, d, files...)
}

func TestOpenWhereNoSegmentIsLeft(t *testing.T) {
	full := []stands{safely(snapshot(lastNumber), shot(some())), safely(part(lastNumber), log(boot(), boot(), boot(), boot(), boot(), boot()))}
	d := laid(t, full...)
	opensNot(t, d, self, great(), segment, api.ErrRange)
	checkFiles(t, d, full...)
	c, e := custody.Open(d, self, great(), segment+3)
	ok(t, e)
	checkState(t, c, replayed(some(), boot(), boot(), boot(), boot(), boot(), boot(), boot()))
}

// P17.1: the first error that the disk answers ends it

// steps answers a disk that Open changes much, and how it is behind each of these changes, and at last.
func steps(t *testing.T) (*disk.Disk, [][]stands) {
	t.Helper()
	shots := []stands{safely(snapshot(1), "none's"), safely(snapshot(3), shot(api.State{Self: self})), safely(snapshot(4), shot(some()))}
	segments := []stands{safely(part(2), log(boot())), safely(part(3), ""), {part(4), log(boot()), 9}, {part(5), log(boot()) + "cut", 4}, safely(part(7), log(boot())), safely(part(9), "")}
	draft := safely("t", "draft")
	whole := safely(part(5), log(boot()))
	d := laid(t, slices.Concat(shots, []stands{draft}, segments)...)
	return d, [][]stands{
		slices.Concat(shots, []stands{draft}, segments),
		slices.Concat(shots, segments),
		slices.Concat(shots[1:], segments),
		slices.Concat(shots[2:], segments),
		slices.Concat(shots[2:], segments[1:]),
		slices.Concat(shots[2:], segments[2:]),
		slices.Concat(shots[2:], segments[2:3], []stands{whole}, segments[4:]),
		slices.Concat(shots[2:], segments[2:3], []stands{whole}, segments[4:5]),
		slices.Concat(shots[2:], segments[2:3], []stands{whole}),
		slices.Concat(shots[2:], segments[2:3], []stands{{part(5), log(boot(), boot()), 9}}),
		slices.Concat(shots[2:], segments[2:3], []stands{safely(part(5), log(boot(), boot()))}),
	}
}

func TestOpenEndsWhereThePowerGoes(t *testing.T) {
	d, all := steps(t)
	last := len(all) - 1
	for n, files := range all[:last] {
		fork := d.Fork()
		ok(t, fork.Arm(n))
		opensNot(t, fork, self, great(), segment, api.ErrDown)
		checkView(t, fork, view{files, true, 0})
		if safe := some(); n < 6 { // the log's second record is not, till what is behind it is cut off
			behind(t, fork, 0, replayed(safe, boot()))
		} else {
			behind(t, fork, 0, replayed(safe, boot(), boot()))
		}
	}
	for n := last; n < last+2; n++ { // behind the last change: nothing more is asked of the disk
		fork := d.Fork()
		ok(t, fork.Arm(n))
		opened(t, fork, replayed(some(), boot(), boot(), boot()))
		checkView(t, fork, view{all[last], n == last, n - last})
		behind(t, fork, 0, replayed(some(), boot(), boot(), boot()))
	}
}

// The snapshot is read ahead of the others' being taken away, and looked at behind that.
func TestOpenOfABadSnapshotWhereThePowerGoes(t *testing.T) {
	bad := safely(snapshot(4), "none's")
	for _, x := range []struct {
		changes int
		want    api.Errno
	}{{0, api.ErrDown}, {1, api.ErrDown}, {2, api.ErrDown}, {3, api.ErrForm}, {4, api.ErrForm}} {
		d := laid(t, bad, safely(snapshot(3), ""), safely(snapshot(1), ""), safely("t", "draft"))
		ok(t, d.Arm(x.changes))
		opensNot(t, d, self, great(), segment, x.want)
	}
}
