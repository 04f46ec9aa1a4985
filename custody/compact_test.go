package custody_test

import (
	"slices"
	"testing"

	"portage/api"
	"portage/custody"
	"portage/disk"
)

// compacts asks that Compact changes no state, and leaves of the custody's files just the snapshot of that number (P17.6, P17.8).
func compacts(t *testing.T, c *custody.Custody, d *disk.Disk, k int) {
	t.Helper()
	state := c.State()
	ok(t, c.Compact())
	checkState(t, c, state)
	checkFiles(t, d, safely(snapshot(k), shot(state)))
	if c.Size() != len(shot(state)) || c.Failed() {
		t.Fatalf("the size is %d, failed %t", c.Size(), c.Failed())
	}
	for _, keep := range []int{0, 5, everything} {
		behindAny(t, d, keep, state)
	}
}

// behindAny is as behind, of a spent custody too.
func behindAny(t *testing.T, d *disk.Disk, keep int, want api.State) {
	t.Helper()
	if want.Epoch < most {
		want = replayed(want, boot())
	}
	opened(t, crashed(t, d, keep), want)
}

// again asks that another Compact is OK, and changes nothing.
func again(t *testing.T, c *custody.Custody, d *disk.Disk) {
	t.Helper()
	was := look(t, d)
	ok(t, c.Compact())
	checkView(t, d, was)
}

// P17.3

func TestCompactOfNothing(t *testing.T) {
	c, d := fresh(t)
	compacts(t, c, d, 2)
	checkFiles(t, d, safely("s00002", shot(api.State{Self: self, Epoch: 1})))
	again(t, c, d)
}

func TestCompactOfSomeOfAll(t *testing.T) {
	c, d := having(t)
	compacts(t, c, d, 5)
	again(t, c, d)
	submits(t, c, 1, long(48), id(self, 1, 10, 1))
	puts(t, c, hold(id(1, 2, 1, 1), long(48)), deliver(id(1, self, 2, 4)), release(id(6, 7, 20, 7)))
	checkFiles(t, d,
		safely(snapshot(5), shot(replayed(some(), boot()))),
		safely(part(5), log(hold(id(self, 1, 10, 1), long(48)))),
		safely(part(6), log(hold(id(1, 2, 1, 1), long(48)))),
		stands{part(7), log(deliver(id(1, self, 2, 4)), release(id(6, 7, 20, 7))), 15})
	compacts(t, c, d, 8)
	again(t, c, d)
}

// What was let go, but not safely, is let go for good by the snapshot.
func TestCompactOfATail(t *testing.T) {
	c, d := having(t)
	puts(t, c, release(id(6, 7, 20, 7)))
	behind(t, d, 0, replayed(some(), boot()))
	compacts(t, c, d, 5)
	behind(t, d, 0, replayed(some(), boot(), release(id(6, 7, 20, 7))))
}

func TestCompactOfASpentOne(t *testing.T) {
	c, d, st := spent(t)
	again(t, c, d) // the log has nothing
	puts(t, c, release(id(6, 7, 20, 7)))
	compacts(t, c, d, 5)
	checkState(t, c, replayed(st, release(id(6, 7, 20, 7))))
	again(t, c, d)
}

func TestCompactBehindOpen(t *testing.T) {
	c, d := fresh(t, hold(id(1, 2, 1, 1), "x"))
	compacts(t, c, d, 2)
	c = opened(t, d, of(boot(), hold(id(1, 2, 1, 1), "x"), boot())) // the boot stands in the segment 2
	compacts(t, c, d, 3)
	submits(t, c, 1, "y", id(self, 1, 2, 1))
	compacts(t, c, d, 4)
	submits(t, c, 1, "z", id(self, 1, 2, 2))
}

// The state is that of when the segment began: what comes behind it stands in the log alone.
func TestCompactAndGoOn(t *testing.T) {
	c, d := having(t)
	var put []api.Ev
	for n := 1; n <= 20; n++ {
		i := id(self, 1, 10, n)
		submits(t, c, 1, long(n), i)
		put = append(put, hold(i, long(n)))
		if n%3 == 0 {
			ok(t, c.Compact())
		}
		if n%4 == 0 {
			e := release(id(self, 1, 10, n-2))
			puts(t, c, e)
			put = append(put, e)
		}
		checkState(t, c, replayed(some(), slices.Concat([]api.Ev{boot()}, put)...))
		behind(t, d, everything, c.State())
	}
}

// Files of others say nothing, and stay.
func TestCompactBesideOtherFiles(t *testing.T) {
	others := []stands{safely("a", "of others"), {"s1", "of others", 3}, {"t.", "of others", 0}}
	d := laid(t, others...)
	c := opened(t, d, of(boot()))
	ok(t, c.Compact())
	checkFiles(t, d, sorted(append(others, safely(snapshot(2), shot(of(boot())))))...)
}

func TestCompactWhereNoSegmentIsLeft(t *testing.T) {
	d := laid(t, safely(snapshot(lastNumber-1), shot(some())))
	c := opened(t, d, replayed(some(), boot()))
	compacts(t, c, d, lastNumber)
	again(t, c, d)
	submits(t, c, 1, "x", id(self, 1, 10, 1))
	refuses(t, c, d, api.ErrRange, compacting())
	submits(t, c, 1, "y", id(self, 1, 10, 2))
}

// P17.3: the room on the disk

func TestCompactWithJustRoomForTheBytes(t *testing.T) {
	for _, q := range []int{0, 1, 2, 100} {
		c, d := having(t)
		ok(t, d.Limit(d.Used()+len(shot(c.State()))+q))
		compacts(t, c, d, 5)
	}
}

func TestCompactWithoutRoom(t *testing.T) {
	c, d := having(t)
	used, need := d.Used(), len(shot(c.State()))
	for _, room := range []int{-used, -1, 0, 1, need / 2, need - 1} {
		ok(t, d.Limit(used+room))
		refuses(t, c, d, api.ErrFull, compacting(), compacting())
	}
	ok(t, d.Limit(used+need))
	compacts(t, c, d, 5)
}

// What was only put down is safe behind a Compact, even if that had no room; the next one comes to its end.
func TestCompactWithoutRoomOfATail(t *testing.T) {
	c, d := having(t)
	puts(t, c, release(id(6, 7, 20, 7)))
	ok(t, d.Limit(0))
	refusesFull(t, c, d, api.ErrFull, compacting())
	checkFiles(t, d, safely(snapshot(4), shot(some())), safely(part(4), log(boot(), release(id(6, 7, 20, 7)))))
	ok(t, d.Limit(mostBytes))
	submits(t, c, 1, "x", id(self, 1, 10, 1))
	checkFiles(t, d, safely(snapshot(4), shot(some())), safely(part(4), log(boot(), release(id(6, 7, 20, 7)))), safely(part(5), log(hold(id(self, 1, 10, 1), "x"))))
	compacts(t, c, d, 6)
}

func TestCompactWhereAllFilesAreThere(t *testing.T) {
	c, d := having(t)
	for n := range mostFiles - 2 {
		ok(t, d.Append("a"+part(n), nil))
	}
	refuses(t, c, d, api.ErrFull, compacting())
	ok(t, d.Remove("a"+part(7)))
	ok(t, c.Compact())
}

// A snapshot can tell of 65535 marks; of more there are no bytes, whatever room there is.
func TestCompactOfTooManyMarks(t *testing.T) {
	st := api.State{Self: self, Epoch: 1}
	for epoch := 1; epoch <= most; epoch++ {
		st.Seen = append(st.Seen, api.Mark{Origin: 0, Epoch: epoch, Upto: 1})
	}
	d := laid(t, safely(snapshot(4), shot(st)))
	c, e := custody.Open(d, self, great(), segment)
	ok(t, e)
	ok(t, c.Compact())
	st.Epoch = 2
	checkFiles(t, d, safely(snapshot(5), shot(st)))
	puts(t, c, deliver(id(1, self, 1, 1)))
	answers(t, c.Compact(), api.ErrFull)
	checkFiles(t, d, safely(snapshot(5), shot(st)), safely(part(5), log(deliver(id(1, self, 1, 1)))))
	if c.Failed() || len(c.State().Seen) != most+1 {
		t.Fatalf("failed %t, %d marks", c.Failed(), len(c.State().Seen))
	}
	puts(t, c, deliver(id(1, self, 1, 2)))
}

// A draft that somebody laid there goes with the Compact that has no room; else Open takes it away.
func TestCompactWithADraftThere(t *testing.T) {
	for _, draft := range []stands{safely("t", ""), safely("t", "strange"), {"t", "strange", 3}} {
		c, d := having(t)
		state := c.State()
		files := filesOf(t, d)
		ok(t, d.Append("t", []byte(draft.bytes[:draft.safe])))
		ok(t, d.Sync("t"))
		ok(t, d.Append("t", []byte(draft.bytes[draft.safe:])))
		behind(t, d, everything, state)
		ok(t, d.Limit(d.Used()+len(shot(state))-1))
		answers(t, c.Compact(), api.ErrFull)
		checkState(t, c, state)
		checkFiles(t, d, files...)
		if c.Failed() {
			t.Fatal("it has failed")
		}
		ok(t, d.Limit(mostBytes))
		ok(t, d.Append("t", nil))
		compacts(t, c, d, 5)
	}
}

// P17.3: where the power goes

// shots answers how the disk is behind each change of a Compact of a custody of some, as having makes it and with a record of 15 bytes in the tail, and at last.
func shots() [][]stands {
	gone := release(id(6, 7, 20, 7))
	now := shot(replayed(some(), boot(), gone))
	old, tail := safely(snapshot(4), shot(some())), log(boot(), gone)
	return [][]stands{
		{old, {part(4), tail, 9}},
		{old, safely(part(4), tail)},
		{old, {"t", now, 0}, safely(part(4), tail)},
		{old, safely("t", now), safely(part(4), tail)},
		{old, safely(snapshot(5), now), safely(part(4), tail)},
		{safely(snapshot(5), now), safely(part(4), tail)},
		{safely(snapshot(5), now)},
	}
}

func TestCompactEndsWhereThePowerGoes(t *testing.T) {
	all := shots()
	gone := release(id(6, 7, 20, 7))
	before := replayed(some(), boot())
	for n, files := range all {
		c, d := having(t)
		puts(t, c, gone)
		ok(t, d.Arm(n))
		if n == len(all)-1 { // behind the last change
			ok(t, c.Compact())
			checkView(t, d, view{files, true, 0})
			answers(t, c.Compact(), api.ErrDown)
		} else {
			answers(t, c.Compact(), api.ErrDown)
			checkView(t, d, view{files, true, 0})
		}
		checkState(t, c, replayed(before, gone))
		hasFailed(t, c, d)
		for keep := range 80 {
			if n == 0 && keep < 15 {
				behind(t, d, keep, before)
			} else {
				behind(t, d, keep, replayed(before, gone))
			}
		}
		ok(t, d.Crash(nil))
		hasFailed(t, c, d)
	}
}

// The same behind a Compact, where the tail stands in the snapshot's own segment.
func TestCompactOfATailInTheSnapshotsSegment(t *testing.T) {
	gone := release(id(6, 7, 20, 7))
	for n := range 8 {
		c, d := having(t)
		compacts(t, c, d, 5)
		puts(t, c, gone)
		ok(t, d.Arm(n))
		e := c.Compact()
		if n < 6 {
			answers(t, e, api.ErrDown)
		} else {
			ok(t, e)
			checkNames(t, d, snapshot(6)) // P17.8
		}
		checkState(t, c, replayed(some(), boot(), gone))
		if n > 0 { // all was made safe at first
			behind(t, d, 0, replayed(some(), boot(), gone))
		}
		behind(t, d, everything, replayed(some(), boot(), gone))
	}
}

func checkNames(t *testing.T, d *disk.Disk, want ...string) {
	t.Helper()
	if got := d.Names(); !slices.Equal(got, want) {
		t.Fatalf("%q; not %q", got, want)
	}
}

func TestCompactOfNothingWhereThePowerGoes(t *testing.T) {
	for n := range 6 {
		c, d := fresh(t)
		ok(t, d.Arm(n))
		e := c.Compact()
		if n < 4 { // the draft, its Sync, its new name, the log
			answers(t, e, api.ErrDown)
			hasFailed(t, c, d)
		} else {
			ok(t, e)
			checkNames(t, d, snapshot(2))
		}
		for keep := range 20 {
			behind(t, d, keep, of(boot()))
		}
	}
}

// A log of many segments is dropped from the first one on.
func TestCompactOfManySegmentsWhereThePowerGoes(t *testing.T) {
	var put []api.Ev
	for n := 1; n <= 5; n++ {
		put = append(put, hold(id(1, 2, 1, n), long(40)))
	}
	for n := range 12 {
		c, d := fresh(t, put...)
		ok(t, d.Arm(n))
		e := c.Compact()
		left := max(0, 6-max(0, n-3))
		if left > 0 {
			answers(t, e, api.ErrDown)
		} else {
			ok(t, e)
		}
		var segments []string
		for _, name := range d.Names() {
			if name[0] == 'w' {
				segments = append(segments, name)
			}
		}
		want := []string{part(1), part(2), part(3), part(4), part(5), part(6)}[6-left:]
		if !slices.Equal(segments, want) {
			t.Fatalf("power for %d changes: %q; not %q", n, segments, want)
		}
		for _, keep := range []int{0, 1, 50, everything} {
			behind(t, d, keep, of(append([]api.Ev{boot()}, put...)...))
		}
	}
}

// An empty file of a segment may stay: one whose only record was cut.
func TestCompactOfAnEmptySegment(t *testing.T) {
	st := some()
	st.Epoch = most // so that no boot comes into it
	for _, tail := range []string{"", "cut"} {
		d := laid(t, safely(snapshot(4), shot(st)), safely(part(4), log(release(id(6, 7, 20, 7)))), safely(part(5), tail))
		want := replayed(st, release(id(6, 7, 20, 7)))
		c := opened(t, d, want)
		ok(t, c.Compact())
		checkState(t, c, want)
		checkFiles(t, d, safely(snapshot(5), shot(want)), safely(part(5), ""))
		again(t, c, d)
		opened(t, crashed(t, d, 0), want)
	}
}
