package custody_test

import (
	"fmt"
	"maps"
	"math/rand"
	"slices"
	"testing"

	"portage/api"
	"portage/custody"
	"portage/disk"
)

// diary is a custody on a disk, and who writes down what was put down there.
type diary struct {
	d    *disk.Disk
	c    *custody.Custody
	size int
	put  []api.Ev // since the disk was new: all that may be there
	safe int      // so many of these must be there
	told map[api.Id]bool
}

func newDiary(t *testing.T, size int) *diary {
	t.Helper()
	return &diary{d: made(t), size: size, told: map[api.Id]bool{}}
}

// fork answers a diary of its own that has no custody.
func (y *diary) fork() *diary {
	return &diary{d: y.d.Fork(), size: y.size, put: slices.Clone(y.put), safe: y.safe, told: maps.Clone(y.told)}
}

// open answers whether there is a custody now; its state must be that of all events.
func (y *diary) open(t *testing.T) bool {
	t.Helper()
	y.put = append(y.put, boot())
	c, e := custody.Open(y.d, self, great(), y.size)
	if e == api.ErrDown {
		return false
	}
	ok(t, e)
	y.c, y.safe = c, len(y.put)
	checkState(t, c, of(y.put...))
	return true
}

// crash asks that a beginning of the events is there then, with all that were safe (P17.5), and strikes the others out.
func (y *diary) crash(t *testing.T, keep []int) {
	t.Helper()
	ok(t, y.d.Crash(keep))
	c, e := custody.Open(y.d.Fork(), self, great(), y.size)
	ok(t, e)
	got := text(c.State())
	for n := len(y.put); n >= y.safe; n-- {
		if got == text(of(append(slices.Clone(y.put[:n]), boot())...)) {
			y.put, y.safe = y.put[:n], n
			return
		}
	}
	t.Fatalf("keeping %d: %s; not of %v with at least %d", keep, got, y.put, y.safe)
}

// did notes an event that a call was to put down, and whether it was safely.
func (y *diary) did(t *testing.T, e api.Ev, safely bool, answer api.Errno) api.Errno {
	t.Helper()
	if answer == api.OK || answer == api.ErrDown { // else it was refused
		y.put = append(y.put, e)
	}
	if answer == api.OK && safely {
		y.safe = len(y.put)
	}
	if y.c.Failed() != (answer == api.ErrDown) {
		t.Fatalf("%+v: %d, failed %t", e, answer, y.c.Failed())
	}
	if answer == api.OK {
		checkState(t, y.c, of(y.put...))
	}
	return answer
}

func (y *diary) do(t *testing.T, e api.Ev) api.Errno {
	t.Helper()
	return y.did(t, e, e.Kind != 3, put(y.c, e))
}

// submit asks that the id is the next one, and was never told (P17.7).
func (y *diary) submit(t *testing.T, dest int, data string) api.Errno {
	t.Helper()
	st, last := y.c.State(), 0
	for _, n := range st.Next {
		if n.Dest == dest {
			last = n.Counter
		}
	}
	want := id(self, dest, st.Epoch, last+1)
	i, e := y.c.Submit(dest, []byte(data))
	if e == api.OK {
		if i != want || y.told[i] {
			t.Fatalf("Submit(%d): %v; not %v; told ahead: %t", dest, i, want, y.told[i])
		}
		y.told[i] = true
	}
	return y.did(t, hold(want, data), true, e)
}

// compact asks for P17.6 and P17.8.
func (y *diary) compact(t *testing.T) api.Errno {
	t.Helper()
	was := y.c.State()
	e := y.c.Compact()
	checkState(t, y.c, was)
	if y.c.Failed() != (e == api.ErrDown) {
		t.Fatalf("Compact: %d, failed %t", e, y.c.Failed())
	}
	if e != api.OK {
		return e
	}
	y.safe = len(y.put)
	snapshots := 0
	for _, f := range filesOf(t, y.d) {
		if f.name[0] == 's' {
			snapshots++
		}
		if f.name[0] == 's' && f.bytes != shot(was) || f.name[0] == 'w' && f.bytes != "" || f.name == "t" || f.safe != len(f.bytes) {
			t.Fatalf("behind Compact there is %+v", f)
		}
	}
	if snapshots != 1 {
		t.Fatalf("behind Compact there are %q", y.d.Names())
	}
	return api.OK
}

// keeps answers how much of the tails may be kept: each number, of all files, and some others.
func keeps(t *testing.T, rnd *rand.Rand, d *disk.Disk) [][]int {
	t.Helper()
	files, most, out := filesOf(t, d), 0, [][]int{nil}
	for _, f := range files {
		most = max(most, len(f.bytes)-f.safe)
	}
	for n := 1; n <= most; n++ {
		out = append(out, slices.Repeat([]int{n}, mostFiles))
	}
	for range 2 {
		keep := make([]int, len(files))
		for i := range keep {
			keep[i] = rnd.Intn(most + 2)
		}
		out = append(out, keep)
	}
	return out
}

// step is what is done with a diary.
type step func(t *testing.T, y *diary) api.Errno

func submit(dest int, data string) step {
	return func(t *testing.T, y *diary) api.Errno { return y.submit(t, dest, data) }
}

func event(e api.Ev) step {
	return func(t *testing.T, y *diary) api.Errno { return y.do(t, e) }
}

func compact() step {
	return func(t *testing.T, y *diary) api.Errno { return y.compact(t) }
}

// reopen opens the disk again, though its power has not gone.
func reopen() step {
	return func(t *testing.T, y *diary) api.Errno {
		if y.open(t) {
			return api.OK
		}
		return api.ErrDown
	}
}

// scenario answers steps of which each one leaves something else for the next.
func scenario() []step {
	x := func(n int) api.Id { return id(1, 2, 5, n) }
	in := func(n int) api.Id { return id(7, self, 2, n) }
	return []step{
		reopen(), submit(1, "a"), event(hold(x(1), "bc")), event(hold(x(2), long(30))), event(deliver(in(1))), event(release(x(1))),
		submit(1, "d"), event(release(x(2))), event(release(id(self, 1, 1, 1))), compact(),
		event(hold(x(3), "e")), event(release(x(3))), compact(), event(deliver(in(3))), submit(2, long(48)), event(deliver(in(2))),
		reopen(), submit(1, "f"), event(release(id(self, 1, 2, 1))), compact(), compact(),
		event(release(id(self, 2, 1, 1))), reopen(), compact(), submit(1, "g"),
	}
}

// P17.5 to P17.8: the power goes at each change in turn, and in Open behind that once more
func TestACrashAtEachChange(t *testing.T) {
	for _, size := range []int{16, 40, 60, 1000} {
		t.Run(fmt.Sprint(size), func(t *testing.T) {
			t.Parallel()
			for n := 0; ; n++ {
				y := newDiary(t, size)
				ok(t, y.d.Arm(n))
				left := scenario()
				for len(left) > 0 && left[0](t, y) == api.OK {
					left = left[1:]
				}
				if !y.d.Down() {
					return
				}
				checkBehind(t, y, int64(n))
			}
		})
	}
}

// checkBehind asks what is there behind a crash, whatever is kept, and that it is gone on with.
func checkBehind(t *testing.T, y *diary, seed int64) {
	t.Helper()
	for n, keep := range keeps(t, rand.New(rand.NewSource(seed)), y.d) {
		behind := y.fork()
		behind.crash(t, keep)
		if n%5 == 0 {
			checkAgain(t, behind)
		}
		goOn(t, behind)
	}
}

// checkAgain lets the power go in the Open behind a crash, at each of its changes, and at each of a Compact's.
func checkAgain(t *testing.T, y *diary) {
	t.Helper()
	for n := 0; ; n++ {
		again := y.fork()
		ok(t, again.d.Arm(n))
		up := again.open(t)
		if up && !again.d.Down() {
			again.compact(t)
		}
		down := again.d.Down()
		for _, keep := range []int{0, 4, everything} {
			last := again.fork()
			last.crash(t, slices.Repeat([]int{keep}, mostFiles))
			goOn(t, last)
		}
		if !down {
			return
		}
	}
}

// goOn asks that a disk behind a crash is as good as any.
func goOn(t *testing.T, y *diary) {
	t.Helper()
	for _, do := range []step{reopen(), submit(1, "on"), compact(), submit(1, "and on"), reopen()} {
		ok(t, do(t, y))
	}
}

// The same, without an armed disk: a crash between any two steps.
func TestACrashBehindEachStep(t *testing.T) {
	for _, size := range []int{16, 40, 60, 1000} {
		y := newDiary(t, size)
		for at, do := range scenario() {
			ok(t, do(t, y))
			checkBehind(t, y, int64(at))
		}
	}
}

// anyStep answers a step of all kinds.
func anyStep(rnd *rand.Rand, y *diary) step {
	x, in := id(rnd.Intn(2), 2, 1+rnd.Intn(2), 1+rnd.Intn(9)), id(7, self, 2, 1+rnd.Intn(30))
	data := long(rnd.Intn(50))
	switch kind := rnd.Intn(20); {
	case kind < 6:
		return submit(rnd.Intn(5), data)
	case kind < 9:
		return event(hold(x, data))
	case kind < 12:
		return event(deliver(in))
	case kind < 17:
		if held := y.c.Held(); len(held) > 0 {
			x = held[rnd.Intn(len(held))].Id
		}
		return event(release(x))
	case kind < 19:
		return compact()
	}
	return reopen()
}

// P17.5 to P17.8, of any steps, with crashes wherever, and disks that have little room
func TestAnyStepsWithCrashes(t *testing.T) {
	for seed := range 60 {
		rnd := rand.New(rand.NewSource(int64(seed)))
		y := newDiary(t, []int{16, 50, 100, 1000}[rnd.Intn(4)])
		up := y.open(t)
		for range 150 {
			if up && !y.d.Down() && rnd.Intn(3) == 0 {
				ok(t, y.d.Arm(rnd.Intn(25)))
			}
			if !up || y.c.Failed() || rnd.Intn(20) == 0 {
				l := keeps(t, rnd, y.d)
				y.crash(t, l[rnd.Intn(len(l))])
				if rnd.Intn(3) == 0 {
					ok(t, y.d.Arm(rnd.Intn(5)))
				}
				up = y.open(t)
				continue
			}
			e := anyStep(rnd, y)(t, y)
			up = e != api.ErrDown
		}
	}
}

// A disk that has no more room refuses, and loses nothing.
func TestAnyStepsWithAnyRoom(t *testing.T) {
	for room := 9; room < 400; room += 3 {
		rnd := rand.New(rand.NewSource(int64(room)))
		y := newDiary(t, 16+room%90)
		ok(t, y.d.Limit(room))
		if !y.open(t) {
			t.Fatal("no power")
		}
		for range 40 {
			do := anyStep(rnd, y)
			if room-y.d.Used() < 9 { // for the boot of another Open
				do = compact()
			}
			was := y.c.State()
			if e := do(t, y); e != api.OK {
				checkState(t, y.c, was)
			}
			if y.d.Used() > room {
				t.Fatalf("%d bytes, with room for %d", y.d.Used(), room)
			}
			other := y.fork()
			ok(t, other.d.Limit(mostBytes))
			other.crash(t, []int{rnd.Intn(50), rnd.Intn(50), rnd.Intn(50)})
			goOn(t, other)
		}
	}
}
