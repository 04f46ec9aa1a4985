package custody_test

import (
	"math"
	"slices"
	"testing"

	"portage/api"
	"portage/custody"
	"portage/disk"
)

// The chapter's example.
func TestExample(t *testing.T) {
	d := made(t)
	c, e := custody.Open(d, 1, quota(10, 1000, 10), 100)
	ok(t, e)
	i, e := c.Submit(2, []byte("a"))
	if i != id(1, 2, 1, 1) || e != api.OK {
		t.Fatalf("Submit: %v, %d", i, e)
	}
	ok(t, d.Crash(nil))
	for epoch := 2; epoch <= 3; epoch++ {
		c, e = custody.Open(d, 1, quota(10, 1000, 10), 100)
		ok(t, e)
		checkState(t, c, api.State{Self: 1, Epoch: epoch, Held: []api.Msg{ms(i, "a")}})
		ok(t, c.Release(i))
		checkState(t, c, api.State{Self: 1, Epoch: epoch})
		ok(t, d.Crash(nil))
	}
}

// P17.2: Submit

func TestSubmit(t *testing.T) {
	c, d := fresh(t)
	put := []api.Ev{boot()}
	for _, x := range []struct {
		dest, counter int
		data          string
	}{{1, 1, "a"}, {1, 2, "a"}, {0, 1, long(48)}, {63, 1, "\x00"}, {1, 3, "\xff\xfe"}, {2, 1, "b"}, {0, 2, "c"}} {
		i := id(self, x.dest, 1, x.counter)
		submits(t, c, x.dest, x.data, i)
		put = append(put, hold(i, x.data))
		checkState(t, c, of(put...))
		behind(t, d, 0, of(put...)) // at once it is safe
	}
	checkFiles(t, d,
		safely(part(1), log(put[:3]...)),
		safely(part(2), log(put[3])),
		safely(part(3), log(put[4:7]...)),
		safely(part(4), log(put[7])))
}

// In the next epoch counters begin anew, and what was held is held.
func TestSubmitInTheNextEpoch(t *testing.T) {
	c, d := fresh(t)
	submits(t, c, 1, "a", id(self, 1, 1, 1))
	submits(t, c, 1, "b", id(self, 1, 1, 2))
	c = opened(t, d, of(boot(), hold(id(self, 1, 1, 1), "a"), hold(id(self, 1, 1, 2), "b"), boot()))
	submits(t, c, 1, "c", id(self, 1, 2, 1))
}

func TestSubmitToADestThatTheStoreRefuses(t *testing.T) {
	for _, begin := range []func(*testing.T) (*custody.Custody, *disk.Disk){having, func(t *testing.T) (*custody.Custody, *disk.Disk) { return fresh(t) }} {
		c, d := begin(t)
		for _, dest := range []int{math.MinInt, -64, -1, 64, 65, 256, 1 << 32, math.MaxInt} {
			refuses(t, c, d, api.ErrRange, submitting(dest, "x"), submitting(dest, ""), submitting(dest, long(49)))
		}
		refuses(t, c, d, api.ErrForm, submitting(self, "x"), submitting(self, ""), submitting(self, long(49)))
	}
}

func TestSubmitOfDataThatIsNotRight(t *testing.T) {
	c, d := having(t)
	for _, dest := range []int{0, 1, 63} {
		refuses(t, c, d, api.ErrForm, submitting(dest, ""))
		refuses(t, c, d, api.ErrLong, submitting(dest, long(49)), submitting(dest, long(1000)))
	}
	refuses(t, c, d, api.ErrForm, called{"Submit of nil", func(c *custody.Custody) api.Errno {
		_, e := c.Submit(1, nil)
		return e
	}})
	submits(t, c, 1, "x", id(self, 1, 10, 1)) // no counter was used
	submits(t, c, 1, long(48), id(self, 1, 10, 2))
}

func TestSubmitWhereTheQuotaIsFull(t *testing.T) {
	for _, q := range []api.Quota{quota(0, 100, 0), quota(100, 0, 0), {}} {
		d := made(t)
		c, e := custody.Open(d, self, q, segment)
		ok(t, e)
		refuses(t, c, d, api.ErrFull, submitting(1, "x"))
		refuses(t, c, d, api.ErrForm, submitting(1, "")) // ahead of it
		refuses(t, c, d, api.ErrLong, submitting(1, long(49)))
		refuses(t, c, d, api.ErrRange, submitting(64, "x"))
	}
	d := made(t)
	c, e := custody.Open(d, self, quota(2, 5, 0), segment)
	ok(t, e)
	submits(t, c, 1, "abc", id(self, 1, 1, 1))
	refuses(t, c, d, api.ErrFull, submitting(1, "def"))
	submits(t, c, 1, "d", id(self, 1, 1, 2))
	refuses(t, c, d, api.ErrFull, submitting(1, "e"), submitting(2, "e"))
	puts(t, c, release(id(self, 1, 1, 1)))
	submits(t, c, 1, "efgh", id(self, 1, 1, 3))
}

func TestSubmitWhereTheDiskIsFull(t *testing.T) {
	c, d := fresh(t)
	ok(t, d.Limit(d.Used()+len(log(hold(id(self, 1, 1, 1), "abc")))-1))
	refuses(t, c, d, api.ErrFull, submitting(1, "abc"), submitting(1, "abcd"), submitting(2, long(48)))
	submits(t, c, 1, "ab", id(self, 1, 1, 1))
	ok(t, d.Limit(0))
	refuses(t, c, d, api.ErrFull, submitting(1, "x"))
	ok(t, d.Limit(mostBytes))
	submits(t, c, 1, "x", id(self, 1, 1, 2)) // it has not failed
	behind(t, d, 0, of(boot(), hold(id(self, 1, 1, 1), "ab"), hold(id(self, 1, 1, 2), "x")))
}

func TestSubmitWhereNoFileIsLeft(t *testing.T) {
	c, d := fresh(t)
	for n := range mostFiles - 1 {
		ok(t, d.Append("a"+part(n), nil))
	}
	submits(t, c, 1, long(30), id(self, 1, 1, 1))
	refuses(t, c, d, api.ErrFull, submitting(1, long(30))) // it needs another segment
	ok(t, d.Remove("a"+part(7)))
	submits(t, c, 1, long(30), id(self, 1, 1, 2))
}

func TestSubmitBehindTheLastCounter(t *testing.T) {
	c, d := fresh(t, hold(id(self, 1, 1, most-1), "x"))
	submits(t, c, 1, "y", id(self, 1, 1, most))
	refuses(t, c, d, api.ErrOver, submitting(1, "z"), submitting(1, ""), submitting(1, long(49)))
	submits(t, c, 2, "z", id(self, 2, 1, 1))
	puts(t, c, release(id(self, 1, 1, most)), release(id(self, 1, 1, most-1)))
	answers(t, submitting(1, "z").do(c), api.ErrOver)
	c, e := open(d)
	ok(t, e)
	submits(t, c, 1, "z", id(self, 1, 2, 1))
}

// spent answers a custody that is, with some of all.
func spent(t *testing.T) (*custody.Custody, *disk.Disk, api.State) {
	t.Helper()
	st := some()
	st.Epoch = most
	d := laid(t, safely(snapshot(4), shot(st)))
	return opened(t, d, st), d, st
}

// All but Submit goes on.
func TestASpentCustody(t *testing.T) {
	c, d, st := spent(t)
	refusesSpent(t, c, d)
	l := []api.Ev{hold(id(self, 1, most, 2), "x"), deliver(id(1, self, 2, 4)), release(id(6, 7, 20, 7)), hold(id(9, 8, 1, 1), "y")}
	for n, e := range l {
		puts(t, c, e)
		checkState(t, c, replayed(st, l[:n+1]...))
		refusesSpent(t, c, d)
	}
	opened(t, crashed(t, d, 0), replayed(st, l...))
	ok(t, c.Compact())
	refusesSpent(t, c, d)
	c = opened(t, d, replayed(st, l...))
	refusesSpent(t, c, d)
}

// P17.2: Hold

func TestHold(t *testing.T) {
	c, d := fresh(t)
	put := []api.Ev{boot()}
	for _, e := range []api.Ev{
		hold(id(7, 8, 9, 10), "a"), hold(id(7, 8, 9, 9), "b"), hold(id(0, 63, most, most), long(48)),
		hold(id(self, 5, 1, 7), "of its own"), hold(id(self, 5, 1, 4), "an older one"),
	} {
		puts(t, c, e)
		put = append(put, e)
		checkState(t, c, of(put...))
		behind(t, d, 0, of(put...))
	}
	submits(t, c, 5, "x", id(self, 5, 1, 8))
}

// wrongIds answers ids that are not right, and what is said of them.
func wrongIds() map[api.Id]api.Errno {
	out := map[api.Id]api.Errno{{}: api.ErrRange}
	for _, n := range []int{math.MinInt, -1, 64, 256, 1 << 32, math.MaxInt} {
		out[id(n, 5, 1, 1)], out[id(1, n, 1, 1)] = api.ErrRange, api.ErrRange
	}
	for _, n := range []int{math.MinInt, -1, 0, 65536, 1<<32 + 1, math.MaxInt} {
		out[id(1, 5, n, 1)], out[id(1, 5, 1, n)], out[id(5, 5, 1, n)] = api.ErrRange, api.ErrRange, api.ErrRange
	}
	for _, n := range []int{0, 1, self, 63} {
		out[id(n, n, 1, 1)] = api.ErrForm
	}
	return out
}

func TestHoldOfMessagesThatAreNotRight(t *testing.T) {
	c, d := having(t)
	for i, e := range wrongIds() {
		refuses(t, c, d, e, putting(hold(i, "x")), putting(hold(i, "")), putting(hold(i, long(49))))
	}
	refuses(t, c, d, api.ErrForm, putting(hold(id(1, 2, 1, 1), "")))
	refuses(t, c, d, api.ErrLong, putting(hold(id(1, 2, 1, 1), long(49))))
	refuses(t, c, d, api.ErrForm, putting(hold(id(1, self, 1, 1), "x")), putting(hold(id(self, 1, 11, 1), "x")), putting(hold(id(self, 1, most, 1), "x")))
	puts(t, c, hold(id(self, 1, 10, 9), "x"))
}

func TestHoldOfWhatIsHeld(t *testing.T) {
	c, d := having(t)
	for _, m := range c.Held() {
		refuses(t, c, d, api.ErrTwice, putting(hold(m.Id, string(m.Data))), putting(hold(m.Id, "other")))
	}
	refuses(t, c, d, api.ErrLong, putting(hold(some().Held[0].Id, long(49))))
	submits(t, c, 1, "x", id(self, 1, 10, 1))
	refuses(t, c, d, api.ErrTwice, putting(hold(id(self, 1, 10, 1), "x")))
}

func TestHoldOfWhatWasDelivered(t *testing.T) {
	c, d := having(t)
	for _, n := range []int{1, 2, 3, 5, 7} { // here, so it is for self
		refuses(t, c, d, api.ErrForm, putting(hold(id(1, self, 2, n), "x")))
	}
	puts(t, c, hold(id(1, 2, 2, 3), "x")) // an id like it, but for another one
}

func TestHoldWhereThereIsNoRoom(t *testing.T) {
	d := made(t)
	c, e := custody.Open(d, self, quota(2, 5, 0), segment)
	ok(t, e)
	puts(t, c, hold(id(1, 2, 1, 1), "abc"))
	refuses(t, c, d, api.ErrFull, putting(hold(id(1, 2, 1, 2), "def")))
	refuses(t, c, d, api.ErrTwice, putting(hold(id(1, 2, 1, 1), "def")))
	puts(t, c, hold(id(1, 2, 1, 2), "de"))
	refuses(t, c, d, api.ErrFull, putting(hold(id(1, 2, 1, 3), "x")))

	c, d = having(t)
	ok(t, d.Limit(d.Used()+14+8))
	refuses(t, c, d, api.ErrFull, putting(hold(id(1, 2, 1, 1), long(8))))
	refuses(t, c, d, api.ErrForm, putting(hold(id(1, self, 1, 1), long(8)))) // the store's errors come first
	refuses(t, c, d, api.ErrTwice, putting(hold(some().Held[0].Id, long(8))))
	puts(t, c, hold(id(1, 2, 1, 1), long(7)))
}

// P17.2: Deliver

func TestDeliver(t *testing.T) {
	c, d := fresh(t)
	put := []api.Ev{boot()}
	for _, e := range []api.Ev{deliver(id(1, self, 5, 1)), deliver(id(1, self, 5, 3)), deliver(id(0, self, most, most)), deliver(id(1, self, 5, 2)), deliver(id(63, self, 1, 2))} {
		if c.Seen(e.Msg.Id) {
			t.Fatalf("Seen(%v)", e.Msg.Id)
		}
		puts(t, c, e)
		put = append(put, e)
		checkState(t, c, of(put...))
		behind(t, d, 0, of(put...))
		refuses(t, c, d, api.ErrTwice, putting(e))
	}
}

func TestDeliverRefuses(t *testing.T) {
	c, d := having(t)
	for i, e := range wrongIds() {
		refuses(t, c, d, e, putting(deliver(i)))
	}
	refuses(t, c, d, api.ErrForm, putting(deliver(id(1, 2, 1, 1))), putting(deliver(id(1, 2, 2, 3))), putting(deliver(id(6, 7, 20, 7))), putting(deliver(id(self, 1, 9, 2)))) // for another node
	for _, n := range []int{1, 2, 3, 5, 7} {
		refuses(t, c, d, api.ErrTwice, putting(deliver(id(1, self, 2, n))))
	}
	d = laid(t, safely(snapshot(4), shot(some())))
	c, e := custody.Open(d, self, quota(3, 6, 3), segment)
	ok(t, e)
	refuses(t, c, d, api.ErrFull, putting(deliver(id(1, self, 2, 9))), putting(deliver(id(2, self, 1, 2))))
	ok(t, d.Limit(d.Used()+14))
	refuses(t, c, d, api.ErrFull, putting(deliver(id(1, self, 2, 4))))
	refuses(t, c, d, api.ErrTwice, putting(deliver(id(1, self, 2, 5)))) // ahead of the disk's
	ok(t, d.Limit(d.Used()+15))
	puts(t, c, deliver(id(1, self, 2, 4)))
}

// P17.2: Release

func TestRelease(t *testing.T) {
	for n := range 3 {
		c, d := having(t)
		i := some().Held[n].Id
		puts(t, c, release(i))
		checkState(t, c, replayed(some(), boot(), release(i)))
		refuses(t, c, d, api.ErrNone, putting(release(i)))
		checkFiles(t, d, safely(snapshot(4), shot(some())), stands{part(4), log(boot(), release(i)), 9})
	}
}

func TestReleaseRefuses(t *testing.T) {
	c, d := having(t)
	for i, e := range wrongIds() {
		refuses(t, c, d, e, putting(release(i)))
	}
	refuses(t, c, d, api.ErrNone, putting(release(id(6, 7, 20, 8))), putting(release(id(self, 1, 10, 1))), putting(release(id(1, self, 2, 3))), putting(release(id(63, 62, 1, 1))))
	ok(t, d.Limit(d.Used()+14))
	refuses(t, c, d, api.ErrFull, putting(release(id(6, 7, 20, 7))))
	refuses(t, c, d, api.ErrNone, putting(release(id(6, 7, 20, 8))))
	ok(t, d.Limit(d.Used()+15))
	puts(t, c, release(id(6, 7, 20, 7)))
}

// P17.2: what is safe

// A message that was let go is held again behind a crash, if its record was in the tail and is not kept as a whole.
func TestReleaseIsPutDownButNotSafely(t *testing.T) {
	first, second := release(id(1, 2, 1, 1)), release(id(1, 2, 1, 2))
	d := made(t)
	c, e := custody.Open(d, self, great(), 71) // room for both
	ok(t, e)
	puts(t, c, hold(first.Msg.Id, "a"), hold(second.Msg.Id, "b"))
	before := c.State()
	puts(t, c, first, second)
	for keep := range 31 { // 15 bytes each
		behind(t, d, keep, replayed(before, []api.Ev{first, second}[:keep/15]...))
	}

	c, d = fresh(t, hold(first.Msg.Id, "a"), hold(second.Msg.Id, "b"))
	puts(t, c, first)
	behind(t, d, 0, before)
	puts(t, c, second) // stands in another segment, so the one ahead is safe
	for keep := range 15 {
		behind(t, d, keep, replayed(before, first))
	}
	behind(t, d, 15, replayed(before, first, second))
}

// What is put down safely makes all that was put down ahead of it safe.
func TestWhatIsSafeBehindACrashThatKeepsNothing(t *testing.T) {
	gone := release(id(6, 7, 20, 7))
	for _, size := range []int{16, 30, segment, 1000} {
		for _, x := range []called{
			submitting(1, "x"), putting(hold(id(1, 2, 1, 1), "x")), putting(hold(id(1, 2, 1, 1), long(48))), putting(deliver(id(1, self, 2, 4))), compacting(),
		} {
			d := laid(t, safely(snapshot(4), shot(some())))
			c, e := custody.Open(d, self, great(), size)
			ok(t, e)
			puts(t, c, gone)
			behind(t, d, 0, replayed(some(), boot()))
			ok(t, x.do(c))
			behind(t, d, 0, c.State())
			behind(t, d, everything, c.State())
		}
	}
}

// A refused call makes nothing safe, but where the disk refused what needs another segment.
func TestARefusedCallIsNoneThatWasPutDown(t *testing.T) {
	c, d := having(t)
	gone := release(id(6, 7, 20, 7))
	puts(t, c, gone)
	refuses(t, c, d, api.ErrForm, submitting(1, ""), submitting(self, "x"), putting(deliver(id(1, 2, 1, 1))))
	refuses(t, c, d, api.ErrTwice, putting(hold(some().Held[0].Id, "x")), putting(deliver(id(1, self, 2, 1))))
	behind(t, d, 0, replayed(some(), boot()))
	ok(t, d.Limit(0))
	refuses(t, c, d, api.ErrFull, submitting(1, "x")) // in the same segment
	refusesFull(t, c, d, api.ErrFull, submitting(1, long(48)), putting(hold(id(1, 2, 1, 1), long(48))))
	behind(t, roomy(t, d), 0, replayed(some(), boot(), gone))
}

func roomy(t *testing.T, d *disk.Disk) *disk.Disk {
	t.Helper()
	d = d.Fork()
	ok(t, d.Limit(mostBytes))
	return d
}

func TestWhereNoSegmentIsLeft(t *testing.T) {
	file := safely(snapshot(lastNumber), shot(some()))
	d := laid(t, file)
	c := opened(t, d, replayed(some(), boot()))
	submits(t, c, 1, long(30), id(self, 1, 10, 1))
	refuses(t, c, d, api.ErrRange, submitting(1, "x"), putting(hold(id(1, 2, 1, 1), "x")), putting(deliver(id(1, self, 2, 4))), putting(release(id(6, 7, 20, 7))), compacting())
	checkFiles(t, d, file, safely(part(lastNumber), log(boot(), hold(id(self, 1, 10, 1), long(30)))))
	if c.Failed() {
		t.Fatal("it has failed")
	}
	c, e := custody.Open(d, self, great(), 1000)
	ok(t, e)
	submits(t, c, 1, "x", id(self, 1, 11, 1))
}

// P17.2: where the power goes

// puttings answers calls that a custody of some takes, the events that they put down, and whether safely.
func puttings() []struct {
	call   called
	e      api.Ev
	safely bool
} {
	l := []api.Ev{hold(id(self, 1, 10, 1), "abc"), hold(id(1, 2, 1, 1), "abc"), hold(id(1, 2, 1, 1), long(48)), deliver(id(1, self, 2, 4)), release(id(6, 7, 20, 7))}
	type row = struct {
		call   called
		e      api.Ev
		safely bool
	}
	out := []row{{submitting(1, "abc"), l[0], true}}
	for _, e := range l[1:] {
		out = append(out, row{putting(e), e, e.Kind != 3})
	}
	return out
}

func TestPutEndsWhereThePowerGoes(t *testing.T) {
	for _, ahead := range [][]api.Ev{nil, {release(id(self, 1, 9, 2))}, {release(id(self, 1, 9, 2)), release(id(self, 5, 8, 30)), hold(id(1, 2, 2, 2), "a")}} {
		for _, x := range puttings() {
			c, d := having(t)
			puts(t, c, ahead...)
			needs := changesOf(t, d, x.e, x.safely)
			for n := range needs {
				putWithPower(t, ahead, x.call, x.e, n)
			}
			ok(t, d.Arm(needs)) // behind the last one: nothing more is asked of the disk
			ok(t, x.call.do(c))
			checkState(t, c, replayed(some(), slices.Concat([]api.Ev{boot()}, ahead, []api.Ev{x.e})...))
			if c.Failed() || !d.Down() {
				t.Fatalf("%s: failed %t, down %t", x.call.text, c.Failed(), d.Down())
			}
			answers(t, putting(x.e).do(c), map[int]api.Errno{2: api.ErrTwice, 3: api.ErrNone, 4: api.ErrTwice}[x.e.Kind]) // the store's errors come ahead of the disk's
			answers(t, submitting(1, "x").do(c), api.ErrDown)
			hasFailed(t, c, d)
		}
	}
}

// changesOf answers how many changes putting an event down needs, by what stands on the disk.
func changesOf(t *testing.T, d *disk.Disk, e api.Ev, safely bool) int {
	t.Helper()
	n := 1
	last := filesOf(t, d)[len(d.Names())-1]
	if len(last.bytes)+len(log(e)) > segment && last.safe < len(last.bytes) {
		n++
	}
	if safely {
		n++
	}
	return n
}

// putWithPower asks what is there when the power goes behind n changes, too few for the call.
func putWithPower(t *testing.T, ahead []api.Ev, x called, e api.Ev, n int) {
	t.Helper()
	c, d := having(t)
	puts(t, c, ahead...)
	before := c.State()
	ok(t, d.Arm(n))
	answers(t, x.do(c), api.ErrDown)
	checkState(t, c, before)
	hasFailed(t, c, d)
	for keep := range 80 {
		now := crashed(t, d, keep)
		other, fault := open(now)
		ok(t, fault)
		got := text(other.State())
		want := []string{text(replayed(before, boot())), text(replayed(before, e, boot()))}
		for k := range ahead { // of those that were only put down, a beginning
			if !slices.ContainsFunc(ahead[k:], func(e api.Ev) bool { return e.Kind != 3 }) {
				want = append(want, text(replayed(some(), slices.Concat([]api.Ev{boot()}, ahead[:k], []api.Ev{boot()})...)))
			}
		}
		if !slices.Contains(want, got) {
			t.Fatalf("%s, power for %d changes, keeping %d: %s; not one of %q", x.text, n, keep, got, want)
		}
	}
	ok(t, d.Crash(nil)) // the power comes again, but not to this custody
	hasFailed(t, c, d)
}
