package custody_test

import (
	"testing"

	"portage/api"
	"portage/custody"
	"portage/disk"
)

// P17.4

func TestWhatACustodyTells(t *testing.T) {
	c, d := having(t)
	state := replayed(some(), boot())
	checkState(t, c, state)
	for _, i := range []api.Id{{}, id(6, 7, 20, 8), id(6, 7, 21, 7), id(5, 7, 20, 7), id(6, 5, 20, 7), id(1, self, 2, 3), id(64, -1, 0, most+1)} {
		if m, there := c.Find(i); there || m.Id != (api.Id{}) || m.Data != nil {
			t.Fatalf("Find(%v): %v, %t", i, m, there)
		}
	}
	for _, i := range []api.Id{{}, id(1, self, 2, 4), id(1, self, 3, 1), id(2, self, 2, 1), id(6, 7, 20, 7), id(1, 2, 2, 3), id(1, self, 2, 0), id(1, self, 2, -1), id(self, self, 2, 3)} {
		if c.Seen(i) {
			t.Fatalf("Seen(%v)", i)
		}
	}
	if c.Size() != d.Used() || c.Size() != len(shot(some()))+9 {
		t.Fatalf("the size is %d", c.Size())
	}
}

// The size is that of the whole disk.
func TestSize(t *testing.T) {
	c, d := fresh(t)
	size := func(want int) {
		t.Helper()
		if c.Size() != want {
			t.Fatalf("the size is %d; not %d", c.Size(), want)
		}
	}
	size(9)
	submits(t, c, 1, "abc", id(self, 1, 1, 1))
	size(9 + 18)
	ok(t, d.Append("other", []byte("12345")))
	size(9 + 18 + 5)
	ok(t, d.Arm(0))
	size(0)
	if c.Failed() {
		t.Fatal("nothing was answered yet")
	}
	ok(t, d.Crash(nil))
	size(9 + 18)
}

func TestANilCustody(t *testing.T) {
	var c *custody.Custody
	for _, x := range []called{
		submitting(1, "x"), submitting(-1, ""), submitting(64, long(49)), compacting(),
		putting(hold(id(1, 2, 1, 1), "x")), putting(hold(api.Id{}, "")), putting(release(id(1, 2, 1, 1))), putting(release(api.Id{})), putting(deliver(id(1, 2, 1, 1))), putting(deliver(api.Id{})),
	} {
		if e := x.do(c); e != api.ErrState {
			t.Errorf("%s: %d", x.text, e)
		}
	}
	if st := c.State(); text(st) != text(api.State{}) || st.Next != nil || st.Held != nil || st.Seen != nil {
		t.Errorf("State: %v", st)
	}
	if l := c.Held(); l != nil {
		t.Errorf("Held: %v", l)
	}
	for _, i := range []api.Id{{}, id(1, 2, 1, 1), id(1, self, 1, 1)} {
		if m, there := c.Find(i); there || m.Id != (api.Id{}) || m.Data != nil {
			t.Errorf("Find: %v, %t", m, there)
		}
		if c.Seen(i) {
			t.Errorf("Seen(%v)", i)
		}
	}
	if c.Size() != 0 || !c.Failed() {
		t.Errorf("Size %d, Failed %t", c.Size(), c.Failed())
	}
}

// Words: when it has failed

// failing answers custodies that have failed, each by another call.
func failing(t *testing.T) map[string]func() (*custody.Custody, *disk.Disk) {
	out := map[string]func() (*custody.Custody, *disk.Disk){}
	calls := []called{compacting()}
	for _, x := range puttings() {
		calls = append(calls, x.call)
	}
	for _, x := range calls {
		out[x.text] = func() (*custody.Custody, *disk.Disk) {
			c, d := having(t)
			ok(t, d.Arm(0))
			answers(t, x.do(c), api.ErrDown)
			return c, d
		}
	}
	return out
}

func TestACustodyThatHasFailed(t *testing.T) {
	state := replayed(some(), boot())
	for name, begin := range failing(t) {
		t.Run(name, func(t *testing.T) {
			c, d := begin()
			hasFailed(t, c, d)
			checkState(t, c, state) // it tells what it had
			if c.Size() != 0 {
				t.Fatalf("the size is %d without power", c.Size())
			}
			ok(t, d.Crash(nil))
			hasFailed(t, c, d)
			checkState(t, c, state)
			if c.Size() != d.Used() {
				t.Fatalf("the size is %d; not %d", c.Size(), d.Used())
			}
			other := opened(t, d, replayed(state, boot())) // the disk itself can be opened again
			submits(t, other, 1, "x", id(self, 1, 11, 1))
			hasFailed(t, c, d)
		})
	}
}

// Without power, but before the disk has answered that, what a custody tells is the same, and what the store refuses is refused.
func TestACustodyWithoutPower(t *testing.T) {
	c, d := having(t)
	ok(t, d.Arm(0))
	checkState(t, c, replayed(some(), boot()))
	refuses(t, c, d, api.ErrForm, submitting(1, ""), submitting(self, "x"), putting(deliver(id(1, 2, 1, 1))))
	refuses(t, c, d, api.ErrRange, submitting(64, "x"), putting(release(id(64, 1, 1, 1))))
	refuses(t, c, d, api.ErrTwice, putting(hold(some().Held[0].Id, "x")), putting(deliver(id(1, self, 2, 1))))
	refuses(t, c, d, api.ErrNone, putting(release(id(1, 2, 1, 1))))
	if c.Failed() {
		t.Fatal("it has failed")
	}
	answers(t, submitting(1, "x").do(c), api.ErrDown)
	hasFailed(t, c, d)
}

// No other error than ErrDown fails it.
func TestErrorsThatDoNotFail(t *testing.T) {
	c, d := having(t)
	ok(t, d.Limit(0))
	calls := []called{compacting(), submitting(64, "x"), submitting(self, "x"), putting(hold(id(1, 2, 1, 1), long(49)))}
	for _, x := range puttings() {
		calls = append(calls, x.call)
	}
	for _, x := range calls {
		if e := x.do(c); e == api.OK || e == api.ErrDown || c.Failed() {
			t.Fatalf("%s: %d, failed %t", x.text, e, c.Failed())
		}
	}
	ok(t, d.Limit(mostBytes))
	submits(t, c, 1, "x", id(self, 1, 10, 1))
	ok(t, c.Compact())
	ok(t, d.Remove(snapshot(6))) // somebody takes the snapshot away
	submits(t, c, 1, "y", id(self, 1, 10, 2))
	answers(t, c.Compact(), api.ErrNone)
	if c.Failed() {
		t.Fatal("it has failed")
	}
	submits(t, c, 1, "z", id(self, 1, 10, 3))
}

// Memory

// scribble turns the bytes of p, and those in the room behind it.
func scribble(p []byte) {
	p = p[:cap(p)]
	for i := range p {
		p[i] ^= 0xff
	}
}

// roomyBytes answers these bytes, with others in the room behind them.
func roomyBytes(s string) []byte {
	return append([]byte(s), "behind them"...)[:len(s)]
}

func checkRoom(t *testing.T, p []byte, s string) {
	t.Helper()
	if string(p[:len(s)+11]) != s+"behind them" {
		t.Fatalf("%q was changed", p[:len(s)+11])
	}
}

func TestWhatIsHandedInIsNeitherChangedNorKept(t *testing.T) {
	c, d := fresh(t)
	data := roomyBytes("submitted")
	i, e := c.Submit(1, data)
	ok(t, e)
	checkRoom(t, data, "submitted")
	m := api.Msg{Id: id(1, 2, 1, 1), Data: roomyBytes("held")}
	ok(t, c.Hold(m))
	checkRoom(t, m.Data, "held")
	answers(t, c.Hold(m), api.ErrTwice)
	checkRoom(t, m.Data, "held")
	scribble(data)
	scribble(m.Data)
	want := of(boot(), hold(i, "submitted"), hold(m.Id, "held"))
	checkState(t, c, want)
	behind(t, d, 0, want)
}

func TestAnswersAreNewMemory(t *testing.T) {
	c, d := having(t)
	state := c.State()
	checkState(t, c, state)
	for range 2 {
		spoil(c.State())
		spoil(api.State{Held: c.Held()})
		for _, m := range some().Held {
			found, _ := c.Find(m.Id)
			scribble(found.Data)
		}
		checkState(t, c, replayed(some(), boot()))
		ok(t, c.Compact())
		behind(t, d, 0, replayed(some(), boot()))
		c = opened(t, laid(t, safely(snapshot(4), shot(some()))), replayed(some(), boot()))
	}
	a, b := c.State(), c.State() // nor do two answers share any, or two lists of one
	spoil(a)
	if text(b) != text(replayed(some(), boot())) {
		t.Fatalf("%v", b)
	}
	first := c.State()
	scribble(first.Held[0].Data)
	for n, m := range first.Held[1:] {
		if string(m.Data) != string(some().Held[n+1].Data) {
			t.Fatalf("%v", first.Held)
		}
	}
	_ = append(first.Seen[0].More, 99)
	if text(api.State{Seen: first.Seen}) != text(api.State{Seen: some().Seen}) {
		t.Fatalf("%v", first.Seen)
	}
}

// spoil changes all that a state has.
func spoil(st api.State) {
	for n := range st.Next {
		st.Next[n] = api.Next{Dest: 7, Counter: 7}
	}
	for n := range st.Held {
		scribble(st.Held[n].Data)
		st.Held[n] = api.Msg{}
	}
	for n := range st.Seen {
		for k := range st.Seen[n].More {
			st.Seen[n].More[k] = 7777
		}
		st.Seen[n] = api.Mark{}
	}
}

// Two custodies of two disks say nothing of one another; nor does one on a fork.
func TestCustodiesAreApart(t *testing.T) {
	a, d := having(t)
	b, other := having(t)
	fork := d.Fork()
	submits(t, a, 1, "x", id(self, 1, 10, 1))
	checkState(t, b, replayed(some(), boot()))
	submits(t, b, 1, "y", id(self, 1, 10, 1))
	ok(t, b.Compact())
	behind(t, d, 0, replayed(some(), boot(), hold(id(self, 1, 10, 1), "x")))
	behind(t, other, 0, replayed(some(), boot(), hold(id(self, 1, 10, 1), "y")))
	behind(t, fork, 0, replayed(some(), boot()))
}
