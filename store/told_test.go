package store

import (
	"math"
	"testing"

	"portage/api"
)

// P15.3: Fresh

// freshErrs asks that Fresh answers that error, and no id.
func freshErrs(t *testing.T, s *Store, want api.Errno, dests ...int) {
	t.Helper()
	for _, dest := range dests {
		if i, e := s.Fresh(dest); i != (api.Id{}) || e != want {
			t.Fatalf("Fresh(%d): %v, %d; not %d", dest, i, e, want)
		}
	}
}

func TestFreshOfDestinations(t *testing.T) {
	for _, self := range []int{0, 1, 3, 62, 63} {
		s := made(t, self, great)
		freshErrs(t, s, api.ErrState, math.MinInt, -1, 0, self, 1, 63, 64, math.MaxInt) // in the epoch 0
		applies(t, s, boot())
		for dest := range nodes {
			if dest != self {
				freshIs(t, s, dest, id(self, dest, 1, 1))
			}
		}
		freshErrs(t, s, api.ErrForm, self)
		freshErrs(t, s, api.ErrRange, math.MinInt, -64, -2, -1, 64, 65, 128, 1<<32, math.MaxInt)
	}
}

func TestFreshOfANilStore(t *testing.T) {
	freshErrs(t, nil, api.ErrState, -1, 0, 1, 63, 64)
}

func TestFreshUsesNothing(t *testing.T) {
	s := made(t, 3, great)
	applies(t, s, boot())
	for range 5 {
		freshIs(t, s, 2, id(3, 2, 1, 1))
	}
	applies(t, s, hold(id(3, 2, 1, 1), "x"))
	for range 5 {
		freshIs(t, s, 2, id(3, 2, 1, 2))
	}
	checkStore(t, s, great, api.State{Self: 3, Epoch: 1, Next: next(2, 1), Held: []api.Msg{ms(id(3, 2, 1, 1), "x")}})
}

func TestFreshIsOfEachDestination(t *testing.T) {
	s := made(t, 3, great)
	applies(t, s, boot(), boot(), hold(id(3, 2, 2, 1), "x"), hold(id(3, 4, 2, 9), "x"))
	freshIs(t, s, 2, id(3, 2, 2, 2))
	freshIs(t, s, 4, id(3, 4, 2, 10))
	freshIs(t, s, 5, id(3, 5, 2, 1))
	applies(t, s, release(id(3, 4, 2, 9)))
	freshIs(t, s, 4, id(3, 4, 2, 10))
	applies(t, s, boot())
	freshIs(t, s, 2, id(3, 2, 3, 1))
	freshIs(t, s, 4, id(3, 4, 3, 1))
}

func TestFreshBehindTheLastCounter(t *testing.T) {
	s := madeOf(t, great, api.State{Self: 3, Epoch: 7, Next: next(1, most-1, 2, most, 4, most)})
	freshIs(t, s, 1, id(3, 1, 7, most))
	freshErrs(t, s, api.ErrOver, 2, 4)
	applies(t, s, hold(id(3, 1, 7, most), "x"))
	freshErrs(t, s, api.ErrOver, 1, 2, 4)
	freshErrs(t, s, api.ErrForm, 3)
	freshErrs(t, s, api.ErrRange, -1, 64)
	freshIs(t, s, 0, id(3, 0, 7, 1))
	applies(t, s, boot())
	for _, dest := range []int{0, 1, 2, 4} {
		freshIs(t, s, dest, id(3, dest, 8, 1))
	}
}

// P15.3: what is held

func TestHeldIsInTheOrderInWhichItCame(t *testing.T) {
	s := made(t, 3, great)
	var want []api.Msg
	come := func(i api.Id, data string) {
		applies(t, s, hold(i, data))
		want = append(want, ms(i, data))
		checkStore(t, s, great, api.State{Self: 3, Held: want})
	}
	leave := func(at int) {
		applies(t, s, release(want[at].Id))
		want = append(append([]api.Msg{}, want[:at]...), want[at+1:]...)
		checkStore(t, s, great, api.State{Self: 3, Held: want})
	}
	come(id(9, 1, 1, 1), "a")
	come(id(1, 2, 1, 9), "b")
	come(id(1, 2, 1, 3), "c")
	come(id(5, 2, 1, 1), "d")
	leave(1)
	come(id(0, 1, 1, 1), "e")
	leave(0)
	come(id(9, 1, 1, 1), "f") // again, now as the last one
	come(id(1, 2, 1, 9), "b")
	leave(4)
	leave(0)
	leave(1)
	come(id(4, 5, 6, 7), "g")
}

func TestFindOfWhatIsNotThere(t *testing.T) {
	for _, s := range append(stores(t), nil) {
		ids := append(wrongIds(), id(5, 1, 20, 8), id(5, 1, 21, 7), id(5, 2, 20, 7), id(6, 1, 20, 7), id(1, 5, 20, 7), id(1, 3, 2, 1), id(3, 2, 9, 2))
		for _, i := range ids {
			if m, there := s.Find(i); there || m.Id != (api.Id{}) || m.Data != nil {
				t.Errorf("Find(%v): %v, %t", i, m, there)
			}
		}
	}
}

func TestSeen(t *testing.T) {
	s := madeOf(t, great, some())
	for c := 1; c <= 12; c++ {
		for _, x := range []struct {
			i    api.Id
			want bool
		}{
			{id(1, 3, 2, c), c <= 3 || c == 5 || c == 7},
			{id(1, 3, 4, c), c == 1},
			{id(63, 3, 1, c), c == 9},
			{id(1, 3, 3, c), false},
			{id(2, 3, 2, c), false},
			{id(3, 1, 2, c), false}, // held, maybe, but never delivered here
			{id(3, 2, 9, c), false},
			{id(5, 1, 20, c), false},
			{id(1, 2, 2, c), false}, // to another one
			{id(1, 0, 2, c), false},
		} {
			if got := s.Seen(x.i); got != x.want {
				t.Errorf("Seen(%v): %t", x.i, got)
			}
		}
	}
	for _, i := range wrongIds() {
		if s.Seen(i) {
			t.Errorf("Seen(%v)", i)
		}
	}
	none := made(t, 3, great)
	if none.Seen(id(1, 3, 2, 1)) || none.Seen(api.Id{}) {
		t.Error("seen by a store that has nothing")
	}
}

// An id that is not right was never delivered, though its counter would be there.
func TestSeenOfIdsThatAreNotRight(t *testing.T) {
	s := madeOf(t, great, api.State{Self: 5, Seen: []api.Mark{mk(0, 1, 9), mk(1, 1, 9), mk(2, 1, 9), mk(63, 1, 9)}})
	for _, i := range wrongIds() {
		if s.Seen(i) {
			t.Errorf("Seen(%v)", i)
		}
	}
	if !s.Seen(id(1, 5, 1, 2)) {
		t.Error("not seen")
	}
}

// P15.3: Bytes, Epoch, State

func TestBytesAndEpoch(t *testing.T) {
	s := made(t, 3, great)
	for _, x := range []struct {
		e            api.Ev
		bytes, epoch int
	}{
		{boot(), 0, 1},
		{hold(id(1, 2, 1, 1), "x"), 1, 1},
		{hold(id(1, 2, 1, 2), long(48)), 49, 1},
		{boot(), 49, 2},
		{deliver(id(1, 3, 1, 1)), 49, 2},
		{hold(id(3, 2, 2, 1), "xyz"), 52, 2},
		{release(id(1, 2, 1, 2)), 4, 2},
		{boot(), 4, 3},
		{release(id(1, 2, 1, 1)), 3, 3},
		{release(id(3, 2, 2, 1)), 0, 3},
	} {
		applies(t, s, x.e)
		if s.Bytes() != x.bytes || s.Epoch() != x.epoch {
			t.Fatalf("behind %+v: %d bytes, epoch %d", x.e, s.Bytes(), s.Epoch())
		}
	}
}

func TestStateOfAStoreThatHasSome(t *testing.T) {
	s := made(t, 3, great)
	applies(t, s,
		boot(), boot(),
		hold(id(3, 63, 2, 4), "a"), hold(id(5, 1, 20, 7), "bcd"), hold(id(3, 0, 2, 2), "e"), hold(id(3, 1, 1, 9), "f"),
		release(id(3, 0, 2, 2)),
		deliver(id(63, 3, 1, 9)), deliver(id(1, 3, 2, 1)), deliver(id(1, 3, 1, 1)), deliver(id(1, 3, 2, 3)))
	checkStore(t, s, great, api.State{
		Self:  3,
		Epoch: 2,
		Next:  next(0, 2, 63, 4),
		Held:  []api.Msg{ms(id(3, 63, 2, 4), "a"), ms(id(5, 1, 20, 7), "bcd"), ms(id(3, 1, 1, 9), "f")},
		Seen:  []api.Mark{mk(1, 1, 1), mk(1, 2, 1, 3), mk(63, 1, 0, 9)},
	})
}

func TestNilStoreHasNothing(t *testing.T) {
	var s *Store
	if s.Held() != nil || s.Bytes() != 0 || s.Epoch() != 0 || s.Seen(id(1, 2, 1, 1)) || s.Seen(id(1, 0, 1, 1)) {
		t.Error("a nil store has something")
	}
	if st := s.State(); text(st) != text(api.State{}) || st.Next != nil || st.Held != nil || st.Seen != nil {
		t.Errorf("%s", text(st))
	}
}
