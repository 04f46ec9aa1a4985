package store

import (
	"math"
	"slices"
	"testing"

	"portage/api"
)

// The chapter's example.
func TestExample(t *testing.T) {
	s := made(t, 1, great)
	applies(t, s, boot())
	checkStore(t, s, great, api.State{Self: 1, Epoch: 1})
	freshIs(t, s, 2, id(1, 2, 1, 1))
	applies(t, s, hold(id(1, 2, 1, 1), "x"))
	freshIs(t, s, 2, id(1, 2, 1, 2))
	applies(t, s, boot())
	freshIs(t, s, 2, id(1, 2, 2, 1))
}

func freshIs(t *testing.T, s *Store, dest int, want api.Id) {
	t.Helper()
	if i, e := s.Fresh(dest); i != want || e != api.OK {
		t.Fatalf("Fresh(%d): %v, %d; not %v", dest, i, e, want)
	}
}

// stores answers stores of the node 3: one that has nothing, one that has some of all, one without any room, one whose epochs are used up.
func stores(t *testing.T) []*Store {
	t.Helper()
	last := some()
	last.Epoch = most
	last.Next = next(2, 1)
	return []*Store{made(t, 3, great), madeOf(t, great, some()), madeOf(t, quota(3, 6, 3), some()), madeOf(t, great, last), made(t, 3, api.Quota{})}
}

// P15.2: what is said of an event by itself

func TestKindsThatAreNone(t *testing.T) {
	for _, s := range stores(t) {
		for _, kind := range []int{math.MinInt, -4, -1, 0, 5, 6, 8, 257, 258, 1<<32 + 1, math.MaxInt} {
			for _, e := range []api.Ev{{}, hold(id(5, 1, 1, 1), "x"), release(id(5, 1, 20, 7)), hold(id(64, 1, 1, 1), long(49)), release(id(3, 3, 3, 3))} {
				e.Kind = kind
				refuses(t, s, api.ErrRange, e)
			}
		}
	}
}

func TestBootWithAMsg(t *testing.T) {
	for _, s := range stores(t) {
		for _, m := range []api.Msg{
			ms(id(0, 0, 0, 0), "x"), ms(id(0, 0, 0, 0), long(49)), ms(id(5, 1, 1, 1), "x"),
			{Id: id(1, 0, 0, 0)}, {Id: id(0, 1, 0, 0)}, {Id: id(0, 0, 1, 0)}, {Id: id(0, 0, 0, 1)}, {Id: id(-1, 0, 0, 0)}, {Id: id(5, 1, 1, 1)}, {Id: id(64, 64, 0, 0)},
		} {
			refuses(t, s, api.ErrForm, api.Ev{Kind: 1, Msg: m})
		}
	}
}

func TestHoldOfMessagesThatAreNotRight(t *testing.T) {
	for _, s := range stores(t) {
		for _, i := range wrongIds() {
			refuses(t, s, wantedId(i), hold(i, "x"))
			refuses(t, s, wantedId(i), hold(i, ""))
			refuses(t, s, wantedId(i), hold(i, long(49)))
		}
		for _, i := range []api.Id{id(5, 1, 1, 1), id(5, 1, 20, 7), id(5, 3, 1, 1), id(3, 1, 65535, 1), id(3, 2, 9, 1)} {
			refuses(t, s, api.ErrForm, hold(i, ""))
			refuses(t, s, api.ErrForm, api.Ev{Kind: 2, Msg: api.Msg{Id: i}})
		}
		refuses(t, s, api.ErrLong, hold(id(5, 1, 1, 1), long(49)))
		refuses(t, s, api.ErrLong, hold(id(5, 1, 1, 1), long(1000)))
		refuses(t, s, api.ErrLong, hold(id(5, 1, 20, 7), long(49))) // is held by some
		refuses(t, s, api.ErrLong, hold(id(5, 3, 1, 1), long(49)))  // is for self
		refuses(t, s, api.ErrLong, hold(id(3, 1, 65535, 1), long(49)))
	}
}

func TestReleaseAndDeliverOfWhatIsNotRight(t *testing.T) {
	for _, s := range stores(t) {
		for _, kind := range []int{3, 4} {
			for _, i := range wrongIds() {
				refuses(t, s, wantedId(i), api.Ev{Kind: kind, Msg: api.Msg{Id: i}})
				refuses(t, s, wantedId(i), api.Ev{Kind: kind, Msg: ms(i, "x")})
			}
			for _, i := range []api.Id{id(5, 1, 1, 1), id(5, 1, 20, 7), id(1, 3, 2, 4), id(1, 3, 2, 3), id(5, 3, 1, 9)} { // held, delivered, and neither
				refuses(t, s, api.ErrForm, api.Ev{Kind: kind, Msg: ms(i, "x")})
				refuses(t, s, api.ErrForm, api.Ev{Kind: kind, Msg: ms(i, long(49))})
			}
		}
	}
}

// P15.2: EvBoot

func TestBoot(t *testing.T) {
	s := made(t, 3, great)
	for epoch := 1; epoch <= 5; epoch++ {
		applies(t, s, api.Ev{Kind: 1, Msg: api.Msg{Data: []byte{}}}) // no Data is nil's like
		checkStore(t, s, great, api.State{Self: 3, Epoch: epoch})
	}
}

// A new epoch has no counters, and all else is as it was.
func TestBootOfAStoreThatHasSome(t *testing.T) {
	q := quota(3, 6, 3)
	s := madeOf(t, q, some())
	applies(t, s, boot())
	want := some()
	want.Epoch, want.Next = 10, nil
	checkStore(t, s, q, want)
}

func TestBootAtTheLastEpoch(t *testing.T) {
	s := madeOf(t, great, api.State{Self: 3, Epoch: most - 1})
	applies(t, s, boot())
	checkStore(t, s, great, api.State{Self: 3, Epoch: most})
	refuses(t, s, api.ErrOver, boot())
	applies(t, s, hold(id(3, 2, most, 1), "x"), release(id(3, 2, most, 1)), deliver(id(2, 3, 1, 1)))
	refuses(t, s, api.ErrOver, boot())
	refuses(t, s, api.ErrForm, api.Ev{Kind: 1, Msg: ms(id(0, 0, 0, 0), "x")})
	refuses(t, s, api.ErrForm, api.Ev{Kind: 1, Msg: api.Msg{Id: id(1, 2, 3, 4)}})
}

// P15.2: EvHold

func TestHold(t *testing.T) {
	s := made(t, 3, great)
	var want []api.Msg
	for _, m := range []api.Msg{ms(id(1, 2, 9, 7), "a"), ms(id(1, 2, 9, 3), "bc"), ms(id(0, 63, 65535, 65535), long(48)), ms(id(5, 4, 1, 1), "\x00"), ms(id(1, 2, 8, 7), "a")} {
		applies(t, s, api.Ev{Kind: 2, Msg: m})
		want = append(want, m)
		checkStore(t, s, great, api.State{Self: 3, Held: want})
	}
}

func TestHoldOfWhatIsForSelf(t *testing.T) {
	for _, self := range []int{0, 3, 63} {
		for _, s := range []*Store{made(t, self, great), madeOf(t, api.Quota{}, api.State{Self: self, Epoch: 5})} {
			for _, origin := range []int{0, 1, 3, 62, 63} {
				if origin != self {
					refuses(t, s, api.ErrForm, hold(id(origin, self, 1, 1), "x"))
				}
			}
		}
	}
}

func TestHoldOfSelfsEpochs(t *testing.T) {
	for _, epoch := range []int{0, 1, 2, 9, most - 1, most} {
		st := api.State{Self: 3, Epoch: epoch}
		for _, of := range []int{1, 2, epoch - 1, epoch, epoch + 1, epoch + 2, most} {
			if of < 1 || of > most {
				continue
			}
			s := madeOf(t, great, st)
			own, foreign := hold(id(3, 2, of, 5), "x"), hold(id(2, 1, of, 5), "x")
			if of > epoch {
				refuses(t, s, api.ErrForm, own)
				applies(t, s, foreign)
				continue
			}
			applies(t, s, own, foreign)
			want := api.State{Self: 3, Epoch: epoch, Held: []api.Msg{own.Msg, foreign.Msg}}
			if of == epoch {
				want.Next = next(2, 5)
			}
			checkStore(t, s, great, want)
		}
	}
}

func TestHoldOfWhatIsHeld(t *testing.T) {
	q := quota(3, 6, 3)
	for _, s := range []*Store{madeOf(t, great, some()), madeOf(t, q, some())} { // ahead of ErrFull, too
		for _, m := range some().Held {
			for _, data := range []string{"a", string(m.Data), "xyz", long(48)} {
				refuses(t, s, api.ErrTwice, hold(m.Id, data))
			}
		}
		for _, m := range some().Held {
			applies(t, s, release(m.Id), hold(m.Id, string(m.Data))) // once it is not, it may come again
		}
	}
}

func TestHoldOfAnotherId(t *testing.T) {
	s := made(t, 3, great)
	for _, i := range []api.Id{id(1, 2, 5, 5), id(4, 2, 5, 5), id(1, 4, 5, 5), id(1, 2, 6, 5), id(1, 2, 5, 6), id(2, 1, 5, 5)} { // each one differs in just one number from the first
		applies(t, s, hold(i, "same"))
		refuses(t, s, api.ErrTwice, hold(i, "same"))
	}
}

func TestHoldTillTheMessagesAreFull(t *testing.T) {
	for _, n := range []int{0, 1, 2, 3, 100, 255, 256} {
		q := quota(n, mostBytes, 9)
		s := made(t, 3, q)
		st := many(n, 2)
		for _, m := range st.Held {
			applies(t, s, api.Ev{Kind: 2, Msg: m})
		}
		checkStore(t, s, q, st)
		refuses(t, s, api.ErrFull, hold(id(1, 2, 1, 1), "x"))
		if n == 0 {
			continue
		}
		applies(t, s, release(st.Held[n/2].Id), hold(id(1, 2, 1, 1), "x"))
		refuses(t, s, api.ErrFull, hold(id(1, 2, 1, 2), "x"))
	}
}

func TestHoldTillTheBytesAreFull(t *testing.T) {
	for _, bytes := range []int{0, 1, 2, 47, 48, 49, 100, 1000} {
		q := quota(mostHeld, bytes, 9)
		s := made(t, 3, q)
		for _, n := range []int{payload, 7, 1} { // as many of each as there is room for
			counter := 1
			for ; s.Bytes()+n <= bytes && len(s.Held()) < mostHeld; counter++ {
				applies(t, s, hold(id(1, 2, n, counter), long(n)))
			}
			refuses(t, s, api.ErrFull, hold(id(1, 2, n, counter), long(n)))
		}
		if s.Bytes() != bytes {
			t.Fatalf("%d bytes; not %d", s.Bytes(), bytes)
		}
		checkStore(t, s, q, s.State())
	}
	s := made(t, 3, quota(mostHeld, 10, 9))
	applies(t, s, hold(id(1, 2, 1, 1), long(4)), hold(id(1, 2, 1, 2), long(5)))
	refuses(t, s, api.ErrFull, hold(id(1, 2, 1, 3), long(2)))
	applies(t, s, release(id(1, 2, 1, 1)))
	refuses(t, s, api.ErrFull, hold(id(1, 2, 1, 3), long(6)))
	applies(t, s, hold(id(1, 2, 1, 3), long(5)))
	refuses(t, s, api.ErrFull, hold(id(1, 2, 1, 4), "x"))
}

// What is not right for this store is told ahead of what has no room.
func TestHoldTellsTheErrorThatIsNamedFirst(t *testing.T) {
	full := some()
	s := madeOf(t, quota(3, 6, 3), full)
	refuses(t, s, api.ErrFull, hold(id(5, 1, 1, 1), "x"))
	refuses(t, s, api.ErrForm, hold(id(5, 3, 1, 1), "x"))
	refuses(t, s, api.ErrForm, hold(id(3, 1, 10, 1), "x"))
	refuses(t, s, api.ErrTwice, hold(full.Held[1].Id, "x"))
	refuses(t, s, api.ErrLong, hold(full.Held[1].Id, long(49)))
	refuses(t, s, api.ErrForm, hold(full.Held[1].Id, ""))
	refuses(t, s, api.ErrRange, hold(id(64, 64, 1, 1), long(49)))
}

// P15.2: counters that are used

func TestHoldUsesTheCounterOfThisEpoch(t *testing.T) {
	s := madeOf(t, great, api.State{Self: 3, Epoch: 9})
	nextIs := func(want ...int) {
		t.Helper()
		if got := s.State().Next; !slices.Equal(got, next(want...)) {
			t.Fatalf("%v; not %v", got, want)
		}
	}
	nextIs()
	applies(t, s, hold(id(3, 2, 9, 5), "x"))
	nextIs(2, 5)
	applies(t, s, hold(id(3, 2, 9, 4), "x")) // a smaller one
	nextIs(2, 5)
	applies(t, s, hold(id(3, 2, 9, 6), "x")) // the next one
	nextIs(2, 6)
	applies(t, s, hold(id(3, 2, 9, 100), "x")) // a greater one
	nextIs(2, 100)
	applies(t, s, hold(id(4, 2, 9, 200), "x")) // of another Origin
	nextIs(2, 100)
	applies(t, s, hold(id(3, 2, 8, 200), "x")) // of an older epoch
	nextIs(2, 100)
	applies(t, s, hold(id(3, 63, 9, 1), "x"), hold(id(3, 0, 9, 7), "x")) // for others
	nextIs(0, 7, 2, 100, 63, 1)
	applies(t, s, hold(id(3, 2, 9, 65535), "x"))
	nextIs(0, 7, 2, 65535, 63, 1)
	applies(t, s, release(id(3, 2, 9, 65535)), release(id(3, 0, 9, 7))) // stays used
	nextIs(0, 7, 2, 65535, 63, 1)
	applies(t, s, deliver(id(2, 3, 9, 1)))
	nextIs(0, 7, 2, 65535, 63, 1)
	applies(t, s, boot())
	nextIs()
	applies(t, s, hold(id(3, 2, 9, 7), "x")) // now that is an older epoch
	nextIs()
	applies(t, s, hold(id(3, 2, 10, 7), "x"))
	nextIs(2, 7)
}

// P15.2: EvRelease

func TestRelease(t *testing.T) {
	for at := range 3 {
		for _, q := range []api.Quota{great, quota(3, 6, 3)} {
			s := madeOf(t, q, some())
			want := some()
			i := want.Held[at].Id
			applies(t, s, release(i))
			want.Held = slices.Delete(want.Held, at, at+1)
			checkStore(t, s, q, want)
			refuses(t, s, api.ErrNone, release(i))
			if m, there := s.Find(i); there || m.Id != (api.Id{}) || m.Data != nil {
				t.Fatalf("Find(%v): %v, %t", i, m, there)
			}
		}
	}
}

func TestReleaseOfWhatIsNotHeld(t *testing.T) {
	for _, s := range stores(t) {
		for _, i := range []api.Id{id(5, 1, 20, 8), id(5, 1, 19, 7), id(5, 2, 20, 7), id(4, 1, 20, 7), id(1, 5, 20, 7), id(1, 3, 2, 1), id(5, 3, 1, 1), id(3, 2, 65535, 1), id(3, 2, 9, 2)} {
			refuses(t, s, api.ErrNone, release(i))
		}
	}
}

func TestReleaseOfAll(t *testing.T) {
	st := many(256, 48)
	s := madeOf(t, great, st)
	for at := range 256 { // from both ends and the midst
		k := at * 101 % len(st.Held)
		applies(t, s, release(st.Held[k].Id))
		st.Held = slices.Delete(st.Held, k, k+1)
		if at%16 == 15 {
			checkStore(t, s, great, st)
		}
	}
	if s.Bytes() != 0 || len(s.Held()) != 0 {
		t.Fatalf("%d bytes, %v", s.Bytes(), s.Held())
	}
}

// P15.2: EvDeliver

func TestDeliver(t *testing.T) {
	s := made(t, 3, great)
	applies(t, s, deliver(id(1, 3, 5, 1)))
	checkStore(t, s, great, api.State{Self: 3, Seen: []api.Mark{mk(1, 5, 1)}})
	applies(t, s, deliver(id(1, 3, 5, 3)))
	checkStore(t, s, great, api.State{Self: 3, Seen: []api.Mark{mk(1, 5, 1, 3)}})
	applies(t, s, deliver(id(0, 3, 65535, 65535)), deliver(id(1, 3, 4, 1)), deliver(id(63, 3, 1, 1)))
	checkStore(t, s, great, api.State{Self: 3, Seen: []api.Mark{mk(0, 65535, 0, 65535), mk(1, 4, 1), mk(1, 5, 1, 3), mk(63, 1, 1)}})
	applies(t, s, api.Ev{Kind: 4, Msg: api.Msg{Id: id(1, 3, 5, 2), Data: []byte{}}})
	checkStore(t, s, great, api.State{Self: 3, Seen: []api.Mark{mk(0, 65535, 0, 65535), mk(1, 4, 1), mk(1, 5, 3), mk(63, 1, 1)}})
}

func TestDeliverOfWhatIsForAnother(t *testing.T) {
	for _, s := range stores(t) {
		for _, i := range []api.Id{id(1, 2, 2, 4), id(1, 2, 2, 1), id(1, 2, 2, 9), id(5, 1, 20, 7), id(3, 2, 1, 1), id(3, 2, 9, 1), id(0, 63, 1, 1), id(63, 0, 1, 9)} {
			refuses(t, s, api.ErrForm, deliver(i)) // ahead of ErrTwice and ErrFull
		}
	}
}

func TestDeliverOfWhatWasDelivered(t *testing.T) {
	for _, q := range []api.Quota{great, quota(3, 6, 3)} {
		s := madeOf(t, q, some())
		for _, i := range []api.Id{id(1, 3, 2, 1), id(1, 3, 2, 2), id(1, 3, 2, 3), id(1, 3, 2, 5), id(1, 3, 2, 7), id(1, 3, 4, 1), id(63, 3, 1, 9)} {
			refuses(t, s, api.ErrTwice, deliver(i))
		}
	}
}

func TestDeliverWithoutRoomForItsGap(t *testing.T) {
	s := madeOf(t, quota(3, 6, 3), some()) // 3 gaps
	for _, i := range []api.Id{id(1, 3, 2, 6), id(1, 3, 2, 8), id(1, 3, 4, 3), id(63, 3, 1, 2), id(63, 3, 1, 10), id(2, 3, 1, 2), id(0, 3, 1, 65535)} {
		refuses(t, s, api.ErrFull, deliver(i))
	}
	applies(t, s, deliver(id(1, 3, 4, 2)), deliver(id(2, 3, 1, 1))) // no gaps
	refuses(t, s, api.ErrFull, deliver(id(63, 3, 1, 10)))
	applies(t, s, deliver(id(1, 3, 2, 4))) // closes one
	applies(t, s, deliver(id(63, 3, 1, 10)))
	refuses(t, s, api.ErrFull, deliver(id(63, 3, 1, 12)))
	none := made(t, 3, quota(0, 0, 0))
	refuses(t, none, api.ErrFull, deliver(id(1, 3, 1, 2)))
	applies(t, none, deliver(id(1, 3, 1, 1)), deliver(id(1, 3, 1, 2)))
}

// What is held and what was delivered say nothing of one another.
func TestDeliverAndHoldAreApart(t *testing.T) {
	s := made(t, 3, great)
	applies(t, s, hold(id(1, 2, 5, 1), "x"), deliver(id(1, 3, 5, 1)))
	refuses(t, s, api.ErrTwice, hold(id(1, 2, 5, 1), "x"))
	refuses(t, s, api.ErrNone, release(id(1, 3, 5, 1)))
	applies(t, s, release(id(1, 2, 5, 1)), deliver(id(1, 3, 5, 2)))
	checkStore(t, s, great, api.State{Self: 3, Seen: []api.Mark{mk(1, 5, 2)}})
}

// P15.2: a nil store

func TestNilStoreTakesNothing(t *testing.T) {
	var s *Store
	for _, e := range []api.Ev{{}, boot(), hold(id(1, 2, 1, 1), "x"), release(id(1, 2, 1, 1)), deliver(id(1, 2, 1, 1)), hold(id(64, 64, 0, 0), ""), {Kind: 9}} {
		answers(t, s.May(e), api.ErrState)
		answers(t, s.Apply(e), api.ErrState)
	}
}
