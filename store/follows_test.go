package store

import (
	"math/rand"
	"testing"

	"portage/api"
)

// someEvent answers an event that is mostly right, of few ids, so that many meet.
func someEvent(rnd *rand.Rand) api.Ev {
	i := id(rnd.Intn(3), rnd.Intn(3), 1+rnd.Intn(3), 1+rnd.Intn(5))
	if rnd.Intn(40) == 0 {
		return api.Ev{Kind: rnd.Intn(7) - 1, Msg: ms(i, long(rnd.Intn(3)))}
	}
	switch rnd.Intn(12) {
	case 0:
		return boot()
	case 1, 2, 3, 4, 5:
		return hold(i, long(rnd.Intn(5)))
	case 6, 7, 8:
		return release(i)
	}
	return deliver(i)
}

// P15.2 and P15.5, of all kinds of events as they come, P15.7 with them
func TestEventsAsTheyCome(t *testing.T) {
	met := map[[2]int]int{}
	for seed := range 200 {
		rnd := rand.New(rand.NewSource(int64(seed)))
		q := quota(rnd.Intn(5), rnd.Intn(12), rnd.Intn(4))
		self := rnd.Intn(3)
		s, m := made(t, self, q), newModel(t, self, q)
		for range 300 {
			e := someEvent(rnd)
			met[[2]int{e.Kind, int(both(t, s, m, e))}]++
			checkQuota(t, s, q)
		}
		checkStore(t, s, q, m.state())
	}
	for _, x := range [][2]int{{1, 0}, {1, 2}, {2, 0}, {2, 2}, {2, 5}, {2, 6}, {3, 0}, {3, 2}, {3, 4}, {4, 0}, {4, 2}, {4, 5}, {4, 6}, {0, 1}, {5, 1}} {
		if met[x] < 20 {
			t.Errorf("the kind %d and the error %d: met %d times", x[0], x[1], met[x])
		}
	}
}

// checkQuota asks that a store has no more than it may (P15.7), and that its counts are of what it has.
func checkQuota(t *testing.T, s *Store, q api.Quota) {
	t.Helper()
	st, gaps := s.State(), 0
	for _, m := range st.Seen {
		gaps += len(m.More)
	}
	size := sizeHeld(st.Held)
	if len(st.Held) > q.Held || size > q.Bytes || gaps > q.Gaps || s.Bytes() != size {
		t.Fatalf("%s, %d bytes, of the quota %+v", short(st), s.Bytes(), q)
	}
}

// P15.5: all that is told is the same behind May, whatever it says.
func TestMayChangesNothing(t *testing.T) {
	rnd := rand.New(rand.NewSource(5))
	for range 40 {
		s := made(t, rnd.Intn(3), quota(rnd.Intn(4), rnd.Intn(9), rnd.Intn(3)))
		for range 40 {
			e := someEvent(rnd)
			was := tells(s)
			first := s.May(e)
			if now := tells(s); now != was {
				t.Fatalf("behind May(%+v): %s; not %s", e, now, was)
			}
			answers(t, s.May(e), first)
			answers(t, s.Apply(e), first)
			if now := tells(s); first != api.OK && now != was {
				t.Fatalf("behind Apply(%+v): %s; not %s", e, now, was)
			}
		}
	}
}

// P15.6

func TestFreshIdsAreNeverTheSame(t *testing.T) {
	for seed := range 30 {
		rnd := rand.New(rand.NewSource(int64(seed)))
		q := quota(1+rnd.Intn(6), 1+rnd.Intn(40), 4)
		s := made(t, 1, q)
		ok(t, s.Apply(boot()))
		told := map[api.Id]bool{}
		for range 400 {
			switch rnd.Intn(8) {
			case 0:
				ok(t, s.Apply(boot()))
			case 1: // one of its own that is gone, or of an elder epoch, comes back
				s.Apply(hold(id(1, 2+rnd.Intn(3), 1+rnd.Intn(s.Epoch()), 1+rnd.Intn(9)), "x"))
			case 2, 3:
				if held := s.Held(); len(held) > 0 {
					ok(t, s.Apply(release(held[rnd.Intn(len(held))].Id)))
				}
			case 4:
				s = madeOf(t, q, s.State())
			default:
				i, e := s.Fresh(2 + rnd.Intn(3))
				ok(t, e)
				if s.Apply(hold(i, "x")) != api.OK {
					continue
				}
				if told[i] {
					t.Fatalf("%v is told again", i)
				}
				told[i] = true
			}
		}
		if len(told) < 20 {
			t.Errorf("seed %d: %d ids", seed, len(told))
		}
	}
}

func TestFreshIdsOfAllCounters(t *testing.T) {
	s := made(t, 1, quota(1, 1, 0))
	applies(t, s, boot())
	for c := 1; c <= most; c++ {
		i, e := s.Fresh(2)
		if i != id(1, 2, 1, c) || e != api.OK {
			t.Fatalf("%d: %v, %d", c, i, e)
		}
		if s.Apply(hold(i, "x")) != api.OK || s.Apply(release(i)) != api.OK {
			t.Fatalf("%v is not held, or not released", i)
		}
	}
	freshErrs(t, s, api.ErrOver, 2)
	checkStore(t, s, quota(1, 1, 0), api.State{Self: 1, Epoch: 1, Next: next(2, most)})
	applies(t, s, boot())
	freshIs(t, s, 2, id(1, 2, 2, 1))
}

// P15.6, over all epochs
func TestFreshIdsOfAllEpochs(t *testing.T) {
	s := made(t, 1, quota(1, 1, 0))
	for epoch := 1; epoch <= most; epoch++ {
		if e := s.Apply(boot()); e != api.OK {
			t.Fatalf("%d: %d", epoch, e)
		}
		for c := 1; c <= 2; c++ {
			i, e := s.Fresh(2)
			if i != id(1, 2, epoch, c) || e != api.OK {
				t.Fatalf("%d: %v, %d", epoch, i, e)
			}
			if s.Apply(hold(i, "x")) != api.OK || s.Apply(release(i)) != api.OK {
				t.Fatalf("%v is not held, or not released", i)
			}
		}
	}
	refuses(t, s, api.ErrOver, boot())
	freshIs(t, s, 2, id(1, 2, most, 3))
}

// P15.8

func TestFromOfStateGoesOnAsTheStore(t *testing.T) {
	for seed := range 60 {
		rnd := rand.New(rand.NewSource(int64(seed)))
		q := quota(rnd.Intn(5), rnd.Intn(12), rnd.Intn(4))
		self := rnd.Intn(3)
		s := made(t, self, q)
		for range 60 {
			s.Apply(someEvent(rnd))
			other := madeOf(t, q, s.State())
			checkStore(t, other, q, s.State())
			if rnd.Intn(10) > 0 {
				continue
			}
			for range 40 { // the same comes to both
				e := someEvent(rnd)
				if a, b := s.Apply(e), other.Apply(e); a != b {
					t.Fatalf("Apply(%+v): %d and %d", e, a, b)
				}
				if a, b := tells(s), tells(other); a != b {
					t.Fatalf("behind Apply(%+v): %s; not %s", e, b, a)
				}
			}
		}
	}
}

// What a store tells as its state is right, with just the quota that it needs.
func TestFromOfStateWithJustItsQuota(t *testing.T) {
	rnd := rand.New(rand.NewSource(8))
	for range 40 {
		s := made(t, rnd.Intn(3), great)
		for range 60 {
			s.Apply(someEvent(rnd))
		}
		st, gaps := s.State(), 0
		for _, m := range st.Seen {
			gaps += len(m.More)
		}
		q := quota(len(st.Held), s.Bytes(), gaps)
		fromAnswers(t, api.OK, q, st)
		for _, less := range []api.Quota{quota(q.Held-1, q.Bytes, q.Gaps), quota(q.Held, q.Bytes-1, q.Gaps), quota(q.Held, q.Bytes, q.Gaps-1)} {
			if less.Held >= 0 && less.Bytes >= 0 && less.Gaps >= 0 {
				fromAnswers(t, api.ErrFull, less, st)
			}
		}
	}
}

// Two stores of one state go their own ways.
func TestStoresOfOneStateAreApart(t *testing.T) {
	st := some()
	a, b := madeOf(t, great, st), madeOf(t, great, st)
	applies(t, a, release(id(5, 1, 20, 7)), boot(), hold(id(3, 2, 10, 1), "x"), deliver(id(1, 3, 2, 4)), deliver(id(5, 3, 1, 1)))
	checkStore(t, b, great, some())
	c := madeOf(t, great, b.State())
	applies(t, b, release(id(3, 2, 9, 1)), boot(), deliver(id(1, 3, 2, 4)))
	checkStore(t, c, great, some())
}
