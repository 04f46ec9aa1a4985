package store

import (
	"math"
	"math/rand"
	"slices"
	"testing"

	"portage/api"
)

// P15.1: New

func TestNewOfSelf(t *testing.T) {
	for _, self := range []int{0, 1, 31, 62, 63} {
		checkStore(t, made(t, self, great), great, api.State{Self: self})
	}
	for _, self := range []int{math.MinInt, -64, -2, -1, 64, 65, 128, 256, 1 << 32, math.MaxInt} {
		if s, e := New(self, great); s != nil || e != api.ErrRange {
			t.Errorf("New(%d): %v, %d", self, s != nil, e)
		}
	}
}

// withOne answers right quotas of which one number is n.
func withOne(n int) [3]api.Quota {
	return [...]api.Quota{quota(n, 100, 100), quota(100, n, 100), quota(100, 100, n)}
}

func TestNewOfQuotas(t *testing.T) {
	greatest := [...]int{mostHeld, mostBytes, mostGaps}
	for at, end := range greatest {
		for _, n := range []int{0, 1, 2, 47, 48, 100, 255, end - 1, end} {
			q := withOne(n)[at]
			checkStore(t, made(t, 5, q), q, api.State{Self: 5})
		}
		for _, n := range []int{math.MinInt, -mostBytes, -256, -2, -1, end + 1, end + 2, 2 * end, 1 << 32, math.MaxInt} {
			if s, e := New(5, withOne(n)[at]); s != nil || e != api.ErrRange {
				t.Errorf("New of %+v: %v, %d", withOne(n)[at], s != nil, e)
			}
		}
	}
	checkStore(t, made(t, 0, great), great, api.State{})
	checkStore(t, made(t, 0, api.Quota{}), api.Quota{}, api.State{})
}

// P15.1: From

// some answers a right state of the node 3 that has some of all: 3 messages of 6 bytes, 3 gaps.
func some() api.State {
	return api.State{
		Self:  3,
		Epoch: 9,
		Next:  next(0, 4, 2, 1, 63, 65535),
		Held:  []api.Msg{ms(id(3, 2, 9, 1), "a"), ms(id(5, 1, 20, 7), "bcd"), ms(id(3, 2, 8, 6), "ef")},
		Seen:  []api.Mark{mk(1, 2, 3, 5, 7), mk(1, 4, 1), mk(63, 1, 0, 9)},
	}
}

// checkFrom asks for what the chapter says of a quota and a state; it answers the error.
func checkFrom(t *testing.T, q api.Quota, st api.State) api.Errno {
	t.Helper()
	want := wantedFrom(q, st)
	s, e := From(q, st)
	if e != want || (s != nil) != (want == api.OK) {
		t.Fatalf("From(%+v, %s): %v, %d; not %d", q, short(st), s != nil, e, want)
	}
	if want == api.OK {
		checkStore(t, s, q, st)
	}
	return e
}

func fromAnswers(t *testing.T, want api.Errno, q api.Quota, st api.State) {
	t.Helper()
	if e := checkFrom(t, q, st); e != want {
		t.Fatalf("From(%+v, %s): %d; not %d", q, short(st), e, want)
	}
}

func TestFromOfRightStates(t *testing.T) {
	for _, st := range []api.State{
		{},
		{Self: 63},
		{Next: []api.Next{}, Held: []api.Msg{}, Seen: []api.Mark{}},
		{Epoch: 1},
		{Epoch: 65535},
		some(),
		{Self: 1, Epoch: 1, Next: next(0, 1)},
		{Self: 1, Epoch: 1, Next: next(0, 65535, 63, 1)},
		{Self: 1, Held: []api.Msg{ms(id(0, 2, 65535, 65535), long(48))}},
		{Self: 1, Seen: []api.Mark{mk(0, 65535, 65535), mk(63, 1, 1)}},
		{Self: 0, Epoch: 2, Held: []api.Msg{ms(id(0, 1, 1, 65535), "x"), ms(id(0, 1, 1, 1), "y")}},
		{Self: 0, Epoch: 2, Next: next(1, 1), Held: []api.Msg{ms(id(0, 1, 2, 1), "x"), ms(id(0, 1, 1, 1), "x"), ms(id(0, 2, 1, 1), "x"), ms(id(2, 1, 2, 1), "x"), ms(id(0, 1, 1, 2), "x")}},
	} {
		fromAnswers(t, api.OK, great, st)
	}
}

func TestFromOfAllDestinations(t *testing.T) {
	for self := range nodes {
		st := api.State{Self: self, Epoch: 1}
		for dest := range nodes {
			if dest != self {
				st.Next = append(st.Next, next(dest, dest*dest+1)...)
			}
		}
		fromAnswers(t, api.OK, great, st)
		st.Next = slices.Insert(st.Next, self, next(self, 1)...)
		fromAnswers(t, api.ErrForm, great, st)
	}
}

func TestFromOfSelfOutOfItsRange(t *testing.T) {
	for _, self := range []int{math.MinInt, -64, -1, 64, 65, 1 << 32, math.MaxInt} {
		fromAnswers(t, api.ErrRange, great, api.State{Self: self})
		st := some()
		st.Self = self
		fromAnswers(t, api.ErrRange, great, st)
	}
}

func TestFromOfQuotasOutOfTheirRange(t *testing.T) {
	for at, end := range []int{mostHeld, mostBytes, mostGaps} {
		for _, n := range []int{math.MinInt, -1, end + 1, math.MaxInt} {
			fromAnswers(t, api.ErrRange, withOne(n)[at], api.State{})
			fromAnswers(t, api.ErrRange, withOne(n)[at], some())
		}
		fromAnswers(t, api.OK, withOne(end)[at], some())
	}
}

func TestFromOfEpochs(t *testing.T) {
	for _, x := range []struct {
		epoch int
		want  api.Errno
	}{{math.MinInt, api.ErrForm}, {-1, api.ErrForm}, {0, api.OK}, {1, api.OK}, {65534, api.OK}, {65535, api.OK}, {65536, api.ErrForm}, {65537, api.ErrForm}, {math.MaxInt, api.ErrForm}} {
		fromAnswers(t, x.want, great, api.State{Epoch: x.epoch})
		if x.epoch != 0 {
			fromAnswers(t, x.want, great, api.State{Epoch: x.epoch, Next: next(1, 7)})
		}
	}
}

func TestFromOfNext(t *testing.T) {
	for _, l := range [][]api.Next{
		next(2, 1, 1, 1), // falls
		next(5, 1, 0, 1),
		next(0, 1, 5, 1, 4, 1),
		next(0, 1, 0, 1), // stands twice
		next(1, 1, 1, 2),
		next(0, 1, 63, 1, 63, 1),
		next(3, 1), // self
		next(0, 1, 3, 1, 5, 1),
		next(-1, 1), // out of its range
		next(64, 1),
		next(0, 1, 64, 1),
		next(-1, 1, 0, 1),
		next(math.MinInt, 1),
		next(math.MaxInt, 1),
		next(math.MaxInt, 1, math.MinInt, 1),
		next(63, 1, 64, 1),
		next(1, 0), // the counter
		next(1, -1),
		next(1, 65536),
		next(1, math.MinInt),
		next(1, math.MaxInt),
		next(0, 1, 1, 0, 2, 1),
		next(0, 1, 1, 1, 2, 65536),
	} {
		fromAnswers(t, api.ErrForm, great, api.State{Self: 3, Epoch: 1, Next: l})
	}
	for _, l := range [][]api.Next{next(1, 1), next(1, 2), next(1, 65534), next(1, 65535), next(0, 1), next(63, 1), next(2, 9, 4, 1), next(0, 1, 1, 1, 2, 1)} {
		fromAnswers(t, api.OK, great, api.State{Self: 3, Epoch: 1, Next: l})
		fromAnswers(t, api.ErrForm, great, api.State{Self: 3, Epoch: 0, Next: l}) // none is used in the epoch 0
	}
}

func TestFromOfHeldThatIsNotRight(t *testing.T) {
	var wrong []api.Msg
	for _, i := range wrongIds() {
		wrong = append(wrong, ms(i, "x"))
	}
	right := id(1, 2, 1, 2)
	wrong = append(wrong, ms(right, ""), api.Msg{Id: right}, ms(right, long(49)), ms(right, long(1000)))
	wrong = append(wrong, ms(id(1, 3, 1, 1), "x"), ms(id(63, 3, 65535, 65535), "x")) // Dest is self
	for _, m := range wrong {
		fromAnswers(t, api.ErrForm, great, api.State{Self: 3, Epoch: 9, Held: []api.Msg{m}})
		st := some()
		for at := range len(st.Held) + 1 {
			st.Held = slices.Insert(some().Held, at, m)
			fromAnswers(t, api.ErrForm, great, st)
		}
	}
	for _, n := range []int{1, 2, 47, 48} {
		fromAnswers(t, api.OK, great, api.State{Self: 3, Held: []api.Msg{ms(right, long(n))}})
	}
}

func TestFromOfOneIdTwice(t *testing.T) {
	st := some()
	for at := range st.Held {
		for to := range len(st.Held) + 1 {
			twice := some()
			twice.Held = slices.Insert(twice.Held, to, ms(st.Held[at].Id, "other"))
			fromAnswers(t, api.ErrForm, great, twice)
		}
	}
	same := ms(id(1, 2, 1, 1), "x")
	fromAnswers(t, api.ErrForm, great, api.State{Held: []api.Msg{same, same}})
	for _, i := range []api.Id{id(4, 2, 1, 1), id(1, 5, 1, 1), id(1, 2, 2, 1), id(1, 2, 1, 2), id(2, 1, 1, 1)} { // another one, in just one number
		fromAnswers(t, api.OK, great, api.State{Held: []api.Msg{same, ms(i, "x")}})
	}
}

func TestFromOfHeldOfSelf(t *testing.T) {
	of := func(l []api.Next, i api.Id) api.State {
		return api.State{Self: 3, Epoch: 7, Next: l, Held: []api.Msg{ms(i, "x")}}
	}
	for _, epoch := range []int{8, 9, 65535} { // above this one
		fromAnswers(t, api.ErrForm, great, of(next(2, 65535), id(3, 2, epoch, 1)))
		fromAnswers(t, api.OK, great, of(next(2, 65535), id(4, 2, epoch, 1))) // of another Origin
	}
	for _, epoch := range []int{1, 6} { // below it
		fromAnswers(t, api.OK, great, of(nil, id(3, 2, epoch, 65535)))
		fromAnswers(t, api.OK, great, of(next(2, 1), id(3, 2, epoch, 2)))
	}
	fromAnswers(t, api.ErrForm, great, of(nil, id(3, 2, 7, 1))) // of this one
	fromAnswers(t, api.ErrForm, great, of(next(1, 9, 4, 9), id(3, 2, 7, 1)))
	for _, counter := range []int{1, 2, 500, 65534} {
		fromAnswers(t, api.ErrForm, great, of(next(2, counter), id(3, 2, 7, counter+1)))
		fromAnswers(t, api.OK, great, of(next(2, counter), id(3, 2, 7, counter)))
		fromAnswers(t, api.OK, great, of(next(2, counter+1), id(3, 2, 7, counter)))
		fromAnswers(t, api.OK, great, of(next(2, counter), id(4, 2, 7, counter+1)))
		fromAnswers(t, api.ErrForm, great, of(next(1, 65535, 2, counter, 4, 65535), id(3, 2, 7, counter+1)))
	}
	fromAnswers(t, api.OK, great, of(next(2, 65535), id(3, 2, 7, 65535)))
	fromAnswers(t, api.ErrForm, great, api.State{Self: 3, Held: []api.Msg{ms(id(3, 2, 1, 1), "x")}}) // none is of the epoch 0
}

func TestFromOfSeen(t *testing.T) {
	for _, l := range [][]api.Mark{
		{mk(1, 0, 1)}, // not right
		{mk(1, 65536, 1)},
		{mk(-1, 1, 1)},
		{mk(64, 1, 1)},
		{mk(1, 1, 0)},
		{mk(1, 1, -1)},
		{mk(1, 1, 65536)},
		{mk(1, 1, 1, 2)},
		{mk(1, 1, 1, 5, 4)},
		{mk(1, 1, 1, 65536)},
		{mk(1, 1, 1), mk(1, 1, 1)}, // not in their order
		{mk(2, 1, 1), mk(1, 1, 1)},
		{mk(1, 2, 1), mk(1, 1, 1)},
		{mk(3, 1, 1)}, // of self
		{mk(3, 65535, 65535)},
		{mk(3, 1, 0, 2)},
		{mk(1, 1, 1), mk(3, 1, 1), mk(5, 1, 1)},
		{mk(1, 1, 1), mk(3, 1, 1)},
		{mk(3, 1, 1), mk(4, 1, 1)},
	} {
		st := some()
		st.Seen = l
		fromAnswers(t, api.ErrForm, great, st)
		fromAnswers(t, api.ErrForm, great, api.State{Self: 3, Seen: l})
	}
	for _, l := range [][]api.Mark{{mk(2, 1, 1), mk(4, 1, 1)}, {mk(0, 1, 1)}, {mk(63, 1, 0, 2)}} {
		fromAnswers(t, api.OK, great, api.State{Self: 3, Seen: l})
	}
}

// P15.1: just enough, and one too few

func TestFromOfJustEnough(t *testing.T) {
	fromAnswers(t, api.OK, quota(3, 6, 3), some())
	fromAnswers(t, api.ErrFull, quota(2, 6, 3), some())
	fromAnswers(t, api.ErrFull, quota(3, 5, 3), some())
	fromAnswers(t, api.ErrFull, quota(3, 6, 2), some())
	fromAnswers(t, api.ErrFull, quota(0, 6, 3), some())
	fromAnswers(t, api.ErrFull, quota(3, 0, 3), some())
	fromAnswers(t, api.ErrFull, quota(3, 6, 0), some())
	fromAnswers(t, api.OK, quota(0, 0, 0), api.State{Self: 3, Epoch: 2, Next: next(1, 9), Seen: []api.Mark{mk(1, 1, 9)}})
}

// many answers a state that holds n messages of so many bytes.
func many(n, size int) api.State {
	st := api.State{Self: 3}
	for k := range n {
		st.Held = append(st.Held, ms(id(4+k%7, 1, 1+k%3, 1+k), long(size)))
	}
	return st
}

func TestFromOfTheMostMessages(t *testing.T) {
	fromAnswers(t, api.OK, great, many(256, 48))
	fromAnswers(t, api.ErrFull, great, many(257, 1))
	fromAnswers(t, api.ErrFull, great, many(1000, 48))
	fromAnswers(t, api.OK, quota(256, 256*48, 0), many(256, 48))
	fromAnswers(t, api.ErrFull, quota(256, 256*48-1, 0), many(256, 48))
	fromAnswers(t, api.ErrFull, quota(255, 256*48, 0), many(256, 48))
	st := many(1000, 1)
	st.Held[999].Data = nil
	fromAnswers(t, api.ErrForm, great, st)
}

func TestFromOfTheMostGaps(t *testing.T) {
	var evens []int
	for k := range 257 {
		evens = append(evens, 2*k+2)
	}
	of := func(n int) api.State { return api.State{Seen: []api.Mark{mk(1, 1, 0, evens[:n]...)}} }
	fromAnswers(t, api.OK, great, of(256))
	fromAnswers(t, api.ErrFull, great, of(257))
	fromAnswers(t, api.OK, quota(0, 0, 255), of(255))
	fromAnswers(t, api.ErrFull, quota(0, 0, 255), of(256))
}

// P15.1: ErrRange ahead of ErrForm ahead of ErrFull, wherever what is wrong stands

// spoilers make of a right state of the node 3 one that is not right, each in one way.
func spoilers() []func(st *api.State) {
	return []func(st *api.State){
		func(st *api.State) { st.Epoch = -1 },
		func(st *api.State) { st.Epoch = 65536 },
		func(st *api.State) { st.Epoch = 0 }, // there are counters
		func(st *api.State) { st.Next = next(1, 1, 0, 1) },
		func(st *api.State) { st.Next = append(next(3, 1), st.Next[2:]...) },
		func(st *api.State) { st.Next[0].Counter = 0 },
		func(st *api.State) { st.Next = nil }, // a message has a counter of them
		func(st *api.State) { st.Held[0].Data = nil },
		func(st *api.State) { st.Held[2].Id.Origin = 64 },
		func(st *api.State) { st.Held[1].Id.Dest = 3 },
		func(st *api.State) { st.Held[2] = st.Held[0] },
		func(st *api.State) { st.Held[2].Id.Epoch = 10 },
		func(st *api.State) { st.Held[0].Id.Counter = 2 },
		func(st *api.State) { st.Seen[0].Origin = 3 },
		func(st *api.State) { st.Seen[2].Origin = 3 },
		func(st *api.State) { st.Seen[2].Upto = -1 },
		func(st *api.State) { st.Seen[0], st.Seen[1] = st.Seen[1], st.Seen[0] },
	}
}

func TestFromTellsTheErrorThatIsNamedFirst(t *testing.T) {
	for _, spoil := range spoilers() {
		st := some()
		spoil(&st)
		fromAnswers(t, api.ErrForm, great, st)
		for _, q := range []api.Quota{quota(0, 0, 0), quota(2, 6, 3), quota(3, 5, 3), quota(3, 6, 2)} {
			fromAnswers(t, api.ErrForm, q, st)
		}
		for _, q := range []api.Quota{quota(-1, 6, 3), quota(3, -1, 3), quota(3, 6, -1), quota(257, 6, 3), quota(3, mostBytes+1, 3), quota(3, 6, 257)} {
			fromAnswers(t, api.ErrRange, q, st)
		}
		st.Self = 64
		fromAnswers(t, api.ErrRange, great, st)
		fromAnswers(t, api.ErrRange, quota(0, 0, 0), st)
	}
	st := some()
	st.Self = -1
	fromAnswers(t, api.ErrRange, quota(0, 0, 0), st)
	fromAnswers(t, api.ErrRange, quota(0, -1, 0), some())
}

// someState answers a state that is mostly right.
func someState(rnd *rand.Rand) api.State {
	st := api.State{Self: rnd.Intn(4), Epoch: rnd.Intn(4)}
	for dest := range 5 {
		if st.Epoch > 0 && dest != st.Self && rnd.Intn(2) == 0 {
			st.Next = append(st.Next, next(dest, 1+rnd.Intn(3))...)
		}
	}
	for range rnd.Intn(5) {
		m := ms(id(rnd.Intn(4), rnd.Intn(4), 1+rnd.Intn(4), 1+rnd.Intn(3)), long(1+rnd.Intn(4)))
		more := st
		more.Held = append(slices.Clone(st.Held), m)
		if rightState(more) {
			st = more
		}
	}
	for origin := range 4 {
		m := mk(origin, 1+rnd.Intn(3), rnd.Intn(3))
		for c := m.Upto + 2; rnd.Intn(3) == 0 || m.Upto == 0 && len(m.More) == 0; c += 1 + rnd.Intn(2) {
			m.More = append(m.More, c)
		}
		if origin != st.Self && rnd.Intn(2) == 0 {
			st.Seen = append(st.Seen, m)
		}
	}
	return st
}

// turned changes one thing of a state.
func turned(rnd *rand.Rand, st api.State) api.State {
	by := []int{-1, 1, 1, -70000, 70000}[rnd.Intn(5)]
	what := rnd.Intn(9)
	if n := len(st.Next); n > 0 && what < 2 {
		x := &st.Next[rnd.Intn(n)]
		*[...]*int{&x.Dest, &x.Counter}[what] += by
	}
	if n := len(st.Held); n > 0 && what >= 2 && what < 5 {
		x := &st.Held[rnd.Intn(n)]
		*[...]*int{&x.Id.Origin, &x.Id.Dest, &x.Id.Epoch, &x.Id.Counter}[rnd.Intn(4)] += by
	}
	if n := len(st.Seen); n > 0 && what >= 5 && what < 7 {
		x := &st.Seen[rnd.Intn(n)]
		*[...]*int{&x.Origin, &x.Epoch, &x.Upto}[rnd.Intn(3)] += by
	}
	if what >= 7 {
		*[...]*int{&st.Self, &st.Epoch}[what-7] += by
	}
	return st
}

func TestFromOfAnyState(t *testing.T) {
	rnd := rand.New(rand.NewSource(15))
	met := map[api.Errno]int{}
	for range 20000 {
		st := someState(rnd)
		if rnd.Intn(2) == 0 {
			st = turned(rnd, st)
		}
		q := quota(rnd.Intn(6)-1+rnd.Intn(2), rnd.Intn(12)+rnd.Intn(2), rnd.Intn(6)+rnd.Intn(2))
		met[checkFrom(t, q, st)]++
	}
	for _, e := range []api.Errno{api.OK, api.ErrRange, api.ErrForm, api.ErrFull} {
		if met[e] < 500 {
			t.Errorf("%d: met %d times", e, met[e])
		}
	}
}
