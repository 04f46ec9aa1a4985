package snap

import (
	"math"
	"math/rand"
	"slices"
	"testing"

	"portage/api"
	"portage/store"
)

// P16.1: Check, and the errors of Put

func TestCheckOfRightStates(t *testing.T) {
	for _, st := range rightStates() {
		checks(t, api.OK, "right", st)
	}
}

func TestCheckOfNothing(t *testing.T) {
	for self := range nodes {
		checks(t, api.OK, "nothing", api.State{Self: self})
	}
}

func TestCheckOfStatesThatAreNotRight(t *testing.T) {
	checks(t, api.OK, "as it was", some())
	for _, s := range append(spoilt(), numberless()...) {
		checks(t, api.ErrForm, s.name, s.of())
	}
}

func TestCheckOfSelf(t *testing.T) {
	for _, self := range []int{0, 1, 2, 62, 63} {
		checks(t, api.OK, "self", api.State{Self: self, Epoch: 1})
		st := some()
		st.Self, st.Next, st.Held, st.Seen = self, nil, nil, marks(mk(4, 1, 1))
		checks(t, api.OK, "self", st)
	}
	for _, self := range []int{math.MinInt, -65536, -256, -64, -2, -1, 64, 65, 127, 128, 255, 256, 259, 65536, 1<<32 + 3, math.MaxInt} {
		checks(t, api.ErrRange, "self", api.State{Self: self})
		st := some()
		st.Self = self
		checks(t, api.ErrRange, "self", st)
	}
}

func TestCheckOfEpochs(t *testing.T) {
	for _, epoch := range []int{0, 1, 2, 255, 256, most - 1, most} {
		checks(t, api.OK, "epoch", api.State{Self: 7, Epoch: epoch})
	}
	for _, epoch := range []int{math.MinInt, -65536, -1, most + 1, most + 2, 1 << 32, math.MaxInt} {
		checks(t, api.ErrForm, "epoch", api.State{Self: 7, Epoch: epoch})
	}
}

func TestCheckOfAsManyNextAsThereCanBe(t *testing.T) {
	for self := range nodes {
		st := api.State{Self: self, Epoch: 1, Next: allNext(self)}
		if len(st.Next) != nodes-1 {
			t.Fatal(len(st.Next))
		}
		checks(t, api.OK, "all but self", st)
		st.Next = slices.Insert(st.Next, self, next(self, 1)...)
		checks(t, api.ErrForm, "self too", st)
	}
	st := api.State{Self: 3, Epoch: 1, Next: allNext(3)}
	for range 300 { // as many as one byte does not tell
		st.Next = append(st.Next, next(63, 1)...)
	}
	checks(t, api.ErrForm, "363 of them", st)
}

func TestCheckOfTheMostMessages(t *testing.T) {
	for _, size := range []int{1, 2, payload} {
		checks(t, api.OK, "255", many(mostHeld-1, size))
		checks(t, api.OK, "256", many(mostHeld, size))
		checks(t, api.ErrFull, "257", many(mostHeld+1, size))
	}
	checks(t, api.ErrFull, "65536, which two bytes do not count", many(1<<16, 1))
}

func TestCheckOfTheMostBytes(t *testing.T) {
	one := func(n int) api.State { return api.State{Self: 3, Held: []api.Msg{ms(id(1, 2, 1, 1), long(n))}} }
	for _, n := range []int{1, 2, 7, 47, 48} {
		checks(t, api.OK, "one message", one(n))
	}
	for _, n := range []int{0, 49, 50, 249, 250, 256, 257, mostBytes, mostBytes + 1} {
		checks(t, api.ErrForm, "one message", one(n))
	}
	// all bytes of MaxDisk are in no less messages than these, which are too many already
	st := many(mostBytes/payload+1, payload)
	last := len(st.Held) - 1
	for n := mostBytes % payload; n <= mostBytes%payload+1; n++ {
		st.Held[last].Data = []byte(long(n))
		checks(t, api.ErrFull, "MaxDisk bytes, or one more", st)
	}
	st.Held[last].Data = nil
	checks(t, api.ErrForm, "and one that is not right", st)
}

func TestCheckOfTheMostGaps(t *testing.T) {
	one := func(n int) api.State { return api.State{Self: 3, Seen: marks(mk(1, 1, 0, gaps(n)...))} }
	for _, n := range []int{1, 2, mostGaps - 1, mostGaps} {
		checks(t, api.OK, "gaps", one(n))
	}
	for _, n := range []int{mostGaps + 1, mostGaps + 2, 1000} {
		checks(t, api.ErrFull, "gaps", one(n))
	}
	three := func(n int) api.State {
		return api.State{Self: 3, Seen: marks(mk(1, 1, 0, gaps(100)...), mk(1, 2, 0, gaps(100)...), mk(2, 1, 0, gaps(n)...), mk(4, 1, 9))}
	}
	checks(t, api.OK, "gaps of three marks", three(56))
	checks(t, api.ErrFull, "gaps of three marks", three(57))
}

func TestCheckOfOneMark(t *testing.T) {
	for _, m := range []api.Mark{mk(1, 1, 1), mk(1, 1, most), mk(1, 1, 0, 2), mk(1, 1, 0, most), mk(1, 1, 5, 7, 8, 9, 100, most), mk(1, most, most-2, most)} {
		checks(t, api.OK, "a mark", api.State{Self: 3, Seen: marks(m)})
	}
	for _, m := range []api.Mark{mk(1, 1, 0), mk(1, 1, 0, 1), mk(1, 1, most-1, most), mk(1, 1, most, most), mk(1, 1, 5, 6), mk(1, 1, 5, 7, 8, 9, 9)} {
		checks(t, api.ErrForm, "a mark", api.State{Self: 3, Seen: marks(m)})
	}
}

func TestCheckOfTheMostMarks(t *testing.T) {
	checks(t, api.OK, "65534", manyMarks(most-1))
	checks(t, api.OK, "65535", manyMarks(most))
	for _, n := range []int{most + 1, most + 2, 2*most + 1} {
		checks(t, api.ErrFull, "too many", manyMarks(n))
	}
	st := manyMarks(most + 1)
	st.Seen[most].Epoch = 0
	checks(t, api.ErrForm, "too many, and the last one is not right", st)
	st = manyMarks(most + 1)
	st.Self = 64
	checks(t, api.ErrRange, "too many of none", st)
	st = many(mostHeld, payload)
	st.Seen = manyMarks(most).Seen
	st.Seen[0].More = gaps(mostGaps + 1)[1:]
	checks(t, api.OK, "as much of all as there may be", st)
}

// P16.1: ErrRange ahead of ErrForm ahead of ErrFull, wherever what is wrong stands

func TestCheckTellsTheErrorThatIsNamedFirst(t *testing.T) {
	for _, full := range overfull() {
		st := full.of()
		checks(t, api.ErrFull, full.name, st)
		st.Self = -1
		checks(t, api.ErrRange, full.name+", of self -1", st)
		for _, wrong := range append(spoilt(), numberless()...) {
			st := wrong.of()
			full.spoil(&st)
			checks(t, api.ErrForm, wrong.name+", "+full.name, st)
			st.Self = 64
			checks(t, api.ErrRange, wrong.name+", "+full.name+", of self 64", st)
		}
	}
	for _, wrong := range append(spoilt(), numberless()...) {
		st := wrong.of()
		st.Self = 64
		checks(t, api.ErrRange, wrong.name+", of self 64", st)
	}
}

// Check says what store.From says of the greatest quota.
func TestCheckOfAnyState(t *testing.T) {
	rnd := rand.New(rand.NewSource(16))
	met := map[api.Errno]int{}
	for range 6000 {
		st := someState(t, rnd)
		if rnd.Intn(3) > 0 {
			st = turned(rnd, st)
		}
		_, want := store.From(great(), st)
		checks(t, want, "any", st)
		met[want]++
	}
	for _, e := range []api.Errno{api.OK, api.ErrRange, api.ErrForm} {
		if met[e] < 100 {
			t.Errorf("%d: met %d times", e, met[e])
		}
	}
}
