package seen

import (
	"slices"
	"testing"

	"portage/api"
)

// P14.3: Has

func TestHas(t *testing.T) {
	s := madeOf(t, 9, mk(1, 1, 5, 7, 8, 100), mk(1, 2, 0, 2), mk(2, 1, most), mk(3, 1, 1, most))
	for _, x := range []struct {
		i    api.Id
		want bool
	}{
		{id(1, 1, 1), true}, {id(1, 1, 4), true}, {id(1, 1, 5), true}, // below and at Upto
		{id(1, 1, 6), false}, {id(1, 1, 7), true}, {id(1, 1, 8), true}, {id(1, 1, 9), false}, // above
		{id(1, 1, 99), false}, {id(1, 1, 100), true}, {id(1, 1, 101), false}, {id(1, 1, most), false},
		{id(1, 2, 1), false}, {id(1, 2, 2), true}, {id(1, 2, 3), false}, // Upto is 0
		{id(2, 1, 1), true}, {id(2, 1, most-1), true}, {id(2, 1, most), true}, {id(2, 1, most+1), false},
		{id(3, 1, 2), false}, {id(3, 1, most-1), false}, {id(3, 1, most), true},
		{id(1, 3, 1), false}, {id(4, 1, 1), false}, {id(0, 1, 1), false}, // of none that are there
	} {
		if got := s.Has(x.i); got != x.want {
			t.Errorf("Has(%+v): %t", x.i, got)
		}
	}
}

func TestHasOfIdsThatAreNotRight(t *testing.T) {
	s := madeOf(t, 9, mk(0, 1, 5), mk(1, 1, 5), mk(2, 1, 5), mk(63, 1, 5))
	for _, i := range wrongIds() {
		if s.Has(i) {
			t.Errorf("%+v is there", i)
		}
	}
	for _, i := range []api.Id{
		{Origin: 1, Dest: 1, Epoch: 1, Counter: 3},
		{Origin: 1, Dest: -1, Epoch: 1, Counter: 3},
		{Origin: 1, Dest: 64, Epoch: 1, Counter: 3},
		{Origin: 1, Dest: 2, Epoch: 1, Counter: 0}, // not above Upto, but none
		{Origin: 1, Dest: 2, Epoch: 1, Counter: -3},
		{Origin: 1, Dest: 2, Epoch: 0, Counter: 0},
		{Origin: 5, Dest: 2, Epoch: 1, Counter: 0}, // of a mark that is not there
	} {
		if s.Has(i) {
			t.Errorf("%+v is there", i)
		}
	}
	if !s.Has(api.Id{Origin: 1, Dest: 2, Epoch: 1, Counter: 3}) {
		t.Error("the right one is not there")
	}
}

func TestHasChangesNothing(t *testing.T) {
	s := made(t, 9)
	for c := range 10 {
		s.Has(id(c, 1+c, c))
		ok(t, s.May(id(c, 1+c, 1+c)))
	}
	checkSet(t, s, 9)
}

// P14.3: Marks

func TestMarksOfAnEmptySet(t *testing.T) {
	if l := made(t, 9).Marks(); len(l) != 0 {
		t.Errorf("%v", l)
	}
	if l := madeOf(t, 9).Marks(); len(l) != 0 {
		t.Errorf("%v", l)
	}
}

// Marks come by Origin, then Epoch, as numbers, in whatever order they were made.
func TestMarksOfManyOriginsAndEpochs(t *testing.T) {
	s := made(t, mostGaps)
	var want []api.Mark
	for origin := nodes - 1; origin >= 0; origin-- {
		for _, epoch := range []int{9, 1, 65535, 10, 255, 256, 2} {
			adds(t, s, origin, epoch, 1)
			m := mk(origin, epoch, 1)
			if epoch == 10 {
				adds(t, s, origin, epoch, 5, 3)
				m = mk(origin, epoch, 1, 3, 5)
			}
			want = append(want, m)
		}
	}
	slices.SortFunc(want, func(a, b api.Mark) int { return (a.Origin-b.Origin)*100000 + a.Epoch - b.Epoch })
	checkSet(t, s, mostGaps, want...)
	first := text(s)
	for range 20 {
		if again := text(s); again != first {
			t.Fatalf("%s; ahead %s", again, first)
		}
	}
}

// P14.3: Gaps

func TestGaps(t *testing.T) {
	s := made(t, 5)
	for _, x := range []struct{ origin, epoch, c, want int }{
		{1, 1, 1, 0}, {1, 1, 3, 1}, {1, 1, 4, 2}, {2, 1, 2, 3}, {1, 2, 1, 3}, {1, 2, 3, 4}, {1, 2, 9, 5}, {1, 1, 2, 3}, {2, 1, 1, 2}, {1, 2, 2, 1}, {1, 2, 4, 1},
	} {
		adds(t, s, x.origin, x.epoch, x.c)
		if got := s.Gaps(); got != x.want {
			t.Fatalf("behind %+v: %d gaps", x, got)
		}
	}
}

// P14.3: Clone

func TestCloneOfAnEmptySet(t *testing.T) {
	for _, room := range []int{0, 1, mostGaps} {
		s := made(t, room)
		other := s.Clone()
		checkSet(t, other, room)
		adds(t, other, 1, 1, 1)
		checkSet(t, s, room)
		adds(t, s, 2, 1, 1, 2)
		checkSet(t, other, room, mk(1, 1, 1))
		checkSet(t, s, room, mk(2, 1, 2))
	}
}

func TestCloneGoesItsOwnWay(t *testing.T) {
	s := madeOf(t, 6, mk(1, 1, 1, 4, 6), mk(1, 2, 3))
	other := s.Clone()
	third := other.Clone()
	was := s.Marks()
	checkSet(t, other, 6, was...)

	adds(t, other, 1, 1, 5, 3) // behind, ahead of and between those that both have
	adds(t, other, 1, 2, 4)
	adds(t, other, 5, 1, 1)
	checkSet(t, s, 6, was...)
	checkSet(t, third, 6, was...)
	checkSet(t, other, 6, mk(1, 1, 1, 3, 4, 5, 6), mk(1, 2, 4), mk(5, 1, 1))

	adds(t, s, 1, 1, 2, 8, 3)
	adds(t, s, 6, 1, 2)
	checkSet(t, s, 6, mk(1, 1, 4, 6, 8), mk(1, 2, 3), mk(6, 1, 0, 2))
	checkSet(t, third, 6, was...)
	checkSet(t, other, 6, mk(1, 1, 1, 3, 4, 5, 6), mk(1, 2, 4), mk(5, 1, 1))

	adds(t, third, 1, 1, 9, 10)
	checkSet(t, third, 6, mk(1, 1, 1, 4, 6, 9, 10), mk(1, 2, 3))
	checkSet(t, s, 6, mk(1, 1, 4, 6, 8), mk(1, 2, 3), mk(6, 1, 0, 2))
	checkSet(t, other, 6, mk(1, 1, 1, 3, 4, 5, 6), mk(1, 2, 4), mk(5, 1, 1))
}

// Wherever a list has room behind its end, no two clones lay their counters into the same one.
func TestClonesOfListsOfAnyLength(t *testing.T) {
	s := made(t, mostGaps)
	for n := range 40 {
		adds(t, s, 1, 1, 10*n+10)
		a, b := s.Clone(), s.Clone()
		was := s.Marks()
		adds(t, a, 1, 1, 10*n+15)
		adds(t, b, 1, 1, 10*n+17)
		checkSet(t, s, mostGaps, was...)
		checkSet(t, a, mostGaps, mk(1, 1, 0, append(was[0].More[:n+1:n+1], 10*n+15)...))
		checkSet(t, b, mostGaps, mk(1, 1, 0, append(was[0].More[:n+1:n+1], 10*n+17)...))
	}
}

// P14.3: nil

func TestNilSet(t *testing.T) {
	var s *Set
	for _, i := range append(wrongIds(), id(1, 1, 1), id(1, 1, 2), id(0, 65535, 65535)) {
		if e := s.May(i); e != api.ErrState {
			t.Errorf("May(%+v): %d", i, e)
		}
		if e := s.Add(i); e != api.ErrState {
			t.Errorf("Add(%+v): %d", i, e)
		}
		if s.Has(i) {
			t.Errorf("Has(%+v)", i)
		}
	}
	if l := s.Marks(); len(l) != 0 {
		t.Errorf("Marks: %v", l)
	}
	if n := s.Gaps(); n != 0 {
		t.Errorf("Gaps: %d", n)
	}
	if other := s.Clone(); other != nil {
		t.Errorf("Clone: %v", other)
	}
}
