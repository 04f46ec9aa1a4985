package seen

import (
	"math/rand"
	"testing"

	"portage/api"
)

// orders calls do with all orders of the numbers.
func orders(numbers []int, do func([]int)) {
	if len(numbers) < 2 {
		do(numbers)
		return
	}
	for at := range numbers {
		rest := append(append([]int{}, numbers[:at]...), numbers[at+1:]...)
		orders(rest, func(l []int) { do(append([]int{numbers[at]}, l...)) })
	}
}

// P14.4, of all orders of few counters
func TestAllOrders(t *testing.T) {
	for bitmap := range 1 << 6 {
		var counters []int
		m := newModel(6)
		for k := range 6 {
			if bitmap>>k&1 == 1 {
				counters = append(counters, k+1)
				m.add(id(1, 1, k+1))
			}
		}
		want := m.marks()
		orders(counters, func(l []int) {
			s := made(t, 6)
			for _, c := range l {
				if e := s.Add(id(1, 1, c)); e != api.OK {
					t.Fatalf("%d of %d: %d", c, l, e)
				}
			}
			if got := s.Marks(); !sameMarks(got, want) || s.Gaps() != gapsOf(want) {
				t.Fatalf("%d: %v, %d gaps; not %v", l, got, s.Gaps(), want)
			}
		})
	}
}

// P14.4, of some orders of many ids
func TestSomeOrders(t *testing.T) {
	for seed := range 30 {
		rnd := rand.New(rand.NewSource(int64(seed)))
		var ids []api.Id
		m := newModel(mostGaps)
		for range mostGaps {
			i := id(rnd.Intn(3), 1+rnd.Intn(3), 1+rnd.Intn(40))
			if m.add(i) == api.OK {
				ids = append(ids, i)
			}
		}
		want := m.marks()
		for range 10 {
			rnd.Shuffle(len(ids), func(a, b int) { ids[a], ids[b] = ids[b], ids[a] })
			s := made(t, mostGaps)
			for _, i := range ids {
				ok(t, s.Add(i))
			}
			checkSet(t, s, mostGaps, want...)
			for _, i := range ids {
				answers(t, s.May(i), api.ErrTwice)
			}
		}
	}
}

// P14.5

// checkNext asks that the next counter of each mark may come, that of none as well, and that there are not too many gaps.
func checkNext(t *testing.T, s *Set, room int) {
	t.Helper()
	if s.Gaps() > room || gapsOf(s.Marks()) != s.Gaps() {
		t.Fatalf("%d gaps told, %d there; room for %d", s.Gaps(), gapsOf(s.Marks()), room)
	}
	for _, m := range s.Marks() {
		want := api.OK
		if m.Upto == most {
			want = api.ErrRange // there is no greater number
		}
		if e := s.May(id(m.Origin, m.Epoch, m.Upto+1)); e != want {
			t.Fatalf("the next of %v: %d; not %d", m, e, want)
		}
		other := s.Clone()
		if e := other.Add(id(m.Origin, m.Epoch, m.Upto+1)); e != want || other.Gaps() > s.Gaps() {
			t.Fatalf("the next of %v: %d; not %d; %d gaps behind", m, e, want, other.Gaps())
		}
	}
	if e := s.May(id(50, 50, 1)); e != api.OK {
		t.Fatalf("the first of a mark: %d", e)
	}
}

func TestTheNextOneIsNeverRefused(t *testing.T) {
	for seed := range 100 {
		rnd := rand.New(rand.NewSource(int64(seed)))
		room := []int{0, 1, 2, 3, 10}[seed%5]
		s := made(t, room)
		full := 0
		for range 200 {
			if s.Add(id(rnd.Intn(2), 1+rnd.Intn(2), 1+rnd.Intn(30))) == api.ErrFull {
				full++
			}
			checkNext(t, s, room)
		}
		if full == 0 {
			t.Errorf("seed %d: nothing was refused", seed)
		}
	}
}

func TestTheNextOneOfAFullSet(t *testing.T) {
	s := madeOf(t, mostGaps, mk(0, 1, 0, evens(100)...), mk(1, 1, most-2, most), mk(1, 2, most), mk(2, 1, 5, evens(158)[3:]...))
	if s.Gaps() != mostGaps {
		t.Fatalf("%d gaps", s.Gaps())
	}
	checkNext(t, s, mostGaps)
	for range 300 {
		l := s.Marks()
		adds(t, s, 0, 1, l[0].Upto+1)
		adds(t, s, 2, 1, l[3].Upto+1)
		checkNext(t, s, mostGaps)
	}
	if s.Gaps() != 1 {
		t.Errorf("%d gaps", s.Gaps())
	}
}

// P14.2 and P14.5, of all ways to give a few counters, of one mark and of two
func TestAllCallsOfFewCounters(t *testing.T) {
	for room := range 4 {
		for way := range 6 * 6 * 6 * 6 * 6 {
			s, m := made(t, room), newModel(room)
			for rest, n := way, 0; n < 5; rest, n = rest/6, n+1 {
				both(t, s, m, id(1, 1+rest%2, 1+rest%6/2))
			}
			s, m = made(t, room), newModel(room)
			for rest, n := way, 0; n < 5; rest, n = rest/6, n+1 {
				both(t, s, m, id(1, 1, 1+rest%6))
			}
		}
	}
}

// P14.6

func TestFromOfMarksIsTheSet(t *testing.T) {
	for seed := range 60 {
		rnd := rand.New(rand.NewSource(int64(seed)))
		room := []int{0, 1, 4, 30, mostGaps}[seed%5]
		s := made(t, room)
		for range 150 {
			some := func() api.Id { return id(rnd.Intn(3), 1+rnd.Intn(3), 1+rnd.Intn(20)) }
			s.Add(some())
			other := madeOf(t, room, s.Marks()...)
			checkSet(t, other, room, s.Marks()...)
			for range 5 { // and goes on as it
				i := some()
				if a, b := s.May(i), other.May(i); a != b {
					t.Fatalf("May(%+v): %d and %d", i, a, b)
				}
			}
			if rnd.Intn(3) == 0 {
				s = other
			}
		}
	}
}

// From of marks with just the room that they need.
func TestFromOfMarksWithJustTheirRoom(t *testing.T) {
	s := made(t, mostGaps)
	for k := range 100 {
		adds(t, s, k%5, 1+k%3, 1+2*(k/15))
		if k%15 != 14 {
			continue
		}
		checkSet(t, madeOf(t, s.Gaps(), s.Marks()...), s.Gaps(), s.Marks()...)
		if s.Gaps() == 0 {
			continue
		}
		if other, e := From(s.Gaps()-1, s.Marks()); other != nil || e != api.ErrFull {
			t.Fatalf("%v, %d", other != nil, e)
		}
	}
}
