package seen

import (
	"slices"
	"testing"

	"portage/api"
)

// roomy answers numbers behind whose end there is room, with 999 in it.
func roomy(numbers ...int) []int {
	l := append(slices.Clone(numbers), 999, 999, 999, 999)
	return l[:len(numbers)]
}

// whole answers a list with the room behind its end.
func whole[T any](l []T) []T {
	return l[:cap(l)]
}

// scribble turns all that marks have, and what lies behind their ends.
func scribble(l []api.Mark) {
	for at := range whole(l) {
		m := &whole(l)[at]
		for k := range whole(m.More) {
			whole(m.More)[k] += 7
		}
		*m = mk(m.Origin+1, m.Epoch+1, m.Upto+1, 5)
	}
}

// handedIn answers marks behind whose ends there is room.
func handedIn() []api.Mark {
	return marks(mk(1, 1, 1, roomy(3, 5)...), mk(2, 1, 0, roomy(4)...), mk(3, 9, 7), mk(-9, -9, -9))[:3]
}

func TestFromChangesNothingThatIsHandedIn(t *testing.T) {
	for _, gaps := range []int{-1, 0, 2, 3, 4, 9} {
		l := handedIn()
		s, _ := From(gaps, l)
		for _, c := range []int{4, 9, 7, 2, 1, 6, 5, 8} {
			s.Add(id(1, 1, c))
			s.Add(id(2, 1, c))
			s.Add(id(3, 9, c))
		}
		if !sameMarks(whole(l), whole(handedIn())) {
			t.Errorf("room for %d: the marks are %v", gaps, whole(l))
		}
		for at := range 2 {
			more := l[at].More
			if behind := more[len(more) : len(more)+4]; !slices.Equal(behind, []int{999, 999, 999, 999}) {
				t.Errorf("room for %d: behind %v stands %v", gaps, more, behind)
			}
		}
	}
}

func TestFromKeepsNothingThatIsHandedIn(t *testing.T) {
	l := handedIn()
	s := madeOf(t, 9, l...)
	scribble(l)
	checkSet(t, s, 9, handedIn()...)
	adds(t, s, 1, 1, 8, 4)
	scribble(l)
	checkSet(t, s, 9, mk(1, 1, 1, 3, 4, 5, 8), mk(2, 1, 0, 4), mk(3, 9, 7))
}

// Two marks of one list of counters, and two of which one's lies behind the other's end, have lists of their own.
func TestFromOfMarksThatShareAList(t *testing.T) {
	shared := []int{3, 5, 7, 9}
	s := madeOf(t, 30, mk(1, 1, 1, shared...), mk(1, 2, 1, shared...), mk(2, 1, 0, shared[:2]...), mk(2, 2, 0, shared[2:]...))
	adds(t, s, 1, 1, 11, 4)
	adds(t, s, 2, 1, 6, 8)
	adds(t, s, 2, 2, 1)
	checkSet(t, s, 30, mk(1, 1, 1, 3, 4, 5, 7, 9, 11), mk(1, 2, 1, 3, 5, 7, 9), mk(2, 1, 0, 3, 5, 6, 8), mk(2, 2, 1, 7, 9))
	if !slices.Equal(shared, []int{3, 5, 7, 9}) {
		t.Errorf("the counters are %v", shared)
	}
}

func TestMarksAreNewMemory(t *testing.T) {
	s := made(t, mostGaps)
	m := newModel(mostGaps)
	for n := range 60 { // at each length of a list, as its room differs
		i := id(n%2, 1, 2*n+2)
		ok(t, s.Add(i))
		m.add(i)
		first, second := s.Marks(), s.Marks()
		scribble(first)
		if !sameMarks(second, m.marks()) {
			t.Fatalf("the second answer is %v; not %v", second, m.marks())
		}
		checkSet(t, s, mostGaps, m.marks()...)
	}
}

func TestMarksShareNoMemoryWithOneAnother(t *testing.T) {
	s := made(t, mostGaps)
	for n := range 20 {
		adds(t, s, 1, 1, 2*n+2)
		adds(t, s, 1, 2, 2*n+2)
		adds(t, s, 2, 1, 2*n+2)
		l := s.Marks()
		was := s.Marks()
		for at := range l {
			for k := range whole(l[at].More) {
				whole(l[at].More)[k] = -1
			}
			for behind := at + 1; behind < len(l); behind++ {
				if !slices.Equal(l[behind].More, was[behind].More) {
					t.Fatalf("the list %d is %v", behind, l[behind].More)
				}
			}
		}
	}
}

// What was answered stays as it was, whatever comes into the set.
func TestMarksStayAsTheyWere(t *testing.T) {
	s := madeOf(t, mostGaps, mk(1, 1, 1, 3, 9), mk(1, 2, 0, 4))
	told := s.Marks()
	want := marks(mk(1, 1, 1, 3, 9), mk(1, 2, 0, 4))
	for _, c := range []int{5, 2, 7, 11, 4, 6, 8} {
		adds(t, s, 1, 1, c)
		if !sameMarks(told, want) {
			t.Fatalf("behind %d: %v", c, told)
		}
	}
	adds(t, s, 1, 2, 2, 3, 1)
	if !sameMarks(told, want) {
		t.Fatalf("%v", told)
	}
	checkSet(t, s, mostGaps, mk(1, 1, 9, 11), mk(1, 2, 4))
}

func TestMarksOfAClone(t *testing.T) {
	s := madeOf(t, 9, mk(1, 1, 1, 3, 9))
	other := s.Clone()
	scribble(other.Marks())
	scribble(s.Marks())
	checkSet(t, s, 9, mk(1, 1, 1, 3, 9))
	checkSet(t, other, 9, mk(1, 1, 1, 3, 9))
}
