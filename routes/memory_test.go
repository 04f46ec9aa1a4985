package routes_test

import (
	"slices"
	"testing"

	"portage/api"
)

// What is handed in is neither changed nor kept, and what is answered is new memory.

// roomy answers a list whose room goes on behind its end, and the whole of that room.
func roomy(l []int) (short, whole []int) {
	whole = slices.Concat(l, []int{101, 102, 103, 104, 105})
	return whole[:len(l)], whole
}

func TestNeighboursAreNotKept(t *testing.T) {
	given, whole := roomy([]int{0, 7, 63})
	was := slices.Clone(whole)
	at := table(t, 5, given, 3, hear(7, says(9, 1)), set(9, 7), tick())
	if !slices.Equal(whole, was) {
		t.Fatalf("%v; was %v", whole, was)
	}
	for i := range whole {
		whole[i] = 11 + i
	}
	does(t, at, hear(0, says(8, 1)), set(8, 63))
	for _, n := range []int{11, 12, 13} {
		if e := at.Hear(n, same(0)); e != api.ErrNone {
			t.Fatalf("from %d: %d", n, e)
		}
		if l := at.Vector(n); l != nil {
			t.Fatalf("to %d: %v", n, l)
		}
	}
	heard(t, at, 0, 7)
	tells(t, at, 0, says(5, 0, 9, 2))
	if !slices.Equal(whole, []int{11, 12, 13, 14, 15, 16, 17, 18}) {
		t.Fatalf("%v", whole)
	}
}

func TestCostsAreNotKept(t *testing.T) {
	given, whole := roomy(says(9, 1, 10, 5))
	was := slices.Clone(whole)
	at := table(t, 5, []int{0, 7}, 3, hear(7, given))
	before := look(at)
	does(t, at, tick())
	if !slices.Equal(whole, was) {
		t.Fatalf("%v; was %v", whole, was)
	}
	for i := range whole {
		whole[i] = i % 4
	}
	if now := look(at); now != before {
		t.Fatalf("%s\nnot\n%s", now, before)
	}
	changed := slices.Clone(whole)
	does(t, at, hear(0, same(3)), tick(), hear(7, same(4)))
	if !slices.Equal(whole, changed) {
		t.Fatalf("%v; was %v", whole, changed)
	}
}

// The same costs may come from two neighbours, and change behind that for one.
func TestCostsAreNotShared(t *testing.T) {
	given := says(9, 1)
	at := table(t, 5, []int{0, 7}, 3, hear(0, given), hear(7, given))
	given[9] = 4
	does(t, at, hear(0, given))
	costs(t, at, 9, 2)
	goesBy(t, at, 9, 7)
}

func TestRefusedListsAreNotChanged(t *testing.T) {
	at := table(t, 5, []int{0, 7}, 3)
	for _, l := range [][]int{same(17), same(0)[:63], append(same(1), 1), but(same(3), 63, -1)} {
		given, whole := roomy(l)
		was := slices.Clone(whole)
		if e := at.Hear(7, given); e != api.ErrForm || !slices.Equal(whole, was) {
			t.Fatalf("%d: %v; was %v", e, whole, was)
		}
	}
}

func TestAnswersAreNewMemory(t *testing.T) {
	at := table(t, 5, []int{0, 7, 63}, 3, hear(0, same(3)), hear(63, says(9, 1)), set(10, 7))
	before := look(at)
	for _, ask := range []func() []int{
		at.Heard,
		func() []int { return at.Vector(0) },
		func() []int { return at.Vector(7) },
		func() []int { return at.Vector(63) },
	} {
		first, second := ask(), ask()
		was := slices.Clone(second)
		first = first[:cap(first)]
		for i := range first {
			first[i] = 99
		}
		if !slices.Equal(second, was) {
			t.Fatalf("two answers share: %v; was %v", second, was)
		}
		if now := look(at); now != before {
			t.Fatalf("%s\nnot\n%s", now, before)
		}
		if again := ask(); !slices.Equal(again, was) {
			t.Fatalf("%v; was %v", again, was)
		}
	}
}

// Asking changes nothing.
func TestAskingChangesNothing(t *testing.T) {
	at := table(t, 5, []int{0, 7, 63}, 2, hear(0, same(3)), tick(), hear(63, says(9, 1)), set(10, 7))
	before := look(at)
	for range 3 {
		if now := look(at); now != before {
			t.Fatalf("%s\nnot\n%s", now, before)
		}
	}
	does(t, at, tick())
	heard(t, at, 63)
}

// Tables go their own ways.
func TestTablesShareNothing(t *testing.T) {
	neighbours := []int{0, 7, 63}
	one, other := table(t, 5, neighbours, 2), table(t, 5, neighbours, 2)
	before := look(other)
	does(t, one, hear(0, same(3)), set(9, 7), tick())
	if now := look(other); now != before {
		t.Fatalf("%s\nnot\n%s", now, before)
	}
}
