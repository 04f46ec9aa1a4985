package routes_test

import (
	"math"
	"slices"
	"testing"

	"portage/api"
	"portage/routes"
)

// P18.2

func TestHear(t *testing.T) {
	at := table(t, 5, []int{0, 7, 63}, 9)
	heard(t, at)
	does(t, at, hear(7, says(9, 3)))
	heard(t, at, 7)
	costs(t, at, 9, 4)
	does(t, at, hear(63, says(9, 5, 10, 0)))
	heard(t, at, 7, 63)
	costs(t, at, 9, 4)
	costs(t, at, 10, 1)
	does(t, at, hear(0, same(far)))
	heard(t, at, 0, 7, 63)
	costs(t, at, 9, 4)
	// Twice from the same one: the last counts, also if it says more, or nothing of what it said first.
	does(t, at, hear(7, says(9, 7, 11, 2)))
	heard(t, at, 0, 7, 63)
	costs(t, at, 9, 6)
	goesBy(t, at, 9, 63)
	costs(t, at, 11, 3)
	does(t, at, hear(63, same(far)))
	costs(t, at, 9, 8)
	goesBy(t, at, 9, 7)
	costs(t, at, 10, far)
	does(t, at, hear(7, same(0)))
	costs(t, at, 9, 1)
}

// All costs are heard, at each place, and each one that may be.
func TestHearEachCost(t *testing.T) {
	for dest := range nodes {
		for cost := range far + 1 {
			at := table(t, 5, []int{7}, 9, hear(7, says(dest, cost)))
			for other := range nodes {
				switch {
				case other == 5:
					costs(t, at, other, 0)
				case other == dest:
					costs(t, at, other, min(cost+1, far))
				default:
					costs(t, at, other, far)
				}
			}
		}
	}
}

func TestHearRefuses(t *testing.T) {
	make := func() *routes.Table {
		return table(t, 5, []int{0, 7, 63}, 3, hear(0, same(3)), hear(7, same(5)), tick(), set(9, 7))
	}
	good := says(9, 1, 10, 2)
	var bad [][]int
	bad = append(bad, nil, []int{}, good[:1], good[:63], append(slices.Clone(good), 16), append(slices.Clone(good), 0), same(0)[:63], slices.Repeat(good, 2), slices.Repeat(good, 4))
	for _, at := range []int{0, 5, 7, 31, 32, 62, 63} {
		for _, cost := range []int{math.MinInt, math.MinInt32, -256, -16, -1, 17, 18, 32, 255, 256, 272, 1 << 16, 1 << 32, math.MaxInt32, math.MaxInt} {
			bad = append(bad, but(good, at, cost), but(same(0), at, cost), but(same(16), at, cost))
		}
	}
	bad = append(bad, same(17), same(-1), append(same(0), 17), append(same(0), -1))
	for _, l := range bad {
		refuses(t, make, 3, hear(0, l), api.ErrForm)
		refuses(t, make, 3, hear(63, l), api.ErrForm) // of which nothing was heard
	}
	for _, from := range slices.Concat(beyond, []int{1, 5, 6, 8, 9, 62}) {
		refuses(t, make, 3, hear(from, good), api.ErrNone)
		// Both hold.
		refuses(t, make, 3, hear(from, nil), api.ErrNone)
		refuses(t, make, 3, hear(from, same(17)), api.ErrNone)
		refuses(t, make, 3, hear(from, good[:63]), api.ErrNone)
	}
	// Behind one that was refused right ones are taken.
	at := make()
	for _, l := range bad {
		if e := at.Hear(63, l); e != api.ErrForm {
			t.Fatalf("%v: %d", l, e)
		}
	}
	heard(t, at, 0, 7)
	does(t, at, hear(63, good))
	heard(t, at, 0, 7, 63)
	costs(t, at, 10, 3)
}

func TestHearWithoutNeighbours(t *testing.T) {
	at := table(t, 5, nil, 3)
	for from := -1; from <= nodes; from++ {
		if e := at.Hear(from, same(0)); e != api.ErrNone {
			t.Fatalf("from %d: %d", from, e)
		}
	}
	heard(t, at)
	ticks(t, at, 4)
	heard(t, at)
}

// Costs that are refused do not make what was heard ahead younger.
func TestRefusedCostsKeepNothingAlive(t *testing.T) {
	at := table(t, 5, []int{7}, 2, hear(7, same(3)), tick())
	if e := at.Hear(7, same(17)); e != api.ErrForm {
		t.Fatal(e)
	}
	heard(t, at, 7)
	ticks(t, at, 1)
	heard(t, at)
}

func TestForgetting(t *testing.T) {
	for _, age := range []int{1, 2, 3, 7, 63, 64} {
		at := table(t, 5, []int{0, 7, 63}, age, hear(7, says(9, 3)))
		for range age {
			heard(t, at, 7)
			costs(t, at, 9, 4)
			goesBy(t, at, 9, 7)
			tells(t, at, 0, says(5, 0, 9, 4))
			ticks(t, at, 1)
		}
		for range 3 {
			if l := at.Heard(); l != nil {
				t.Fatalf("of age %d: heard of %v", age, l)
			}
			costs(t, at, 9, far)
			goesNowhere(t, at, 9)
			tells(t, at, 0, says(5, 0))
			ticks(t, at, 1)
		}
		// Heard of again behind being forgotten, for as long as at first.
		does(t, at, hear(7, says(9, 2)))
		for range age {
			heard(t, at, 7)
			costs(t, at, 9, 3)
			ticks(t, at, 1)
		}
		heard(t, at)
		costs(t, at, 9, far)
	}
}

// What is heard in between counts from then on, whatever it says.
func TestHearingAgain(t *testing.T) {
	for _, age := range []int{1, 2, 3, 64} {
		for early := range age {
			at := table(t, 5, []int{0, 7}, age, hear(7, says(9, 3)))
			ticks(t, at, early)
			does(t, at, hear(7, says(9, 3)))
			ticks(t, at, age-1)
			heard(t, at, 7)
			ticks(t, at, 1)
			heard(t, at)
		}
	}
	at := table(t, 5, []int{7}, 3, hear(7, same(1)))
	for range 20 {
		ticks(t, at, 2)
		does(t, at, hear(7, same(far)))
		heard(t, at, 7)
	}
	ticks(t, at, 3)
	heard(t, at)
}

// Each neighbour is forgotten by itself.
func TestForgettingEach(t *testing.T) {
	at := table(t, 5, []int{0, 7, 63}, 3, hear(63, says(9, 1)), tick(), hear(7, says(9, 2)), tick(), hear(0, says(9, 3)))
	heard(t, at, 0, 7, 63)
	goesBy(t, at, 9, 63)
	ticks(t, at, 1)
	heard(t, at, 0, 7)
	goesBy(t, at, 9, 7)
	does(t, at, hear(63, says(9, 8)))
	ticks(t, at, 1)
	heard(t, at, 0, 63)
	goesBy(t, at, 9, 0)
	ticks(t, at, 1)
	heard(t, at, 63)
	goesBy(t, at, 9, 63)
	ticks(t, at, 1)
	heard(t, at)
	goesNowhere(t, at, 9)
}

// Ticks that passed when nothing was heard do not count, nor do those of others.
func TestTicksAheadOfHearing(t *testing.T) {
	at := table(t, 5, []int{0, 7}, 2)
	ticks(t, at, 50)
	heard(t, at)
	does(t, at, hear(0, same(1)), tick(), hear(7, same(2)), tick())
	heard(t, at, 7)
	ticks(t, at, 1)
	heard(t, at)
}

// Set routes do not age.
func TestTicksLeaveRoutes(t *testing.T) {
	at := table(t, 5, []int{0, 7}, 1, set(9, 7))
	ticks(t, at, 200)
	goesBy(t, at, 9, 7)
}

// All are heard of, rising, in whatever order they come.
func TestHeardRises(t *testing.T) {
	for self := range nodes {
		all := without(self)
		at := table(t, self, all, 2)
		for n := range nodes {
			if from := n * 37 % nodes; from != self {
				does(t, at, hear(from, same(n%17)))
			}
		}
		heard(t, at, all...)
		does(t, at, tick(), hear(all[5], same(1)), hear(all[60], same(1)), hear(all[0], same(1)), tick())
		heard(t, at, all[0], all[5], all[60])
	}
}
