package routes_test

import (
	"math"
	"slices"
	"testing"

	"portage/api"
	"portage/routes"
)

// P18.1: Set

func TestSet(t *testing.T) {
	at := table(t, 5, []int{0, 7, 63}, 9, hear(0, same(3)), hear(7, same(5)), hear(63, says(9, 0, 62, 15)))
	for _, dest := range []int{0, 1, 7, 9, 62, 63} {
		first, _ := at.Next(dest)
		was := at.Cost(dest)
		for _, via := range []int{0, 7, 63, 63, 0, 7} { // over a route that was set, too
			does(t, at, set(dest, via))
			goesBy(t, at, dest, via)
		}
		costs(t, at, dest, 6)
		does(t, at, set(dest, -1))
		goesBy(t, at, dest, first)
		costs(t, at, dest, was)
		does(t, at, set(dest, -1)) // of one that is not set
		goesBy(t, at, dest, first)
		costs(t, at, dest, was)
	}
}

// A route is set for its destination alone.
func TestSetIsOfOneDestination(t *testing.T) {
	for dest := range nodes {
		if dest == 5 {
			continue
		}
		at := table(t, 5, []int{0, 7}, 9, hear(0, same(3)), hear(7, same(5)), set(dest, 7))
		for other := range nodes {
			switch other {
			case 5:
				goesNowhere(t, at, other)
			case dest:
				goesBy(t, at, other, 7)
				costs(t, at, other, 6)
			default:
				goesBy(t, at, other, 0)
				costs(t, at, other, 4)
			}
		}
		does(t, at, set((dest+1)%5, -1))
	}
}

// Nothing needs to be heard for a route to be set, and to be taken back.
func TestSetAheadOfHearing(t *testing.T) {
	at := table(t, 5, []int{0, 7}, 2, set(9, 7), set(0, 7), set(7, 7))
	for _, dest := range []int{0, 7, 9} {
		goesBy(t, at, dest, 7)
		costs(t, at, dest, far)
	}
	goesNowhere(t, at, 8)
	does(t, at, hear(7, says(9, 1, 7, 0)))
	costs(t, at, 9, 2)
	costs(t, at, 7, 1)
	costs(t, at, 0, far)
	ticks(t, at, 2)
	for _, dest := range []int{0, 7, 9} {
		goesBy(t, at, dest, 7)
		costs(t, at, dest, far)
		does(t, at, set(dest, -1))
		goesNowhere(t, at, dest)
	}
}

func TestSetRefuses(t *testing.T) {
	make := func() *routes.Table {
		return table(t, 5, []int{0, 7, 63}, 3, hear(0, same(3)), hear(7, same(5)), tick(), set(9, 7), set(62, 63), hear(0, same(4)))
	}
	numbers := slices.Concat(beyond, []int{0, 1, 5, 6, 7, 9, 62, 63})
	neighbours := []int{0, 7, 63}
	for _, dest := range numbers {
		for _, via := range numbers {
			want := api.OK
			switch {
			case dest < 0 || dest > 63:
				want = api.ErrRange // whatever via
			case dest == 5:
				want = api.ErrForm // whatever via
			case via != -1 && !slices.Contains(neighbours, via):
				want = api.ErrNone
			}
			if want != api.OK {
				refuses(t, make, 3, set(dest, via), want)
			}
		}
	}
}

func TestSetWithoutNeighbours(t *testing.T) {
	at := table(t, 5, nil, 1)
	for _, via := range []int{0, 1, 5, 63, -2, 64, math.MinInt, math.MaxInt} {
		if e := at.Set(9, via); e != api.ErrNone {
			t.Fatalf("by %d: %d", via, e)
		}
	}
	does(t, at, set(9, -1), set(0, -1), set(63, -1))
	if e := at.Set(5, -1); e != api.ErrForm {
		t.Fatalf("of itself: %d", e)
	}
}

// A neighbour is by no means self, so self is none that a route could go by.
func TestSetBySelf(t *testing.T) {
	at := table(t, 5, without(5), 1)
	for dest := range nodes {
		want := api.ErrNone
		if dest == 5 {
			want = api.ErrForm
		}
		if e := at.Set(dest, 5); e != want {
			t.Fatalf("of %d: %d; not %d", dest, e, want)
		}
	}
}
