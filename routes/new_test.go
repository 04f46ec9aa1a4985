package routes_test

import (
	"math"
	"slices"
	"testing"

	"portage/api"
	"portage/routes"
)

// P18.1: New

// without answers the numbers from 0 to 63, but not n.
func without(n int) []int {
	var out []int
	for m := range nodes {
		if m != n {
			out = append(out, m)
		}
	}
	return out
}

func TestNew(t *testing.T) {
	for _, x := range []struct {
		self       int
		neighbours []int
		age        int
	}{
		{0, nil, 1}, {0, []int{}, 64}, {63, nil, 2}, {5, nil, 63},
		{0, []int{1}, 1}, {0, []int{63}, 64}, {63, []int{0}, 1}, {63, []int{62}, 1}, {1, []int{0, 2}, 3},
		{0, without(0), 1}, {63, without(63), 64}, {17, without(17), 9}, {9, []int{7, 8, 10, 11, 60, 61}, 5},
	} {
		at := table(t, x.self, x.neighbours, x.age)
		if l := at.Heard(); l != nil {
			t.Fatalf("a new table has heard %v", l)
		}
		for dest := range nodes {
			goesNowhere(t, at, dest)
			if dest == x.self {
				costs(t, at, dest, 0)
			} else {
				costs(t, at, dest, far)
			}
			if slices.Contains(x.neighbours, dest) {
				tells(t, at, dest, says(x.self, 0))
			} else if l := at.Vector(dest); l != nil {
				t.Fatalf("Vector(%d): %v; of %v", dest, l, x.neighbours)
			}
		}
	}
}

func TestNewRefuses(t *testing.T) {
	fails := func(self int, neighbours []int, age int, want api.Errno) {
		t.Helper()
		if at, e := routes.New(self, neighbours, age); at != nil || e != want {
			t.Fatalf("New(%d, %v, %d): %v, %d; not %d", self, neighbours, age, at, e, want)
		}
	}
	for _, self := range beyond {
		fails(self, nil, 1, api.ErrRange)
		fails(self, []int{1, 2}, longest, api.ErrRange)
		// Both hold.
		fails(self, []int{2, 1}, 1, api.ErrRange)
		fails(self, []int{self}, 1, api.ErrRange)
		for _, n := range beyond {
			if n < 0 || n >= nodes {
				fails(3, []int{n}, 1, api.ErrForm)
				fails(self, []int{n}, 1, api.ErrRange)
			}
		}
	}
	for _, age := range []int{math.MinInt, -64, -1, 0, 65, 66, 128, 1 << 16, math.MaxInt} {
		fails(1, nil, age, api.ErrRange)
		fails(0, []int{1, 2}, age, api.ErrRange)
		fails(1, []int{1}, age, api.ErrRange)
		fails(1, []int{3, 2}, age, api.ErrRange)
		fails(1, []int{64}, age, api.ErrRange)
		fails(-1, []int{-1}, age, api.ErrRange)
	}
	for _, l := range [][]int{
		{-1}, {64}, {-1, 0}, {0, 64}, {-2, -1}, {64, 65}, {0, 1, -1}, {0, -1, 2}, {0, 64, 2}, {64, 0}, {63, 64}, // no node's
		{5}, {0, 5}, {5, 6}, {4, 5, 6}, {4, 6, 5}, // self
		{0, 0}, {7, 7}, {63, 63}, {1, 2, 2}, {2, 2, 3}, {1, 2, 2, 3}, {1, 2, 1}, // twice
		{1, 0}, {63, 0}, {7, 6}, {1, 3, 2}, {1, 3, 2, 4}, {6, 7, 8, 4}, {2, 1, 3}, // below the one ahead
		{math.MinInt}, {math.MaxInt}, {0, math.MaxInt}, {math.MinInt, 0}, {math.MaxInt, math.MinInt},
	} {
		fails(5, l, 1, api.ErrForm)
		fails(5, l, longest, api.ErrForm)
	}
	fails(0, []int{0}, 1, api.ErrForm)
	fails(63, []int{63}, 1, api.ErrForm)
	fails(0, append([]int{0}, without(0)...), 1, api.ErrForm)
	fails(0, append(without(0), 64), 1, api.ErrForm)
	fails(0, append(without(0), 63), 1, api.ErrForm)
	for n := range nodes {
		fails(n, append(without(n), nodes), 1, api.ErrForm)
		all := slices.Insert(without(n), n, n)
		fails(n, all, 1, api.ErrForm)
	}
}
