package routes_test

import (
	"slices"
	"testing"

	"portage/api"
	"portage/routes"
)

// P18.3

func TestExample(t *testing.T) {
	at := table(t, 1, []int{0, 2}, 5, hear(2, says(3, 1)))
	costs(t, at, 3, 2)
	goesBy(t, at, 3, 2)
	if l := at.Vector(2); len(l) != nodes || l[3] != 16 {
		t.Fatalf("%v", l)
	}
	if l := at.Vector(0); len(l) != nodes || l[3] != 2 {
		t.Fatalf("%v", l)
	}
	tells(t, at, 2, says(1, 0))
	tells(t, at, 0, says(1, 0, 3, 2))
}

// The node itself costs nothing and is on the way nowhere, whatever is said of it.
func TestSelf(t *testing.T) {
	for _, self := range []int{0, 1, 33, 62, 63} {
		all := without(self)
		at := table(t, self, all, 5)
		costs(t, at, self, 0)
		goesNowhere(t, at, self)
		for _, cost := range []int{0, 1, 15, 16} {
			for _, from := range []int{all[0], all[40], all[62]} {
				does(t, at, hear(from, same(cost)))
				costs(t, at, self, 0)
				goesNowhere(t, at, self)
				for _, to := range all {
					if l := at.Vector(to); l[self] != 0 {
						t.Fatalf("self costs %d, is said to %d", l[self], to)
					}
				}
			}
		}
	}
}

func TestNoNode(t *testing.T) {
	at := table(t, 63, without(63), 5)
	for _, from := range without(63) {
		does(t, at, hear(from, same(0)))
	}
	for _, dest := range beyond {
		costs(t, at, dest, far)
		goesNowhere(t, at, dest)
		if l := at.Vector(dest); l != nil {
			t.Fatalf("Vector(%d): %v", dest, l)
		}
	}
	costs(t, at, 0, 1)
	goesBy(t, at, 0, 0)
	costs(t, at, 62, 1)
	at = table(t, 0, []int{63}, 5, hear(63, same(0)))
	costs(t, at, 63, 1)
	goesBy(t, at, 63, 63)
}

// A neighbour is a destination as all others: it costs what is said of it.
func TestNeighbourItself(t *testing.T) {
	at := table(t, 5, []int{0, 7}, 5)
	costs(t, at, 7, far)
	goesNowhere(t, at, 7)
	does(t, at, hear(7, says(7, 0)))
	costs(t, at, 7, 1)
	goesBy(t, at, 7, 7)
	tells(t, at, 7, says(5, 0))
	tells(t, at, 0, says(5, 0, 7, 1))
	does(t, at, hear(7, says(7, 4)), hear(0, says(7, 2)))
	costs(t, at, 7, 3)
	goesBy(t, at, 7, 0)
	tells(t, at, 7, says(5, 0, 7, 3))
	tells(t, at, 0, says(5, 0))
}

func TestCostsAtTheEdge(t *testing.T) {
	for _, x := range []struct {
		said, cost int
		hop        bool
	}{{0, 1, true}, {1, 2, true}, {13, 14, true}, {14, 15, true}, {15, 16, false}, {16, 16, false}} {
		at := table(t, 5, []int{0, 7}, 5, hear(7, says(9, x.said)))
		costs(t, at, 9, x.cost)
		if x.hop {
			goesBy(t, at, 9, 7)
		} else {
			goesNowhere(t, at, 9)
		}
		tells(t, at, 0, says(5, 0, 9, x.cost))
		tells(t, at, 7, says(5, 0))
		costs(t, at, 10, far)
		goesNowhere(t, at, 10)
	}
}

// Of neighbours by which it costs the same the least one is the next hop, in whatever order they were heard.
func TestLeastNeighbour(t *testing.T) {
	for _, order := range [][]int{{0, 7, 63}, {0, 63, 7}, {7, 0, 63}, {7, 63, 0}, {63, 0, 7}, {63, 7, 0}} {
		for _, cost := range []int{0, 3, 14} {
			at := table(t, 5, []int{0, 7, 63}, 5)
			for _, from := range order {
				does(t, at, hear(from, says(9, cost)))
			}
			costs(t, at, 9, cost+1)
			goesBy(t, at, 9, 0)
			tells(t, at, 0, says(5, 0))
			tells(t, at, 7, says(5, 0, 9, cost+1))
			tells(t, at, 63, says(5, 0, 9, cost+1))
			does(t, at, hear(0, says(9, cost+1)))
			costs(t, at, 9, cost+1)
			goesBy(t, at, 9, 7)
			does(t, at, hear(0, says()))
			goesBy(t, at, 9, 7)
		}
	}
}

// The greater neighbour is the next hop, if it says less.
func TestGreaterNeighbourSaysLess(t *testing.T) {
	for _, cost := range []int{1, 2, 14, 15, 16} {
		at := table(t, 5, []int{0, 7, 63}, 5, hear(0, says(9, cost)), hear(7, says(9, cost-1)), hear(63, says(9, cost)))
		costs(t, at, 9, cost)
		if cost == far {
			goesNowhere(t, at, 9)
			continue
		}
		goesBy(t, at, 9, 7)
		does(t, at, hear(63, says(9, 0)), hear(7, says(9, 1)))
		goesBy(t, at, 9, 63)
		costs(t, at, 9, 1)
	}
}

// A set route goes by its neighbour, whatever is said.
func TestSetRoutes(t *testing.T) {
	at := table(t, 5, []int{0, 7, 63}, 5, set(9, 7))
	// Nothing is heard of 7.
	check := func(cost int) {
		t.Helper()
		costs(t, at, 9, cost)
		goesBy(t, at, 9, 7)
		if l := at.Vector(7); l[9] != far {
			t.Fatalf("7 is told %d of what goes to it", l[9])
		}
		if a, b := at.Vector(0)[9], at.Vector(63)[9]; a != cost || b != cost {
			t.Fatalf("%d and %d are told, not %d", a, b, cost)
		}
	}
	check(far)
	does(t, at, hear(0, says(9, 0, 10, 0)))
	check(far)
	costs(t, at, 10, 1)
	goesBy(t, at, 10, 0)
	for _, x := range [][2]int{{0, 1}, {3, 4}, {14, 15}, {15, 16}, {16, 16}} {
		does(t, at, hear(7, says(9, x[0])))
		check(x[1])
		does(t, at, hear(63, says(9, 0)))
		check(x[1])
		does(t, at, hear(63, same(far)))
		check(x[1])
	}
	// Taken back, it costs what it would have.
	does(t, at, set(9, -1))
	costs(t, at, 9, 1)
	goesBy(t, at, 9, 0)
	does(t, at, hear(0, same(far)))
	costs(t, at, 9, far)
	goesNowhere(t, at, 9)
	does(t, at, hear(7, says(9, 4)))
	costs(t, at, 9, 5)
	goesBy(t, at, 9, 7)
}

// A set route stays when its neighbour is forgotten.
func TestSetRouteOfAForgottenNeighbour(t *testing.T) {
	at := table(t, 5, []int{0, 7}, 2, hear(7, says(9, 1)), set(9, 7), tick(), hear(0, says(9, 3)), tick())
	heard(t, at, 0)
	costs(t, at, 9, far)
	goesBy(t, at, 9, 7)
	tells(t, at, 0, says(5, 0))
	does(t, at, set(9, -1))
	costs(t, at, 9, 4)
	goesBy(t, at, 9, 0)
}

// To the neighbour: what goes by it is 16, what goes by another one is what it costs, as is what goes nowhere.
func TestVector(t *testing.T) {
	at := table(t, 5, []int{0, 7, 63}, 5,
		hear(0, says(9, 1, 10, 4, 11, 15, 5, 1)), hear(7, says(9, 1, 10, 3, 12, 14)),
		set(20, 7), set(21, 0), set(9, 63), set(12, 7), set(10, 0))
	tells(t, at, 0, says(5, 0, 12, 15))
	tells(t, at, 7, says(5, 0, 10, 5))
	tells(t, at, 63, says(5, 0, 10, 5, 12, 15))
	does(t, at, set(9, -1), set(10, -1), hear(63, same(0)))
	want := but(same(1), 5, 0)
	want[20], want[21], want[12] = far, far, 15
	tells(t, at, 0, want)
	tells(t, at, 7, but(want, 12, far))
	tells(t, at, 63, says(5, 0, 12, 15))
	does(t, at, hear(0, says(21, 7)), hear(7, says(20, 8)))
	tells(t, at, 0, but(but(want, 20, 9), 12, far))
	tells(t, at, 7, but(but(want, 21, 8), 12, far))
	tells(t, at, 63, says(5, 0, 20, 9, 21, 8))
}

func TestVectorToNobody(t *testing.T) {
	at := table(t, 5, []int{0, 7, 63}, 5, hear(0, same(3)), set(9, 7))
	for _, to := range slices.Concat(beyond, []int{1, 4, 5, 6, 8, 9, 62}) {
		if l := at.Vector(to); l != nil {
			t.Fatalf("Vector(%d): %v", to, l)
		}
	}
	alone := table(t, 5, nil, 5)
	for to := -1; to <= nodes; to++ {
		if l := alone.Vector(to); l != nil {
			t.Fatalf("Vector(%d) without neighbours: %v", to, l)
		}
	}
}

// Each neighbour of very many is asked, and each destination is answered by itself.
func TestManyNeighbours(t *testing.T) {
	at := table(t, 17, without(17), 64)
	for _, from := range without(17) {
		does(t, at, hear(from, says(from, 0, (from+1)%nodes, 1)))
	}
	for dest := range nodes {
		want := says(17, 0)
		for other := range nodes {
			if other != 17 && other != dest {
				want[other] = 1
			}
		}
		if dest != 17 {
			costs(t, at, dest, 1)
			goesBy(t, at, dest, dest)
			tells(t, at, dest, want)
		}
	}
}

func TestANilTable(t *testing.T) {
	var at *routes.Table
	for _, c := range []call{
		set(9, 7), set(9, -1), set(-1, 7), set(64, 64), set(0, 0),
		hear(7, same(0)), hear(7, nil), hear(-1, same(17)), hear(64, same(3)),
		tick(),
	} {
		if e := c.do(at); e != api.ErrState {
			t.Fatalf("%s: %d", c.text, e)
		}
	}
	for n := -1; n <= nodes; n++ {
		costs(t, at, n, far)
		goesNowhere(t, at, n)
		if l := at.Vector(n); l != nil {
			t.Fatalf("Vector(%d): %v", n, l)
		}
	}
	for _, n := range beyond {
		costs(t, at, n, far)
		goesNowhere(t, at, n)
		if l := at.Vector(n); l != nil {
			t.Fatalf("Vector(%d): %v", n, l)
		}
	}
	if l := at.Heard(); l != nil {
		t.Fatalf("Heard: %v", l)
	}
}
