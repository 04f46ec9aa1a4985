package routes_test

import (
	"fmt"
	"math"
	"slices"
	"strings"
	"testing"

	"portage/api"
	"portage/routes"
)

const (
	nodes   = 64 // MaxNodes
	far     = 16 // Infinity
	longest = 64 // MaxTimer
)

// beyond are numbers that no node has.
var beyond = []int{math.MinInt, math.MinInt32, -65, -2, -1, nodes, nodes + 1, 128, 256, 1 << 16, math.MaxInt32, math.MaxInt}

// call is a call that a table may refuse.
type call struct {
	text string
	do   func(*routes.Table) api.Errno
}

func set(dest, via int) call {
	return call{fmt.Sprintf("Set(%d, %d)", dest, via), func(t *routes.Table) api.Errno { return t.Set(dest, via) }}
}

func hear(from int, costs []int) call {
	return call{fmt.Sprintf("Hear(%d, %v)", from, costs), func(t *routes.Table) api.Errno { return t.Hear(from, costs) }}
}

func tick() call {
	return call{"Tick()", func(t *routes.Table) api.Errno { return t.Tick() }}
}

// table answers a table behind these calls.
func table(t *testing.T, self int, neighbours []int, age int, calls ...call) *routes.Table {
	t.Helper()
	out, e := routes.New(self, neighbours, age)
	if e != api.OK || out == nil {
		t.Fatalf("New(%d, %v, %d): %v, %d", self, neighbours, age, out, e)
	}
	does(t, out, calls...)
	return out
}

// does makes calls that are taken.
func does(t *testing.T, at *routes.Table, calls ...call) {
	t.Helper()
	for _, c := range calls {
		if e := c.do(at); e != api.OK {
			t.Fatalf("%s: %d", c.text, e)
		}
	}
}

// ticks lets so many ticks pass.
func ticks(t *testing.T, at *routes.Table, n int) {
	t.Helper()
	for range n {
		does(t, at, tick())
	}
}

// says answers costs by pairs of a destination and its cost; all other ones cost 16.
func says(pairs ...int) []int {
	out := same(far)
	for p := range slices.Chunk(pairs, 2) {
		out[p[0]] = p[1]
	}
	return out
}

// same answers costs that are all the same.
func same(cost int) []int {
	return slices.Repeat([]int{cost}, nodes)
}

// but answers a copy of costs with another one for dest.
func but(costs []int, dest, cost int) []int {
	out := slices.Clone(costs)
	out[dest] = cost
	return out
}

// look tells all that a table answers at this time.
func look(at *routes.Table) string {
	var b strings.Builder
	fmt.Fprintln(&b, "heard", at.Heard())
	for n := -2; n < nodes+2; n++ {
		hop, there := at.Next(n)
		fmt.Fprintln(&b, n, at.Cost(n), hop, there, at.Vector(n))
	}
	return b.String()
}

// refuses asks that a call on a table that make makes is answered by want, and changes nothing that is told then or later.
func refuses(t *testing.T, make func() *routes.Table, age int, c call, want api.Errno) {
	t.Helper()
	asked, left := make(), make()
	if e := c.do(asked); e != want {
		t.Fatalf("%s: %d; not %d", c.text, e, want)
	}
	for n := range age + 1 {
		if a, l := look(asked), look(left); a != l {
			t.Fatalf("%s was refused, and %d ticks later:\n%s\nnot\n%s", c.text, n, a, l)
		}
		ticks(t, asked, 1)
		ticks(t, left, 1)
	}
}

func costs(t *testing.T, at *routes.Table, dest, want int) {
	t.Helper()
	if got := at.Cost(dest); got != want {
		t.Fatalf("Cost(%d): %d; not %d", dest, got, want)
	}
}

func goesBy(t *testing.T, at *routes.Table, dest, want int) {
	t.Helper()
	if got, there := at.Next(dest); got != want || !there {
		t.Fatalf("Next(%d): %d, %t; not %d", dest, got, there, want)
	}
}

func goesNowhere(t *testing.T, at *routes.Table, dest int) {
	t.Helper()
	if got, there := at.Next(dest); got != 0 || there {
		t.Fatalf("Next(%d): %d, %t; there is none", dest, got, there)
	}
}

// tells asks for the costs that are said to a neighbour.
func tells(t *testing.T, at *routes.Table, to int, want []int) {
	t.Helper()
	if got := at.Vector(to); !slices.Equal(got, want) {
		t.Fatalf("Vector(%d): %v; not %v", to, got, want)
	}
}

func heard(t *testing.T, at *routes.Table, want ...int) {
	t.Helper()
	if got := at.Heard(); !slices.Equal(got, want) {
		t.Fatalf("Heard: %v; not %v", got, want)
	}
}
