package routes_test

import (
	"fmt"
	"math/rand"
	"slices"
	"strings"
	"testing"

	"portage/api"
	"portage/routes"
)

// An independent reading of the chapter: a model has nothing but the calls that were taken, and looks back over them for each answer.

// past is a call that was taken: of a set route dest and via, of a hearing from and its costs, of a tick neither.
type past struct {
	dest, via int
	from      int
	costs     []int
	tick      bool
}

type model struct {
	self       int
	neighbours []int
	age        int
	calls      []past
}

func (m *model) set(dest, via int) api.Errno {
	if dest < 0 || dest > 63 {
		return api.ErrRange
	}
	if dest == m.self {
		return api.ErrForm
	}
	if via != -1 && !slices.Contains(m.neighbours, via) {
		return api.ErrNone
	}
	m.calls = append(m.calls, past{dest: dest, via: via, from: -1})
	return api.OK
}

func (m *model) hear(from int, costs []int) api.Errno {
	if !slices.Contains(m.neighbours, from) {
		return api.ErrNone
	}
	if len(costs) != 64 {
		return api.ErrForm
	}
	for _, c := range costs {
		if c < 0 || c > 16 {
			return api.ErrForm
		}
	}
	m.calls = append(m.calls, past{dest: -1, from: from, costs: slices.Clone(costs)})
	return api.OK
}

func (m *model) pass() {
	m.calls = append(m.calls, past{dest: -1, from: -1, tick: true})
}

// last answers what was heard of a neighbour last, if it is not forgotten.
func (m *model) last(from int) ([]int, bool) {
	passed := 0
	for _, c := range slices.Backward(m.calls) {
		if c.tick {
			passed++
		}
		if passed >= m.age {
			return nil, false
		}
		if c.from == from {
			return c.costs, true
		}
	}
	return nil, false
}

// route answers the neighbour of the route that is set for a destination.
func (m *model) route(dest int) (int, bool) {
	for _, c := range slices.Backward(m.calls) {
		if c.dest == dest {
			return c.via, c.via != -1
		}
	}
	return 0, false
}

func (m *model) by(neighbour, dest int) int {
	l, ok := m.last(neighbour)
	if !ok || l[dest] > 14 {
		return 16
	}
	return l[dest] + 1
}

func (m *model) cost(dest int) int {
	if dest < 0 || dest > 63 {
		return 16
	}
	if dest == m.self {
		return 0
	}
	if via, ok := m.route(dest); ok {
		return m.by(via, dest)
	}
	all := []int{16}
	for _, n := range m.neighbours {
		all = append(all, m.by(n, dest))
	}
	return slices.Min(all)
}

func (m *model) next(dest int) (int, bool) {
	if dest < 0 || dest > 63 || dest == m.self {
		return 0, false
	}
	if via, ok := m.route(dest); ok {
		return via, true
	}
	cost := m.cost(dest)
	if cost == 16 {
		return 0, false
	}
	at := slices.IndexFunc(m.neighbours, func(n int) bool { return m.by(n, dest) == cost })
	return m.neighbours[at], true
}

func (m *model) vector(to int) []int {
	if !slices.Contains(m.neighbours, to) {
		return nil
	}
	var out []int
	for dest := range 64 {
		if hop, ok := m.next(dest); ok && hop == to {
			out = append(out, 16)
		} else {
			out = append(out, m.cost(dest))
		}
	}
	return out
}

func (m *model) heard() []int {
	var out []int
	for n := range 64 {
		if _, ok := m.last(n); ok {
			out = append(out, n)
		}
	}
	return out
}

// look tells what look tells of a table.
func (m *model) look() string {
	var b strings.Builder
	fmt.Fprintln(&b, "heard", m.heard())
	for n := -2; n < nodes+2; n++ {
		hop, there := m.next(n)
		fmt.Fprintln(&b, n, m.cost(n), hop, there, m.vector(n))
	}
	return b.String()
}

// pick answers a node's number, mostly one of l, or one that no node has.
func pick(r *rand.Rand, l []int) int {
	switch {
	case r.Intn(12) == 0:
		return beyond[r.Intn(len(beyond))]
	case len(l) > 0 && r.Intn(8) > 0:
		return l[r.Intn(len(l))]
	default:
		return r.Intn(nodes)
	}
}

// someCosts answers costs of one of many kinds, seldom ones that are not right.
func someCosts(r *rand.Rand) []int {
	lowest := r.Intn(far + 1)
	out := same(lowest)
	for i := range out {
		if r.Intn(3) > 0 {
			out[i] = lowest + r.Intn(far+1-lowest)
		}
	}
	switch r.Intn(25) {
	case 0:
		out[r.Intn(nodes)] = -1 - r.Intn(2)
	case 1:
		out[r.Intn(nodes)] = 17 + r.Intn(2)
	case 2:
		out = out[:r.Intn(nodes)]
	case 3:
		out = append(out, r.Intn(17))
	}
	return out
}

// someNeighbours answers neighbours of self, of few or of many.
func someNeighbours(r *rand.Rand, self int) []int {
	var out []int
	most := []int{0, 1, 2, 3, 4, 8, 63}[r.Intn(7)]
	for _, n := range r.Perm(nodes) {
		if n != self && len(out) < most {
			out = append(out, n)
		}
	}
	slices.Sort(out)
	return out
}

func TestRandomCalls(t *testing.T) {
	for seed := range int64(150) {
		r := rand.New(rand.NewSource(seed))
		m := &model{self: r.Intn(nodes), age: 1 + r.Intn(8)}
		m.neighbours = someNeighbours(r, m.self)
		at := table(t, m.self, m.neighbours, m.age)
		for n := range 40 {
			oneCall(t, r, m, at)
			dest := pick(r, m.neighbours)
			hop, there := at.Next(dest)
			if h, ok := m.next(dest); at.Cost(dest) != m.cost(dest) || hop != h || there != ok {
				t.Fatalf("seed %d, %d: of %d %d, %d, %t; not %d, %d, %t", seed, n, dest, at.Cost(dest), hop, there, m.cost(dest), h, ok)
			}
			to := pick(r, m.neighbours)
			if got, want := at.Vector(to), m.vector(to); !slices.Equal(got, want) {
				t.Fatalf("seed %d, %d: to %d %v; not %v", seed, n, to, got, want)
			}
			heard(t, at, m.heard()...)
		}
		if seed%10 > 0 {
			continue // a look at all of it takes long
		}
		if got, want := look(at), m.look(); got != want {
			t.Fatalf("seed %d:\n%s\nnot\n%s", seed, got, want)
		}
	}
}

// oneCall makes some call on both.
func oneCall(t *testing.T, r *rand.Rand, m *model, at *routes.Table) {
	t.Helper()
	switch r.Intn(8) {
	case 0, 1:
		dest, via := pick(r, m.neighbours), pick(r, m.neighbours)
		if r.Intn(3) == 0 {
			via = -1
		}
		c := set(dest, via)
		if got, want := c.do(at), m.set(dest, via); got != want {
			t.Fatalf("%s: %d; not %d", c.text, got, want)
		}
	case 2, 3:
		does(t, at, tick())
		m.pass()
	default:
		from, l := pick(r, m.neighbours), someCosts(r)
		c := hear(from, l)
		if got, want := c.do(at), m.hear(from, l); got != want {
			t.Fatalf("%s: %d; not %d", c.text, got, want)
		}
	}
}

// The same calls make tables that answer the same.
func TestAnswersHangOnCallsAlone(t *testing.T) {
	for seed := range int64(20) {
		run := func() string {
			r := rand.New(rand.NewSource(seed))
			m := &model{self: r.Intn(nodes), age: 1 + r.Intn(8)}
			m.neighbours = someNeighbours(r, m.self)
			at := table(t, m.self, m.neighbours, m.age)
			for range 60 {
				oneCall(t, r, m, at)
			}
			return look(at)
		}
		if a, b := run(), run(); a != b {
			t.Fatalf("seed %d:\n%s\nand\n%s", seed, a, b)
		}
	}
}
