package routes_test

import (
	"fmt"
	"math/rand"
	"slices"
	"testing"

	"portage/routes"
)

// P18.4 and P18.6: what follows for one table.

func TestNextHopSaidOneLess(t *testing.T) {
	hops := 0
	for seed := range int64(120) {
		r := rand.New(rand.NewSource(seed))
		m := &model{self: r.Intn(nodes), age: 1 + r.Intn(8)}
		m.neighbours = someNeighbours(r, m.self)
		at := table(t, m.self, m.neighbours, m.age)
		said := map[int][]int{} // by neighbours, what they said last
		routed := map[int]bool{}
		for range 60 {
			switch from := pick(r, m.neighbours); r.Intn(6) {
			case 0:
				dest := r.Intn(nodes)
				if at.Set(dest, from) == 0 {
					routed[dest] = from != -1
				}
			case 1:
				does(t, at, tick())
			default:
				if l := someCosts(r); at.Hear(from, l) == 0 {
					said[from] = l
				}
			}
			for dest := range nodes {
				hop, there := at.Next(dest)
				if !there || routed[dest] {
					continue
				}
				hops++
				if said[hop][dest] != at.Cost(dest)-1 {
					t.Fatalf("seed %d: of %d %d said %d, and it costs %d", seed, dest, hop, said[hop][dest], at.Cost(dest))
				}
			}
		}
	}
	if hops < 10000 {
		t.Fatalf("only %d hops were asked for", hops)
	}
}

func TestNothingSaidThatComesBack(t *testing.T) {
	back, on := 0, 0
	for seed := range int64(100) {
		r := rand.New(rand.NewSource(seed))
		m := &model{self: r.Intn(nodes), age: 1 + r.Intn(8)}
		m.neighbours = someNeighbours(r, m.self)
		at := table(t, m.self, m.neighbours, m.age)
		for range 30 {
			oneCall(t, r, m, at)
			to := pick(r, m.neighbours)
			for dest, cost := range at.Vector(to) {
				hop, there := at.Next(dest)
				switch {
				case there && hop == to:
					back++
					if cost != far {
						t.Fatalf("seed %d: %d is told %d of %d, which goes to it", seed, to, cost, dest)
					}
				default:
					on++
					if cost != at.Cost(dest) {
						t.Fatalf("seed %d: %d is told %d of %d, which costs %d", seed, to, cost, dest, at.Cost(dest))
					}
				}
			}
		}
	}
	if back < 1000 || on < 1000 {
		t.Fatalf("only %d that go there and %d that do not were asked for", back, on)
	}
}

// P18.5: tables that tell one another their vectors.

// net is nodes, and which of them are joined, by their places.
type net struct {
	nodes  []int
	joined [][]bool
}

// newNet answers a net without lines, of nodes with these numbers.
func newNet(numbers []int) net {
	n := net{nodes: numbers}
	for range numbers {
		n.joined = append(n.joined, make([]bool, len(numbers)))
	}
	return n
}

func (n net) join(a, b int) {
	n.joined[a][b], n.joined[b][a] = true, true
}

// ways answers the lengths of the shortest ways between all nodes; 16, where there is none.
func (n net) ways() [][]int {
	out := make([][]int, len(n.nodes))
	for a := range out {
		out[a] = slices.Repeat([]int{far}, len(n.nodes))
		out[a][a] = 0
		for b := range out {
			if n.joined[a][b] {
				out[a][b] = 1
			}
		}
	}
	for via := range out {
		for a := range out {
			for b := range out {
				out[a][b] = min(out[a][b], out[a][via]+out[via][b])
			}
		}
	}
	return out
}

func (n net) connected() bool {
	return !slices.Contains(n.ways()[0], far)
}

func (n net) neighbours(a int) []int {
	var out []int
	for b, joined := range n.joined[a] {
		if joined {
			out = append(out, n.nodes[b])
		}
	}
	slices.Sort(out)
	return out
}

// tables answers the nodes' tables, by the nodes' numbers; each has heard of each neighbour what garbage tells, if it tells anything.
func (n net) tables(t *testing.T, age int, garbage func() []int) map[int]*routes.Table {
	t.Helper()
	out := map[int]*routes.Table{}
	for a, number := range n.nodes {
		out[number] = table(t, number, n.neighbours(a), age)
		for _, from := range n.neighbours(a) {
			if l := garbage(); l != nil {
				does(t, out[number], hear(from, l))
			}
		}
	}
	return out
}

// round lets all tell their neighbours their vectors, all at once.
func (n net) round(t *testing.T, tables map[int]*routes.Table) {
	t.Helper()
	type told struct {
		from, to int
		costs    []int
	}
	var all []told
	for a, from := range n.nodes {
		for _, to := range n.neighbours(a) {
			all = append(all, told{from, to, tables[from].Vector(to)})
		}
	}
	for _, x := range all {
		does(t, tables[x.to], hear(x.from, x.costs))
	}
}

// check asks that all costs are the lengths of the shortest ways, and that next hops lead along one.
func (n net) check(t *testing.T, text string, tables map[int]*routes.Table) {
	t.Helper()
	ways := n.ways()
	for a, from := range n.nodes {
		for dest := range nodes {
			b := slices.Index(n.nodes, dest)
			want := far
			if b >= 0 {
				want = ways[a][b]
			}
			if got := tables[from].Cost(dest); got != want {
				t.Fatalf("%s: of %v, %v: from %d to %d costs %d; not %d", text, n.nodes, n.joined, from, dest, got, want)
			}
			if b < 0 {
				goesNowhere(t, tables[from], dest)
				continue
			}
			if steps, ok := n.follow(tables, from, dest); !ok || steps != want {
				t.Fatalf("%s: of %v, %v: from %d to %d one comes in %d steps, %t; not %d", text, n.nodes, n.joined, from, dest, steps, ok, want)
			}
		}
	}
}

// follow goes from next hop to next hop, and answers behind how many one is at dest.
func (n net) follow(tables map[int]*routes.Table, from, dest int) (int, bool) {
	for steps := range nodes {
		if from == dest {
			return steps, true
		}
		hop, there := tables[from].Next(dest)
		if !there || !slices.Contains(n.nodes, hop) {
			return 0, false
		}
		from = hop
	}
	return 0, false
}

// settle lets tables that have heard garbage tell one another their vectors 24 times.
func (n net) settle(t *testing.T, text string, garbage func() []int) {
	t.Helper()
	tables := n.tables(t, longest, garbage)
	for range 24 {
		n.round(t, tables)
	}
	n.check(t, text, tables)
	// What is, stays.
	n.round(t, tables)
	n.check(t, text, tables)
}

// garbages are what tables may have heard.
func garbages(r *rand.Rand) map[string]func() []int {
	return map[string]func() []int{
		"nothing": func() []int { return nil },
		"noughts": func() []int { return same(0) },
		"ones":    func() []int { return same(1) },
		"fifteen": func() []int { return same(15) },
		"sixteen": func() []int { return same(far) },
		"any": func() []int {
			l := same(0)
			for i := range l {
				l[i] = r.Intn(far + 1)
			}
			return l
		},
		"low, or nothing": func() []int {
			if r.Intn(3) == 0 {
				return nil
			}
			l := same(0)
			for i := range l {
				l[i] = r.Intn(4)
			}
			return l
		},
		"nought, or sixteen": func() []int {
			l := same(0)
			for i := range l {
				l[i] = far * r.Intn(2)
			}
			return l
		},
	}
}

// All connected nets of at most 4 nodes.
func TestSmallNets(t *testing.T) {
	r := rand.New(rand.NewSource(1))
	connected := 0
	for size := 1; size <= 4; size++ {
		pairs := size * (size - 1) / 2
		for lines := range 1 << pairs {
			n := newNet([]int{0, 62, 7, 63}[:size])
			for a := range size {
				for b := range a {
					if lines>>(a*(a-1)/2+b)&1 == 1 {
						n.join(a, b)
					}
				}
			}
			if !n.connected() {
				continue
			}
			connected++
			for text, garbage := range garbages(r) {
				n.settle(t, text, garbage)
			}
		}
	}
	if connected != 1+1+4+38 {
		t.Fatalf("%d nets", connected)
	}
}

// shapes are nets of 8 nodes of known shapes.
func shapes(numbers []int) map[string]net {
	out := map[string]net{}
	for _, text := range []string{"row", "ring", "star", "all", "two rows", "ring and tail"} {
		out[text] = newNet(numbers)
	}
	for a := range 8 {
		for b := range a {
			out["all"].join(a, b)
		}
		if a > 0 {
			out["row"].join(a-1, a)
			out["star"].join(0, a)
		}
		out["ring"].join(a, (a+1)%8)
		if a%4 > 0 {
			out["two rows"].join(a-1, a)
		}
		out["two rows"].join(a, (a+4)%8)
		if a > 0 {
			out["ring and tail"].join(a-1, a)
		}
	}
	out["ring and tail"].join(0, 3)
	return out
}

func TestShapesOfNets(t *testing.T) {
	r := rand.New(rand.NewSource(2))
	for shape, n := range shapes([]int{0, 1, 2, 3, 4, 5, 6, 7}) {
		for text, garbage := range garbages(r) {
			for range 4 {
				n.settle(t, shape+", "+text, garbage)
			}
		}
	}
}

func TestRandomNets(t *testing.T) {
	r := rand.New(rand.NewSource(3))
	for range 60 {
		size := 5 + r.Intn(4)
		n := newNet(r.Perm(nodes)[:size])
		for a := 1; a < size; a++ {
			n.join(a, r.Intn(a))
		}
		for range r.Intn(size) {
			if a, b := r.Intn(size), r.Intn(size); a != b {
				n.join(a, b)
			}
		}
		for text, garbage := range garbages(r) {
			n.settle(t, text, garbage)
		}
	}
}

// Time may go on in between, as long as nobody is forgotten.
func TestNetsWithTicks(t *testing.T) {
	r := rand.New(rand.NewSource(4))
	for shape, n := range shapes([]int{3, 60, 5, 0, 63, 20, 21, 2}) {
		tables := n.tables(t, 2, garbages(r)["any"])
		for range 24 {
			for _, at := range tables {
				does(t, at, tick())
			}
			n.round(t, tables)
		}
		n.check(t, shape, tables)
	}
}

// A net that settled settles again, when all that a node says is gone for good: as of a net without it.
func TestNetsThatLoseANode(t *testing.T) {
	for shape, n := range shapes([]int{3, 60, 5, 0, 63, 20, 21, 2}) {
		tables := n.tables(t, 1, func() []int { return nil })
		for range 24 {
			n.round(t, tables)
		}
		lost := 7
		left := newNet(n.nodes[:lost])
		for a := range lost {
			for b := range lost {
				left.joined[a][b] = n.joined[a][b]
			}
		}
		for _, number := range left.nodes {
			does(t, tables[number], tick())
		}
		for range 24 {
			left.round(t, tables)
		}
		left.check(t, fmt.Sprint(shape, " without one"), tables)
	}
}
