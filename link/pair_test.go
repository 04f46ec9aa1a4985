package link

import (
	"encoding/binary"
	"math/rand"
	"testing"

	"portage/api"
)

// side is one of two ends, with what was pushed into it, what has come in, and the line that goes away from it.
type side struct {
	*Link
	block  int // how often its power came: its me begins at 512 times that, and so was never used
	pushed int
	came   int // the last one that has come in, of the other side's; -1 at first
	total  int // how many have
	seam   [4]int
	way    []passing
}

// passing is a control on its way, till the round of that number.
type passing struct {
	c    api.Ctl
	due  int
	copy bool // it comes by itself, not in the line's order
	from [2]int
	told [2]int
}

const mostDelay = 5

type net struct {
	t                  *testing.T
	rnd                *rand.Rand
	sides              [2]*side
	size, timer, tries int
	round              int

	lost, doubled, late int // of 100 controls
	delay               int
}

// numbered answers a payload that no other n has.
func numbered(n int) []byte {
	p := make([]byte, 4+n%7)
	binary.BigEndian.PutUint32(p, uint32(n))
	return p
}

func joined(t *testing.T, rnd *rand.Rand, meA, meB, size, timer, tries int) *net {
	n := &net{t: t, rnd: rnd, size: size, timer: timer, tries: tries}
	for i, me := range []int{meA, meB} {
		n.sides[i] = &side{Link: made(t, me, size, timer, tries), came: -1}
	}
	return n
}

// goesOut lays what each side sent on its line, where it may be lost, doubled, or late.
func (n *net) goesOut() {
	for i, s := range n.sides {
		o := n.sides[1-i]
		for _, c := range s.Out() {
			p := passing{c: c, due: n.round + n.rnd.Intn(n.delay+1), from: [2]int{s.Me(), o.Me()}, told: [2]int{s.total, o.total}}
			if n.rnd.Intn(100) >= n.lost {
				s.way = append(s.way, p)
				if n.rnd.Intn(100) < n.doubled {
					s.way = append(s.way, p)
				}
			}
			if n.rnd.Intn(100) < n.late {
				p.copy = true
				p.due += n.rnd.Intn(3*n.timer + 10)
				s.way = append(s.way, p)
			}
		}
	}
}

// mayCome answers whether a copy can still be told from what is sent now: both ends are the ones that they were, and numbers have not gone round as far as its own.
func (n *net) mayCome(from, to *side, p passing) bool {
	most := 128 - 2*n.size
	return p.from == [2]int{from.Me(), to.Me()} && from.total-p.told[0] < most && to.total-p.told[1] < most
}

// comesIn lets each side receive what is due, the line's own in its order.
func (n *net) comesIn() {
	for i, s := range n.sides {
		o := n.sides[1-i]
		var left []passing
		open := true
		for _, p := range s.way {
			switch {
			case p.copy && p.due <= n.round:
				if n.mayCome(s, o, p) {
					n.gets(s, o, p.c)
				}
			case !p.copy && p.due <= n.round && open:
				n.gets(s, o, p.c)
			default:
				open = open && p.copy
				left = append(left, p)
			}
		}
		s.way = left
	}
}

// gets lets to receive c, and asks P9.6 of what comes in: what from pushed, in order, none twice; and each one, as long as both ends go on as they are.
func (n *net) gets(from, to *side, c api.Ctl) {
	n.t.Helper()
	seam := [4]int{from.block, from.Resets(), to.block, to.Resets()}
	get(n.t, to.Link, c)
	for _, p := range to.In() {
		number := int(binary.BigEndian.Uint32(p))
		if string(p) != string(numbered(number)) || number >= from.pushed {
			n.t.Fatalf("came in % x, of %d pushed", p, from.pushed)
		}
		if number <= to.came {
			n.t.Fatalf("%d came in behind %d", number, to.came)
		}
		if seam == to.seam && number != to.came+1 {
			n.t.Fatalf("%d came in behind %d, and nobody was reset", number, to.came)
		}
		to.came = number
		to.total++
		to.seam = seam
	}
}

func (n *net) push(s *side) {
	if s.Push(numbered(s.pushed)) == api.OK {
		s.pushed++
	}
}

// rounds lets time go on, with what comes and goes in it.
func (n *net) rounds(many int, chance func(s *side)) {
	for range many {
		n.round++
		for _, s := range n.sides {
			if chance != nil {
				chance(s)
			}
			ticks(n.t, s.Link, 1)
		}
		n.goesOut()
		n.comesIn()
		n.goesOut()
	}
}

// crash lets a side begin anew, with a me that was never used.
func (n *net) crash(s *side) {
	s.block++
	s.Link = made(n.t, 512*s.block, n.size, n.timer, n.tries)
}

// bothUp asks that both are, and each knows the other one.
func (n *net) bothUp() {
	n.t.Helper()
	a, b := n.sides[0], n.sides[1]
	if !a.Up() || !b.Up() || a.Peer() != b.Me() || b.Peer() != a.Me() {
		n.t.Fatalf("ends %d %v (peer %d) and %d %v (peer %d)", a.Me(), a.Up(), a.Peer(), b.Me(), b.Up(), b.Peer())
	}
}

// P9.5

func TestTwoEndsAreUpWithinAFewExchanges(t *testing.T) {
	for _, mes := range [][2]int{{1, 7}, {7, 1}, {0, 0}, {5, 5}, {0, 65535}, {65535, 65535}, {512, 1024}} {
		for _, timer := range []int{1, 3, mostTimer} {
			for _, order := range []int{0, 1} { // who of them is asked first
				n := joined(t, rand.New(rand.NewSource(1)), mes[order], mes[1-order], 4, timer, 2)
				for range 2 {
					n.round++
					n.goesOut()
					n.comesIn()
				}
				n.bothUp()
				for _, s := range n.sides {
					is(t, s.Link, true, s.Me(), s.Peer(), 1, 0)
				}
			}
		}
	}
}

func TestOneIsThereLate(t *testing.T) {
	for _, late := range []int{1, 5, 50, 500} {
		a := made(t, mine, 4, 3, 2)
		ticks(t, a, late)
		a.Out() // nobody was there
		n := joined(t, rand.New(rand.NewSource(1)), 0, other, 4, 3, 2)
		n.sides[0].Link = a
		n.rounds(5, nil) // it is told, and calls once more itself
		n.bothUp()
		n.push(n.sides[0])
		n.push(n.sides[1])
		n.rounds(2, nil)
		if n.sides[0].came != 0 || n.sides[1].came != 0 {
			t.Errorf("came in %d, %d", n.sides[0].came, n.sides[1].came)
		}
	}
}

func TestAllThatIsPushedComesInWhereNothingIsLost(t *testing.T) {
	for _, size := range []int{1, 2, 7, mostSize} {
		n := joined(t, rand.New(rand.NewSource(1)), 1, 7, size, 5, 2)
		n.rounds(3, nil)
		n.rounds(500, func(s *side) {
			for range 3 {
				n.push(s)
			}
		})
		n.rounds(200, nil)
		for i, s := range n.sides {
			if s.came != n.sides[1-i].pushed-1 || s.pushed < 250 {
				t.Errorf("size %d: %d pushed, the last that came in is %d", size, n.sides[1-i].pushed, s.came)
			}
			is(t, s.Link, true, s.Me(), s.Peer(), 1, 0)
		}
	}
}

// P9.6 and P9.7

// poor answers two ends over a line of which this seed says how poor it is.
func poor(t *testing.T, seed, leastTimer int) *net {
	rnd := rand.New(rand.NewSource(int64(seed)))
	size := []int{1, 2, 3, 8, 20, 62, mostSize}[rnd.Intn(7)]
	n := joined(t, rnd, 0, 256, size, leastTimer+rnd.Intn(9), 1+rnd.Intn(4))
	n.lost = []int{0, 5, 20, 50, 80}[rnd.Intn(5)]
	n.doubled = []int{0, 10, 50}[rnd.Intn(3)]
	n.late = []int{0, 10, 30}[rnd.Intn(3)]
	n.delay = []int{0, 0, 2, mostDelay}[rnd.Intn(4)]
	return n
}

func TestWhatComesInIsWhatWasPushed(t *testing.T) {
	all := 0
	for seed := range 200 {
		n := poor(t, seed, 1)
		crashes := []int{0, 0, 30, 300}[seed%4]
		n.rounds(1500, func(s *side) {
			for range n.rnd.Intn(4) {
				n.push(s)
			}
			if n.rnd.Intn(40) == 0 {
				busy(t, s.Link, n.rnd.Intn(3) == 0)
			}
			if crashes > 0 && s.block < 100 && n.rnd.Intn(crashes) == 0 {
				n.crash(s)
			}
		})
		for _, s := range n.sides {
			all += s.total
		}
	}
	if all < 10000 {
		t.Errorf("only %d came in", all)
	}
}

func TestInTheEndAllComesIn(t *testing.T) {
	for seed := range 200 {
		n := poor(t, seed, 2*mostDelay+4) // else an end begins anew ahead of any answer
		crashes := []int{0, 30, 100}[seed%3]
		n.rounds(400, func(s *side) {
			for range n.rnd.Intn(3) {
				n.push(s)
			}
			if n.rnd.Intn(40) == 0 {
				busy(t, s.Link, n.rnd.Intn(2) == 0)
			}
			if crashes > 0 && s.block < 100 && n.rnd.Intn(crashes) == 0 {
				n.crash(s)
			}
		})
		n.lost, n.doubled, n.late = 0, 0, 0
		for _, s := range n.sides {
			busy(t, s.Link, false)
		}
		settle := (n.tries + 3) * (n.timer + 2*n.delay + 2)
		n.rounds(4*settle, nil)
		for _, s := range n.sides { // that it is not busy any more may have been lost, and nobody need ask for it again
			busy(t, s.Link, true)
			busy(t, s.Link, false)
		}
		n.rounds(4*settle, nil)
		n.bothUp()
		var first [2]int
		for i, s := range n.sides {
			first[i] = s.pushed
		}
		n.rounds(100, func(s *side) { n.push(s) })
		n.rounds(80*(n.timer+2*n.delay+2), nil)
		n.bothUp()
		for i, s := range n.sides {
			o := n.sides[1-i]
			if o.pushed == first[1-i] || s.came != o.pushed-1 || o.Pending() != 0 {
				t.Fatalf("seed %d: pushed up to %d, then up to %d; the last that came in is %d, pending %d", seed, first[1-i], o.pushed, s.came, o.Pending())
			}
		}
	}
}

// All of a size's numbers are on their way, and any one is lost: it alone is asked for, and all comes in.
func TestOneIsLost(t *testing.T) {
	for _, size := range []int{1, 2, 9, mostSize} {
		for lost := range size {
			n := joined(t, rand.New(rand.NewSource(1)), 1, 7, size, mostTimer, 2)
			n.rounds(2, nil)
			a, b := n.sides[0], n.sides[1]
			for range size {
				n.push(a)
			}
			n.goesOut()
			a.way = append(a.way[:lost:lost], a.way[lost+1:]...)
			n.comesIn()
			sent := b.Out()
			asked := 0
			for _, c := range sent {
				if c.Kind == api.CSREJ {
					asked++
					if c.NR != lost {
						t.Errorf("%d is asked for", c.NR)
					}
				}
				get(t, a.Link, c)
			}
			if last := lost == size-1; asked == 0 != last || asked > 1 {
				t.Errorf("size %d, %d lost: %d asked for", size, lost, asked)
			}
			n.rounds(mostTimer+2, nil)
			if b.came != size-1 || a.Pending() != 0 {
				t.Errorf("size %d, %d lost: the last that came in is %d", size, lost, b.came)
			}
		}
	}
}

// P9.8

func TestAControlOfAnotherPair(t *testing.T) {
	for _, pair := range others(mine, other) {
		for _, nr := range []int{0, 1, 2, 3} {
			for _, c := range inPairs(nr) {
				c = between(pair[0], pair[1], c)

				l := laden(t, 3, 5, 2, 6) // it is up
				get(t, l, from(ci(1, 0, []byte("y"))))
				l.Out()
				ticks(t, l, 2)
				get(t, l, c)
				is(t, l, true, mine, other, 1, 6)
				sends(t, l)
				comesIn(t, l)
				sendsAt(t, l, 3, polled(to(ci(0, 0, onePayload(0)))))
				get(t, l, from(rr(1)))
				sends(t, l, to(ci(3, 0, onePayload(3))))
				get(t, l, from(ci(0, 1, []byte("w"))))
				sends(t, l, to(rr(2)))
				comesIn(t, l, []byte("w"), []byte("y"))

				for _, known := range []bool{false, true} { // it is not up
					l = made(t, mine, 3, 5, 2)
					peer, resets := -1, 0
					if known {
						get(t, l, sabme(other))
						peer, resets = other, 1
					}
					l.Out()
					ticks(t, l, 2)
					get(t, l, c)
					is(t, l, false, mine, peer, resets, 0)
					sends(t, l, dm(mine, c.Me))
					comesIn(t, l)
					sendsAt(t, l, 3, polled(sabme(mine)))
				}
			}
		}
	}
}

func TestNobodyIsThePeerOfAnEndThatKnowsNone(t *testing.T) {
	for _, me := range []int{0, mine, mostNumber} {
		l := made(t, mine, 3, 5, 2)
		l.Out()
		get(t, l, between(me, mine, ci(0, 0, []byte("x"))))
		is(t, l, false, mine, -1, 0, 0)
		sends(t, l, dm(mine, me))
		comesIn(t, l)
	}
}

// What was on its way when an end began anew is of no use to either end.
func TestWhatIsLateFromAnEndThatHasBegunAnew(t *testing.T) {
	n := joined(t, rand.New(rand.NewSource(1)), 0, 256, 4, 3, 2)
	n.rounds(3, nil)
	a, b := n.sides[0], n.sides[1]
	for range 6 {
		n.push(a)
		n.push(b)
	}
	old := a.Out()
	answers := b.Out()
	n.crash(a)
	for _, c := range answers { // they were meant for the one that is gone
		get(t, a.Link, c)
	}
	comesIn(t, a.Link)
	is(t, a.Link, false, 512, -1, 0, 0)
	sent := a.Out()
	if len(sent) != 1+len(answers) || sent[0].Kind != api.CSABME {
		t.Fatalf("%+v", sent)
	}
	get(t, b.Link, sent[0])
	b.Out()
	is(t, b.Link, true, 256, 512, 2, 0)
	for _, c := range old { // they are from the one that is gone
		get(t, b.Link, c)
	}
	comesIn(t, b.Link)
	sends(t, b.Link)
	is(t, b.Link, true, 256, 512, 2, 0)
	for _, c := range sent[1:] { // they are meant for the right one: it begins anew, once
		get(t, b.Link, c)
	}
	is(t, b.Link, true, 256, 512, 2, 0)
	n.rounds(20, nil)
	n.bothUp()
}
