package hop_test

import (
	"math"
	"slices"
	"testing"

	"portage/api"
	"portage/hop"
)

// P20.3

// one answers a desk on which 1>3:1.1 is offered to 2 by the number 0.
func one(t *testing.T) func() *hop.Desk {
	return func() *hop.Desk { return desk(t, 3, plan(ms("1>3:1.1"), by(3, 2), []int{2})) }
}

// waiting answers a desk on which 1>3:1.1 was refused so many ticks ago.
func waiting(t *testing.T, n int) func() *hop.Desk {
	return func() *hop.Desk {
		return desk(t, 3, plan(ms("1>3:1.1"), by(3, 2), []int{2}), refuse(2, 0, "1>3:1.1"), ticks(n))
	}
}

// An offer is one till MaxTimer ticks have passed.
func TestTickOfWhatIsOffered(t *testing.T) {
	const i = "1>3:1.1"
	again := plan(ms(i), by(3, 2), []int{2})
	for n := range longest {
		d := one(t)()
		passes(t, d, n)
		offered(t, d, 2, i)
		answers(t, d, again, "")
		yes(t, d, ack(2, 0, i))
	}
	d := one(t)()
	passes(t, d, longest-1)
	offered(t, d, 2, i)
	answers(t, d, again, "")
	passes(t, d, 1)
	offered(t, d, 2)
	free(t, d, i)
	no(t, d, ack(2, 0, i), refuse(2, 0, i), back(i))
	answers(t, d, reset(2), "0")
	answers(t, d, again, "2/1 1>3:1.1 a")
	// the new offer has its own ticks
	passes(t, d, longest-1)
	offered(t, d, 2, i)
	passes(t, d, 1)
	offered(t, d, 2)
	passes(t, d, 3)
	free(t, d, i)
	answers(t, d, again, "2/2 1>3:1.1 a")
}

// Offers of various ticks end each at its own.
func TestTickOfOffersOfVariousTicks(t *testing.T) {
	d := desk(t, 3)
	via, up := by(3, 2, 4, 1), []int{1, 2}
	answers(t, d, plan(ms("1>3:1.1"), via, up), "2/0 1>3:1.1 a")
	passes(t, d, 1)
	answers(t, d, plan(ms("1>4:1.1"), via, up), "1/1 1>4:1.1 a")
	passes(t, d, 20)
	answers(t, d, plan(ms("1>3:1.2", "1>3:1.1"), via, up), "2/2 1>3:1.2 a")
	passes(t, d, longest-22)
	offered(t, d, 2, "1>3:1.1", "1>3:1.2")
	passes(t, d, 1)
	offered(t, d, 2, "1>3:1.2")
	offered(t, d, 1, "1>4:1.1")
	passes(t, d, 1)
	offered(t, d, 1)
	answers(t, d, plan(ms("1>3:1.1"), via, up), "2/3 1>3:1.1 a")
	passes(t, d, 19)
	offered(t, d, 2, "1>3:1.1", "1>3:1.2")
	passes(t, d, 1)
	offered(t, d, 2, "1>3:1.1")
	passes(t, d, longest-21)
	offered(t, d, 2, "1>3:1.1")
	passes(t, d, 1)
	offered(t, d, 2)
}

// A desk on which ticks have passed counts an offer's ticks from the offer on.
func TestTicksAheadOfAnOffer(t *testing.T) {
	for _, n := range []int{1, longest - 1, longest, longest + 1, 1000, 70000} {
		d := desk(t, 2)
		passes(t, d, n)
		answers(t, d, plan(ms("1>3:1.1", "1>3:1.2"), by(3, 2), []int{2}), "2/0 1>3:1.1 a, 2/1 1>3:1.2 b")
		yes(t, d, refuse(2, 1, "1>3:1.2"))
		passes(t, d, 1)
		waits(t, d, "1>3:1.2", 1)
		passes(t, d, longest-2)
		offered(t, d, 2, "1>3:1.1")
		passes(t, d, 1)
		offered(t, d, 2)
	}
}

func TestTickOfWhatWaits(t *testing.T) {
	const i = "1>3:1.1"
	for _, wait := range []int{1, 2, 3, longest - 1, longest} {
		d := desk(t, wait, plan(ms(i), by(3, 2), []int{2}), ticks(5))
		yes(t, d, refuse(2, 0, i))
		for n := wait; n > 0; n-- {
			waits(t, d, i, n)
			offered(t, d, 2)
			answers(t, d, plan(ms(i), by(3, 2), []int{2}), "")
			passes(t, d, 1)
		}
		for range 3 {
			free(t, d, i)
			passes(t, d, 1)
		}
		answers(t, d, plan(ms(i), by(3, 2), []int{2}), "2/1 1>3:1.1 a")
		offered(t, d, 2, i)
	}
}

// Several wait, each its own ticks.
func TestTickOfSeveralThatWait(t *testing.T) {
	d := desk(t, 4, plan(ms("1>3:1.1", "1>3:1.2", "1>3:2.1"), by(3, 2), []int{2}))
	for n, i := range []string{"1>3:1.1", "1>3:1.2", "1>3:2.1"} {
		yes(t, d, refuse(2, n, i))
		passes(t, d, 1)
	}
	waits(t, d, "1>3:1.1", 1)
	waits(t, d, "1>3:1.2", 2)
	waits(t, d, "1>3:2.1", 3)
	passes(t, d, 1)
	answers(t, d, plan(ms("1>3:2.1", "1>3:1.2", "1>3:1.1"), by(3, 2), []int{2}), "2/3 1>3:1.1 c")
	passes(t, d, 1)
	answers(t, d, plan(ms("1>3:2.1", "1>3:1.2", "1>3:1.1"), by(3, 2), []int{2}), "2/4 1>3:1.2 b")
	passes(t, d, 1)
	answers(t, d, plan(ms("1>3:2.1", "1>3:1.2", "1>3:1.1"), by(3, 2), []int{2}), "2/5 1>3:2.1 a")
}

func TestAck(t *testing.T) {
	d := desk(t, 3, plan(ms("1>3:1.1", "1>3:1.2", "0>4:1.1"), by(3, 2, 4, 1), []int{1, 2}))
	yes(t, d, ack(2, 1, "1>3:1.2"))
	offered(t, d, 2, "1>3:1.1")
	offered(t, d, 1, "0>4:1.1")
	free(t, d, "1>3:1.2")
	// twice says nothing
	no(t, d, ack(2, 1, "1>3:1.2"), refuse(2, 1, "1>3:1.2"))
	yes(t, d, ack(1, 2, "0>4:1.1"), ack(2, 0, "1>3:1.1"))
	free(t, d, pool...)
	offered(t, d, 1)
	offered(t, d, 2)
}

func TestRefuse(t *testing.T) {
	d := desk(t, 3, plan(ms("1>3:1.1", "1>3:1.2", "0>4:1.1"), by(3, 2, 4, 1), []int{1, 2}))
	yes(t, d, refuse(2, 1, "1>3:1.2"))
	offered(t, d, 2, "1>3:1.1")
	offered(t, d, 1, "0>4:1.1")
	waits(t, d, "1>3:1.2", 3)
	passes(t, d, 1)
	// twice says nothing, and lets it wait no longer
	no(t, d, refuse(2, 1, "1>3:1.2"), ack(2, 1, "1>3:1.2"))
	waits(t, d, "1>3:1.2", 2)
	passes(t, d, 2)
	no(t, d, refuse(2, 1, "1>3:1.2"), ack(2, 1, "1>3:1.2"))
	free(t, d, "1>3:1.2")
	yes(t, d, refuse(1, 2, "0>4:1.1"))
	waits(t, d, "0>4:1.1", 3)
}

// An answer by another neighbour, by another number, or of another id says nothing.
func TestAnswersThatSayNothing(t *testing.T) {
	type answer struct {
		from, n int
		i       string
	}
	const i = "1>3:1.1"
	answersOf := []answer{
		{1, 0, i}, {3, 0, i}, {0, 0, i}, {-1, 0, i}, {66, 0, i}, {258, 0, i}, {2, 1, i}, {2, -1, i}, {2, last, i}, {2, last + 1, i}, {2, 1 << 32, i}, {2, math.MinInt, i}, {2, math.MaxInt, i},
		{math.MinInt, 0, i}, {math.MaxInt, 0, i}, {math.MaxInt, math.MaxInt, i}, {1<<32 + 2, 0, i}, {0, 2, i},
		{2, 0, "1>3:1.2"}, {2, 0, "1>3:2.1"}, {2, 0, "1>4:1.1"}, {2, 0, "2>3:1.1"}, {2, 0, "3>1:1.1"}, {2, 0, "0>0:0.0"}, {2, 0, "1>3:65537.1"}, {2, 0, "257>259:1.1"},
	}
	for _, a := range answersOf {
		leaves(t, one(t), ack(a.from, a.n, a.i), "false")
		leaves(t, one(t), refuse(a.from, a.n, a.i), "false")
	}
	for _, c := range []call{ack(2, 0, i), refuse(2, 0, i), ack(0, 0, i), refuse(0, 0, i), ack(2, 0, "0>0:0.0"), ack(0, 0, "0>0:0.0"), refuse(0, 0, "0>0:0.0")} {
		leaves(t, desk0(t), c, "false")
		for n := range 5 {
			leaves(t, waiting(t, n), c, "false")
		}
		leaves(t, func() *hop.Desk { return desk(t, 3, plan(ms(i), by(3, 2), []int{2}), back(i)) }, c, "false")
		leaves(t, func() *hop.Desk { return desk(t, 3, plan(ms(i), by(3, 2), []int{2}), reset(2)) }, c, "false")
		leaves(t, func() *hop.Desk { return desk(t, 3, plan(ms(i), by(3, 2), []int{2}), ack(2, 0, i)) }, c, "false")
		leaves(t, func() *hop.Desk { return desk(t, 3, plan(ms(i), by(3, 2), []int{2}), ticks(longest)) }, c, "false")
	}
}

// An answer to an elder offer says nothing, whoever gives it, and however that offer ended.
func TestAnswersToElderOffers(t *testing.T) {
	const i = "1>3:1.1"
	held := ms(i)
	ends := map[string][]call{
		"back": {back(i)}, "reset": {reset(2)}, "ack": {ack(2, 0, i)}, "refuse": {refuse(2, 0, i), ticks(3)}, "ticks": {ticks(longest)},
	}
	for name, calls := range ends {
		for _, to := range []int{2, 5} {
			make := func() *hop.Desk {
				d := desk(t, 3, plan(held, by(3, 2), []int{2}))
				for _, c := range calls {
					c.do(d)
				}
				plan(held, by(3, to), []int{to}).do(d)
				return d
			}
			offered(t, make(), to, i)
			for _, from := range []int{2, 5} {
				leaves(t, make, ack(from, 0, i), "false")
				leaves(t, make, refuse(from, 0, i), "false")
				leaves(t, make, ack(from, 2, i), "false")
				leaves(t, make, refuse(from, 2, i), "false")
				if from != to {
					leaves(t, make, ack(from, 1, i), "false")
					leaves(t, make, refuse(from, 1, i), "false")
				}
			}
			yes(t, make(), ack(to, 1, i))
			yes(t, make(), refuse(to, 1, i))
			if t.Failed() {
				t.Fatal(name)
			}
		}
	}
}

func TestBack(t *testing.T) {
	d := some(t)
	yes(t, d, back("1>3:1.2"))
	offered(t, d, 2, "0>3:1.1", "1>3:1.1")
	free(t, d, "1>3:1.2")
	no(t, d, back("1>3:1.2"), ack(2, 2, "1>3:1.2"), refuse(2, 2, "1>3:1.2"))
	answers(t, d, plan(ms("1>3:1.2"), by(3, 1), []int{1}), "1/9 1>3:1.2 a")
	yes(t, d, back("1>3:1.2"), back("0>4:1.1"))
	offered(t, d, 1)
	offered(t, d, 6, "1>3:2.1")
}

func TestBackOfWhatIsNotOffered(t *testing.T) {
	for _, i := range []string{"2>5:1.1", "5>2:1.1", "9>3:1.1", "10>3:1.1", "63>3:1.1", "0>0:0.0", "1>3:0.1", "1>67:1.1", "-1>3:1.1"} {
		leaves(t, func() *hop.Desk { return some(t) }, back(i), "false")
	}
	for n := range 5 {
		leaves(t, waiting(t, n), back("1>3:1.1"), "false")
	}
	leaves(t, desk0(t), back("1>3:1.1"), "false")
}

func TestReset(t *testing.T) {
	d := some(t)
	answers(t, d, reset(2), "3")
	offered(t, d, 2)
	free(t, d, "0>3:1.1", "1>3:1.1", "1>3:1.2")
	offered(t, d, 1, "0>4:1.1")
	offered(t, d, 6, "1>3:2.1")
	waits(t, d, "9>3:1.1", 2)
	waits(t, d, "10>3:1.1", 3)
	answers(t, d, reset(2), "0")
	no(t, d, ack(2, 0, "1>3:1.1"), ack(2, 2, "1>3:1.2"), ack(2, 6, "0>3:1.1"))
	answers(t, d, plan(ms("1>3:1.1", "0>4:1.1", "1>3:1.2"), by(3, 6, 4, 6), []int{6}), "6/9 1>3:1.1 a, 6/10 1>3:1.2 c")
	answers(t, d, reset(6), "3")
	answers(t, d, reset(1), "1")
	for n := range nodes {
		offered(t, d, n)
	}
	waits(t, d, "9>3:1.1", 2)
	waits(t, d, "10>3:1.1", 3)
}

// What waits was refused by a neighbour, but is not offered to it any more.
func TestResetOfANeighbourToWhomNothingIsOffered(t *testing.T) {
	for _, n := range append([]int{0, 3, 4, 5, 7, 63, 64, 66, 258}, beyond...) {
		leaves(t, func() *hop.Desk { return some(t) }, reset(n), "0")
	}
	for n := range 5 {
		leaves(t, waiting(t, n), reset(2), "0")
		leaves(t, waiting(t, n), reset(0), "0")
	}
	leaves(t, desk0(t), reset(0), "0")
}

// The ids come in the order of layer 13, in whatever order they were offered.
func TestOfferedInOrder(t *testing.T) {
	want := []string{
		"0>3:1.1", "0>4:1.1", "0>5:1.1", "0>63:1.1", "1>3:1.1", "1>3:1.2", "1>3:1.65535", "1>3:2.1", "1>3:65535.1", "1>4:1.1", "1>5:1.1", "2>3:1.1", "2>5:1.1", "3>0:1.1", "5>2:1.1", "9>3:1.1", "10>3:1.1", "63>3:1.1",
	}
	names := slices.Clone(pool)
	for range 8 {
		d := desk(t, 1, plan(ms(names...), slices.Repeat([]int{2}, nodes), []int{2}))
		offered(t, d, 2, want...)
		offered(t, d, 1)
		names = append(names[5:], names[:5]...)
		slices.Reverse(names[2:])
	}
	d := desk(t, 1)
	for n, i := range names {
		plan(ms(i), slices.Repeat([]int{n % 2}, nodes), []int{0, 1}).do(d)
	}
	for n := range 2 {
		var mine []string
		for _, i := range want {
			if slices.Index(names, i)%2 == n {
				mine = append(mine, i)
			}
		}
		offered(t, d, n, mine...)
	}
}

// Ids that are not right have their places in that order as well.
func TestOfferedOfIdsThatAreNotRight(t *testing.T) {
	d := desk(t, 1)
	plan(ms("1>3:1.1", "0>0:0.0", "-1>3:1.1", "64>3:1.1", "1>3:-1.1", "1>3:1.-1", "1>3:65536.0"), by(3, 2, 0, 2), []int{2}).do(d)
	offered(t, d, 2, "-1>3:1.1", "0>0:0.0", "1>3:-1.1", "1>3:1.-1", "1>3:1.1", "1>3:65536.0", "64>3:1.1")
}

func TestIsAndWaitsOfWhatIsUnknown(t *testing.T) {
	for _, i := range []string{"1>3:1.1", "0>0:0.0", "-1>-1:-1.-1", "64>64:65536.65536", "1>2:3.4"} {
		free(t, desk(t, 1), i)
		free(t, waiting(t, 3)(), i)
	}
	d := some(t)
	free(t, d, "2>5:1.1", "1>3:1.3", "1>3:3.1", "1>2:1.1", "3>3:1.1", "0>0:0.0")
	is(t, d, "0>4:1.1", "0>3:1.1", "1>3:1.1", "1>3:1.2", "1>3:2.1")
}

func TestANilDesk(t *testing.T) {
	var d *hop.Desk
	if e := d.Tick(); e != api.ErrState {
		t.Fatalf("%d", e)
	}
	for _, i := range append([]string{"0>0:0.0", "-1>64:0.65536"}, pool...) {
		no(t, d, ack(0, 0, i), ack(2, 1, i), ack(-1, -1, i), refuse(0, 0, i), refuse(2, 1, i), refuse(math.MaxInt, math.MinInt, i), back(i))
		free(t, d, i)
	}
	for _, n := range append([]int{0, 1, 63}, beyond...) {
		if got := d.Offered(n); got != nil {
			t.Fatalf("%v", got)
		}
		answers(t, d, reset(n), "0")
	}
	for _, via := range [][]int{nil, by(), by(3, 2), slices.Repeat([]int{2}, nodes), slices.Repeat([]int{2}, nodes+1)} {
		for _, up := range [][]int{nil, {2}, {-1}} {
			for _, held := range [][]api.Msg{nil, ms("1>3:1.1"), ms(pool...)} {
				if got := d.Plan(held, via, up); got != nil {
					t.Fatalf("%v", got)
				}
			}
		}
	}
	if e := d.Tick(); e != api.ErrState {
		t.Fatalf("%d", e)
	}
}
