package hop_test

import (
	"fmt"
	"math"
	"slices"
	"strings"
	"testing"

	"portage/api"
	"portage/hop"
)

// P20.2

func TestNew(t *testing.T) {
	for _, wait := range []int{1, 2, 33, longest - 1, longest} {
		d := desk(t, wait)
		free(t, d, pool...)
		for n := -1; n <= nodes; n++ {
			offered(t, d, n)
			answers(t, d, reset(n), "0")
		}
		// what is refused waits so many ticks
		answers(t, d, plan(ms("1>3:1.1"), by(3, 2), []int{2}), "2/0 1>3:1.1 a")
		yes(t, d, refuse(2, 0, "1>3:1.1"))
		waits(t, d, "1>3:1.1", wait)
	}
}

func TestNewOfAWaitOutOfRange(t *testing.T) {
	for _, wait := range append([]int{0, longest + 1, longest + 2, 128, 255, 256, 257}, beyond...) {
		if d, e := hop.New(wait); d != nil || e != api.ErrRange {
			t.Fatalf("New(%d): %v, %d", wait, d, e)
		}
	}
}

func TestPlan(t *testing.T) {
	d := desk(t, 5)
	held := ms("1>3:1.1", "0>4:1.1", "1>3:1.2", "2>5:1.1")
	answers(t, d, plan(held, by(3, 2, 4, 0, 5, 6), []int{0, 2, 6}), "2/0 1>3:1.1 a, 0/1 0>4:1.1 b, 2/2 1>3:1.2 c, 6/3 2>5:1.1 d")
	offered(t, d, 0, "0>4:1.1")
	offered(t, d, 2, "1>3:1.1", "1>3:1.2")
	offered(t, d, 6, "2>5:1.1")
	// What is offered is not offered again; what is new is.
	answers(t, d, plan(held, by(3, 2, 4, 0, 5, 6), []int{0, 2, 6}), "")
	held = append(held, m("9>3:1.1", "new"))
	answers(t, d, plan(held, by(3, 6, 4, 6, 5, 2), []int{0, 2, 6}), "6/4 9>3:1.1 new")
	offered(t, d, 2, "1>3:1.1", "1>3:1.2")
	offered(t, d, 6, "2>5:1.1", "9>3:1.1")
}

// Offers come in the order in which the messages are held, not in that of their ids.
func TestPlanInOrder(t *testing.T) {
	names := slices.Clone(pool)
	for range 5 {
		var want []string
		for n, i := range names {
			want = append(want, fmt.Sprintf("2/%d %s %c", n, i, 'a'+n))
		}
		answers(t, desk(t, 1), plan(ms(names...), slices.Repeat([]int{2}, nodes), []int{2}), strings.Join(want, ", "))
		names = append(names[7:], names[:7]...)
		slices.Reverse(names[3:])
	}
}

func TestPlanOfNothing(t *testing.T) {
	make := func() *hop.Desk { return some(t) }
	leaves(t, make, plan(nil, by(3, 2), []int{2}), "")
	leaves(t, make, plan([]api.Msg{}, by(3, 2), []int{2}), "")
	leaves(t, desk0(t), plan(nil, nil, nil), "")
}

func desk0(t *testing.T) func() *hop.Desk {
	return func() *hop.Desk { return desk(t, 3) }
}

// some answers a desk on which several are offered to several, by various numbers and for various ticks, and some wait.
func some(t *testing.T) *hop.Desk {
	all := []int{0, 1, 2, 5, 6}
	return desk(t, 3,
		plan(ms("1>3:1.1", "0>4:1.1", "1>3:1.2"), by(3, 2, 4, 1), all), // 0 to 2, 1 to 1, 2 to 2
		ticks(10),
		plan(ms("2>5:1.1", "1>3:2.1", "0>3:1.1"), by(5, 5, 3, 6), all), // 3 to 5, 4 and 5 to 6
		back("0>3:1.1"),
		plan(ms("0>3:1.1", "9>3:1.1", "10>3:1.1"), by(3, 2), all), // 6, 7, 8 to 2
		refuse(2, 7, "9>3:1.1"),
		ticks(1),
		refuse(2, 8, "10>3:1.1"),
		ack(5, 3, "2>5:1.1"),
	)
}

func TestSome(t *testing.T) {
	d := some(t)
	offered(t, d, 1, "0>4:1.1")
	offered(t, d, 2, "0>3:1.1", "1>3:1.1", "1>3:1.2")
	offered(t, d, 5)
	offered(t, d, 6, "1>3:2.1")
	waits(t, d, "9>3:1.1", 2)
	waits(t, d, "10>3:1.1", 3)
	free(t, d, "2>5:1.1")
}

func TestPlanOfViaThatIsNotRight(t *testing.T) {
	held := ms(pool...)
	for _, n := range []int{0, 1, 2, nodes - 1, nodes + 1, nodes + 2, 2 * nodes, 256 + nodes, 1 << 16} {
		leaves(t, func() *hop.Desk { return some(t) }, plan(held, slices.Repeat([]int{2}, n), []int{2}), "")
	}
	leaves(t, func() *hop.Desk { return some(t) }, plan(held, nil, []int{2}), "")
	leaves(t, func() *hop.Desk { return some(t) }, plan(held, []int{}, []int{2}), "")
	// one less, whatever stands in the room behind its end
	leaves(t, func() *hop.Desk { return some(t) }, plan(held, slices.Repeat([]int{2}, nodes)[:nodes-1], []int{2}), "")
}

func TestPlanWithNobodyUp(t *testing.T) {
	for _, up := range [][]int{nil, {}, {3}, {1, 3, 63}, {-2}, {64}} {
		leaves(t, func() *hop.Desk { return some(t) }, plan(ms(pool...), slices.Repeat([]int{2}, nodes), up), "")
		leaves(t, func() *hop.Desk { return some(t) }, plan(ms(pool...), by(), up), "")
	}
}

func TestPlanOfADestThatIsNoNodes(t *testing.T) {
	for _, dest := range append([]int{nodes, nodes + 1, 127, 128, 255, 256, 256 + 3}, beyond...) {
		held := []api.Msg{{Id: api.Id{Origin: 1, Dest: dest, Epoch: 1, Counter: 1}, Data: []byte("x")}}
		leaves(t, func() *hop.Desk { return some(t) }, plan(held, slices.Repeat([]int{2}, nodes), []int{2}), "")
		// others beside it are offered, by the numbers that they would have without it
		held = append(held, m("0>5:1.1", "y"))
		d := some(t)
		answers(t, d, plan(held, slices.Repeat([]int{2}, nodes), []int{2}), "2/9 0>5:1.1 y")
		if d.Is(held[0].Id) || d.Waits(held[0].Id) != 0 {
			t.Fatalf("%+v is known", held[0].Id)
		}
	}
	for _, dest := range []int{0, 1, nodes - 1} {
		d := desk(t, 1)
		name := fmt.Sprintf("5>%d:1.1", dest)
		answers(t, d, plan(ms(name), by(dest, 2), []int{2}), fmt.Sprintf("2/0 %s a", name))
		answers(t, desk(t, 1), plan(ms(name), by((dest+1)%nodes, 2, (dest+nodes-1)%nodes, 2), []int{2}), "")
		offered(t, d, 2, name)
	}
}

// Each goes where via says of its own destination, if that one is up.
func TestPlanByVia(t *testing.T) {
	held := ms("1>0:1.1", "0>1:1.1", "0>2:1.1", "0>62:1.1", "0>63:1.1")
	answers(t, desk(t, 1), plan(held, by(0, 5, 1, 6, 2, 7, 62, 8, 63, 9), []int{9, 7, 5}), "5/0 1>0:1.1 a, 7/1 0>2:1.1 c, 9/2 0>63:1.1 e")
	answers(t, desk(t, 1), plan(held, by(0, 0, 1, 63, 2, 63, 62, 0, 63, 63), []int{0, 63}), "0/0 1>0:1.1 a, 63/1 0>1:1.1 b, 63/2 0>2:1.1 c, 0/3 0>62:1.1 d, 63/4 0>63:1.1 e")
	var via []int
	for dest := range nodes {
		via = append(via, nodes-1-dest)
	}
	for dest := range nodes {
		name := fmt.Sprintf("%d>%d:1.1", (dest+1)%nodes, dest)
		d := desk(t, 1)
		answers(t, d, plan(ms(name), via, slices.DeleteFunc(slices.Clone(via), func(n int) bool { return n == nodes-1-dest })), "")
		answers(t, d, plan(ms(name), via, []int{nodes - 1 - dest}), fmt.Sprintf("%d/0 %s a", nodes-1-dest, name))
		offered(t, d, nodes-1-dest, name)
	}
}

// Which neighbours are up may be told in any order, twice too.
func TestPlanWithUpInAnyOrder(t *testing.T) {
	for _, up := range [][]int{{1, 2, 3}, {3, 2, 1}, {2, 2, 2}, {2}, {70, -5, 2}, {math.MaxInt, 2, math.MinInt}} {
		answers(t, desk(t, 1), plan(ms("1>3:1.1"), by(3, 2), up), "2/0 1>3:1.1 a")
	}
}

// Whether via is among up is all that is asked of it.
func TestPlanByViaThatNamesNoNode(t *testing.T) {
	for _, n := range append([]int{nodes, nodes + 1, 255, 256, 258}, beyond...) {
		via := by(3, n)
		for _, up := range [][]int{nil, {2}, {2, 3, 63}, {0}} {
			leaves(t, func() *hop.Desk { return desk(t, 3) }, plan(ms("1>3:1.1"), via, up), "")
		}
		d := desk(t, 3)
		answers(t, d, plan(ms("1>3:1.1"), via, []int{2, n}), fmt.Sprintf("%d/0 1>3:1.1 a", n))
		offered(t, d, n, "1>3:1.1")
	}
}

func TestPlanOfTheSameIdTwice(t *testing.T) {
	d := desk(t, 3)
	held := []api.Msg{m("1>3:1.1", "first"), m("1>3:1.2", "other"), m("1>3:1.1", "second"), m("1>3:1.1", "first")}
	answers(t, d, plan(held, by(3, 2), []int{2}), "2/0 1>3:1.1 first, 2/1 1>3:1.2 other")
	offered(t, d, 2, "1>3:1.1", "1>3:1.2")
	answers(t, d, plan(held, by(3, 2), []int{2}), "")
	answers(t, d, plan(ms("9>3:1.1"), by(3, 2), []int{2}), "2/2 9>3:1.1 a")
	yes(t, d, ack(2, 0, "1>3:1.1"))
	answers(t, d, plan(held[2:], by(3, 2), []int{2}), "2/3 1>3:1.1 second")
}

// Ids that differ in one number are unlike.
func TestPlanOfIdsThatDifferInOneNumber(t *testing.T) {
	names := []string{"1>3:1.1", "2>3:1.1", "1>4:1.1", "1>3:2.1", "1>3:1.2"}
	d := desk(t, 3)
	answers(t, d, plan(ms(names...), by(3, 2, 4, 2), []int{2}), "2/0 1>3:1.1 a, 2/1 2>3:1.1 b, 2/2 1>4:1.1 c, 2/3 1>3:2.1 d, 2/4 1>3:1.2 e")
	for n, i := range names {
		for k, other := range names {
			if n != k {
				no(t, d, ack(2, n, other), refuse(2, n, other))
			}
		}
		is(t, d, names[n:]...)
		yes(t, d, ack(2, n, i))
		free(t, d, names[:n+1]...)
	}
}

// Plan asks no more of a message than its Dest.
func TestPlanOfMessagesThatAreNotRight(t *testing.T) {
	d := desk(t, 3)
	held := []api.Msg{{Id: api.Id{}}, {Id: id("3>3:0.0"), Data: []byte{}}, {Id: id("64>3:65536.-1"), Data: make([]byte, payload+1)}}
	out := d.Plan(held, by(0, 2, 3, 2), []int{2})
	if len(out) != 3 {
		t.Fatalf("%+v", out)
	}
	for n, o := range out {
		if o.To != 2 || o.N != n || o.Msg.Id != held[n].Id || string(o.Msg.Data) != string(held[n].Data) {
			t.Fatalf("%+v", o)
		}
		is(t, d, text(o.Msg.Id))
	}
	yes(t, d, ack(2, 0, "0>0:0.0"), refuse(2, 1, "3>3:0.0"), back("64>3:65536.-1"))
}

// What was acked, taken back or reset can be offered at once, what was refused not till it has waited.
func TestPlanAgain(t *testing.T) {
	const i = "1>3:1.1"
	held := ms(i)
	again := plan(held, by(3, 2), []int{2})
	for _, c := range []call{ack(2, 0, i), back(i), reset(2)} {
		d := desk(t, 3, again)
		c.do(d)
		free(t, d, i)
		answers(t, d, again, "2/1 1>3:1.1 a")
		offered(t, d, 2, i)
	}
	d := desk(t, 3, again)
	yes(t, d, refuse(2, 0, i))
	for n := 3; n > 0; n-- {
		waits(t, d, i, n)
		answers(t, d, again, "")
		answers(t, d, plan(held, by(3, 5), []int{5}), "")
		waits(t, d, i, n)
		passes(t, d, 1)
	}
	free(t, d, i)
	answers(t, d, plan(held, by(3, 5), []int{5}), "5/1 1>3:1.1 a")
}

// A message that is not offered, as its next hop is not up, uses up no number.
func TestNumbersOfOffers(t *testing.T) {
	d := desk(t, 3)
	answers(t, d, plan(ms("1>4:1.1", "1>3:1.1", "1>5:1.1", "1>3:1.2"), by(3, 2, 4, 6), []int{2}), "2/0 1>3:1.1 b, 2/1 1>3:1.2 d")
	answers(t, d, plan(ms("1>4:1.1", "1>3:1.1"), by(3, 2, 4, 6), []int{2}), "")
	answers(t, d, plan(ms("1>4:1.1", "1>3:1.1"), by(3, 2, 4, 6), []int{2, 6}), "6/2 1>4:1.1 a")
	passes(t, d, longest)
	answers(t, d, plan(ms("1>4:1.1", "1>3:1.1"), by(3, 2, 4, 6), []int{2, 6}), "6/3 1>4:1.1 a, 2/4 1>3:1.1 b")
	// another desk has its own numbers
	answers(t, desk(t, 3), plan(ms("1>4:1.1"), by(4, 6), []int{6}), "6/0 1>4:1.1 a")
}

// 0 follows MaxNumber: in one Plan, and over many of them.
func TestNumbersGoRound(t *testing.T) {
	var held []api.Msg
	for n := range last + 3 {
		held = append(held, api.Msg{Id: api.Id{Origin: 1, Dest: 3, Epoch: 1 + n/last, Counter: 1 + n%last}, Data: []byte{byte(n)}})
	}
	d := desk(t, 3)
	out := d.Plan(held, by(3, 2), []int{2})
	if len(out) != last+3 {
		t.Fatalf("%d", len(out))
	}
	for n, o := range out {
		if o.N != n%65536 || o.To != 2 || o.Msg.Id != held[n].Id || len(o.Msg.Data) != 1 || o.Msg.Data[0] != byte(n) {
			t.Fatalf("%d: %+v", n, o)
		}
	}
	answers(t, d, plan(ms("9>3:1.1"), by(3, 5), []int{5}), "5/2 9>3:1.1 a")
	// a number tells a message beside its id alone
	yes(t, d, ack(2, 0, text(held[0].Id)), ack(2, 0, text(held[65536].Id)), ack(2, last, text(held[last].Id)))
	no(t, d, ack(2, 65537, text(held[65537].Id)))
	yes(t, d, ack(2, 1, text(held[65537].Id)), ack(2, 1, text(held[1].Id)))
	if got := d.Reset(2); got != last+3-5 {
		t.Fatalf("%d", got)
	}

	d = desk(t, 3)
	again, i := plan(ms("1>3:1.1"), by(3, 2), []int{2}), "1>3:1.1"
	for n := range 2*65536 + 3 {
		answers(t, d, again, fmt.Sprintf("2/%d 1>3:1.1 a", n%65536))
		if n%2 == 0 {
			yes(t, d, back(i))
		} else {
			yes(t, d, ack(2, n%65536, i))
		}
	}
}

func TestExample(t *testing.T) {
	for _, wait := range []int{1, 2, longest} {
		d := desk(t, wait)
		again, i := plan(ms("1>3:1.1"), by(3, 2), []int{2}), "1>3:1.1"
		answers(t, d, again, "2/0 1>3:1.1 a")
		answers(t, d, again, "")
		no(t, d, refuse(1, 0, i))
		yes(t, d, refuse(2, 0, i))
		for range wait {
			answers(t, d, again, "")
			passes(t, d, 1)
		}
		answers(t, d, again, "2/1 1>3:1.1 a")
	}
}
