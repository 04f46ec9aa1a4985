package hop_test

import (
	"bytes"
	"fmt"
	"math"
	"slices"
	"strings"
	"testing"

	"portage/api"
	"portage/hop"
)

const (
	nodes   = 64    // MaxNodes
	far     = 16    // Infinity
	longest = 64    // MaxTimer: of a wait, and of an offer
	last    = 65535 // MaxNumber
	payload = 48    // MaxPayload
)

// beyond are numbers that no node, no offer and no wait has.
var beyond = []int{math.MinInt, math.MinInt32, -65536, -65, -2, -1, 65536, 65537, 1 << 31, 1 << 32, math.MaxInt - 1, math.MaxInt}

// id answers the id of a text.
func id(text string) (i api.Id) {
	if n, err := fmt.Sscanf(text, "%d>%d:%d.%d", &i.Origin, &i.Dest, &i.Epoch, &i.Counter); n != 4 || err != nil {
		panic(text)
	}
	return i
}

func text(i api.Id) string {
	return fmt.Sprintf("%d>%d:%d.%d", i.Origin, i.Dest, i.Epoch, i.Counter)
}

// m answers a message.
func m(name, data string) api.Msg {
	return api.Msg{Id: id(name), Data: []byte(data)}
}

// ms answers messages of these names, whose data are their places' letters.
func ms(names ...string) []api.Msg {
	var out []api.Msg
	for n, name := range names {
		out = append(out, m(name, string(rune('a'+n%26))))
	}
	return out
}

// by answers next hops, by pairs of a destination and its next hop; all other ones have none.
func by(pairs ...int) []int {
	out := slices.Repeat([]int{-1}, nodes)
	for p := range slices.Chunk(pairs, 2) {
		out[p[0]] = p[1]
	}
	return out
}

// call is a call on a desk, and its answer as a text.
type call struct {
	text string
	do   func(*hop.Desk) string
}

func plan(held []api.Msg, via, up []int) call {
	return call{fmt.Sprintf("Plan of %d", len(held)), func(d *hop.Desk) string { return tell(d.Plan(held, via, up)) }}
}

func ticks(n int) call {
	return call{fmt.Sprintf("%d ticks", n), func(d *hop.Desk) string {
		for range n {
			if e := d.Tick(); e != api.OK {
				return e.Error()
			}
		}
		return "OK"
	}}
}

func ack(from, n int, i string) call {
	return call{fmt.Sprintf("Ack(%d, %d, %s)", from, n, i), func(d *hop.Desk) string { return fmt.Sprint(d.Ack(from, n, id(i))) }}
}

func refuse(from, n int, i string) call {
	return call{fmt.Sprintf("Refuse(%d, %d, %s)", from, n, i), func(d *hop.Desk) string { return fmt.Sprint(d.Refuse(from, n, id(i))) }}
}

func back(i string) call {
	return call{fmt.Sprintf("Back(%s)", i), func(d *hop.Desk) string { return fmt.Sprint(d.Back(id(i))) }}
}

func reset(n int) call {
	return call{fmt.Sprintf("Reset(%d)", n), func(d *hop.Desk) string { return fmt.Sprint(d.Reset(n)) }}
}

// tell tells offers: to whom, by which number, the id, the data.
func tell(offers []api.Offer) string {
	var out []string
	for _, o := range offers {
		out = append(out, fmt.Sprintf("%d/%d %s %s", o.To, o.N, text(o.Msg.Id), o.Msg.Data))
	}
	return strings.Join(out, ", ")
}

// desk answers a desk behind these calls, whatever they answer.
func desk(t *testing.T, wait int, calls ...call) *hop.Desk {
	t.Helper()
	d, e := hop.New(wait)
	if e != api.OK || d == nil {
		t.Fatalf("New(%d): %v, %d", wait, d, e)
	}
	for _, c := range calls {
		c.do(d)
	}
	return d
}

// answers asks for what a call answers.
func answers(t *testing.T, d *hop.Desk, c call, want string) {
	t.Helper()
	if got := c.do(d); got != want {
		t.Fatalf("%s: %s; not %s", c.text, got, want)
	}
}

// yes makes calls that answer true.
func yes(t *testing.T, d *hop.Desk, calls ...call) {
	t.Helper()
	for _, c := range calls {
		answers(t, d, c, "true")
	}
}

// no makes calls that answer false.
func no(t *testing.T, d *hop.Desk, calls ...call) {
	t.Helper()
	for _, c := range calls {
		answers(t, d, c, "false")
	}
}

// passes lets ticks pass.
func passes(t *testing.T, d *hop.Desk, n int) {
	t.Helper()
	answers(t, d, ticks(n), "OK")
}

// offered asks for what is offered to a neighbour.
func offered(t *testing.T, d *hop.Desk, n int, want ...string) {
	t.Helper()
	var got []string
	for _, i := range d.Offered(n) {
		got = append(got, text(i))
	}
	if !slices.Equal(got, want) {
		t.Fatalf("Offered(%d): %v; not %v", n, got, want)
	}
	for _, i := range want {
		is(t, d, i)
	}
}

// is asks that ids are offered.
func is(t *testing.T, d *hop.Desk, names ...string) {
	t.Helper()
	for _, i := range names {
		if !d.Is(id(i)) || d.Waits(id(i)) != 0 {
			t.Fatalf("%s: Is %t, Waits %d; it is offered", i, d.Is(id(i)), d.Waits(id(i)))
		}
	}
}

// waits asks that an id is not offered, and waits so many ticks.
func waits(t *testing.T, d *hop.Desk, i string, n int) {
	t.Helper()
	if d.Is(id(i)) || d.Waits(id(i)) != n {
		t.Fatalf("%s: Is %t, Waits %d; it waits %d", i, d.Is(id(i)), d.Waits(id(i)), n)
	}
}

// free asks that nothing is known of ids.
func free(t *testing.T, d *hop.Desk, names ...string) {
	t.Helper()
	for _, i := range names {
		waits(t, d, i, 0)
	}
}

// pool are the ids that the tests' desks know of.
var pool = []string{
	"0>3:1.1", "0>4:1.1", "0>5:1.1", "1>3:1.1", "1>3:1.2", "1>3:1.65535", "1>3:2.1", "1>3:65535.1", "1>4:1.1", "1>5:1.1", "2>3:1.1", "9>3:1.1", "10>3:1.1", "63>3:1.1", "3>0:1.1", "0>63:1.1", "5>2:1.1", "2>5:1.1",
}

// look tells all that can be asked of a desk without a change.
func look(d *hop.Desk) string {
	var b strings.Builder
	for n := -2; n < nodes+2; n++ {
		if l := d.Offered(n); len(l) > 0 {
			fmt.Fprintln(&b, "offered to", n, l)
		}
	}
	for _, i := range pool {
		if d.Is(id(i)) || d.Waits(id(i)) != 0 {
			fmt.Fprintln(&b, i, d.Is(id(i)), d.Waits(id(i)))
		}
	}
	return b.String()
}

// numbers tells by which number each id of the pool is offered, by asking with Ack; nothing of it is offered then.
func numbers(d *hop.Desk) string {
	var b strings.Builder
	for _, i := range pool {
		for to := range 8 {
			for n := range 20 {
				if d.Ack(to, n, id(i)) {
					fmt.Fprintln(&b, i, to, n)
				}
			}
		}
	}
	return b.String()
}

// everything tells what a desk is and what it comes to: now, and so many ticks later.
func everything(make func() *hop.Desk) string {
	var b strings.Builder
	d := make()
	for n := range longest + 2 {
		fmt.Fprintln(&b, n, look(d))
		d.Tick()
	}
	fmt.Fprint(&b, numbers(make()))
	via := slices.Repeat([]int{7}, nodes)
	for _, n := range []int{0, 1, 2, 5, longest - 1, longest} {
		d := make()
		ticks(n).do(d)
		fmt.Fprintln(&b, n, plan(ms(pool...), via, []int{7}).do(d), look(d))
		fmt.Fprintln(&b, plan(ms("1>2:7.7"), via, []int{7}).do(d))
	}
	return b.String()
}

// leaves asks that a call answers want on a desk that make makes, and that the desk is as it was.
func leaves(t *testing.T, make func() *hop.Desk, c call, want string) {
	t.Helper()
	asked := func() *hop.Desk {
		d := make()
		answers(t, d, c, want)
		return d
	}
	if a, l := everything(asked), everything(make); a != l {
		t.Fatalf("%s changed the desk:\n%s\nnot\n%s", c.text, a, l)
	}
}

// offer answers an offer as a word; acked, refused and routes answer the other kinds.
func offer(n int, x api.Msg) api.Hop {
	return api.Hop{Kind: api.HOffer, N: n, Msg: x}
}

func acked(n int, i string) api.Hop {
	return api.Hop{Kind: api.HAck, N: n, Msg: api.Msg{Id: id(i)}}
}

func refused(n int, i string) api.Hop {
	return api.Hop{Kind: api.HRefuse, N: n, Msg: api.Msg{Id: id(i)}}
}

func routes(costs []int) api.Hop {
	return api.Hop{Kind: api.HRoutes, Costs: costs}
}

// rising answers n costs from 0 to 16, again and again.
func rising(n int) []int {
	var out []int
	for i := range n {
		out = append(out, i%(far+1))
	}
	return out
}

// same answers whether two words are the same one; a list without elements is nil's like.
func same(a, b api.Hop) bool {
	return a.Kind == b.Kind && a.N == b.N && a.Msg.Id == b.Msg.Id && bytes.Equal(a.Msg.Data, b.Msg.Data) && slices.Equal(a.Costs, b.Costs)
}

// zero answers whether a word is the zero one.
func zero(h api.Hop) bool {
	return same(h, api.Hop{}) && h.Msg.Data == nil && h.Costs == nil
}

// checks asks for what Check and Put answer of a word that is not right.
func checks(t *testing.T, h api.Hop, want api.Errno) {
	t.Helper()
	if e := hop.Check(h); e != want {
		t.Fatalf("Check of %+v: %d; not %d", h, e, want)
	}
	if p, e := hop.Put(h); e != want || p != nil {
		t.Fatalf("Put of %+v: %v, %d; not %d", h, p, e, want)
	}
}

// right asks that a word is right, and that these are its bytes.
func right(t *testing.T, h api.Hop, want []byte) {
	t.Helper()
	if e := hop.Check(h); e != api.OK {
		t.Fatalf("Check of %+v: %d", h, e)
	}
	p, e := hop.Put(h)
	if e != api.OK || !bytes.Equal(p, want) {
		t.Fatalf("Put of %+v: %v, %d; not %v", h, p, e, want)
	}
	if got, e := hop.Get(want); e != api.OK || !same(got, h) {
		t.Fatalf("Get of %v: %+v, %d; not %+v", want, got, e, h)
	}
}

// unread asks that bytes are no word's.
func unread(t *testing.T, p []byte) {
	t.Helper()
	if h, e := hop.Get(p); e != api.ErrForm || !zero(h) {
		t.Fatalf("Get of %v: %+v, %d; not %d", p, h, e, api.ErrForm)
	}
}
