package hop_test

import (
	"bytes"
	"slices"
	"testing"

	"portage/api"
	"portage/hop"
)

// What is handed in is neither changed nor kept, and what is answered is new memory.

// roomy answers a list whose room goes on behind its end, and the whole of that room.
func roomy[T any](list []T, behind ...T) (short, whole []T) {
	whole = slices.Concat(list, behind)
	return whole[:len(list)], whole
}

// spoil writes over a list and the room behind its end.
func spoil[T any](list []T, with T) {
	list = list[:cap(list)]
	for i := range list {
		list[i] = with
	}
}

func TestWordsPutAreNotChanged(t *testing.T) {
	for _, h := range words() {
		data, wholeData := roomy(h.Msg.Data, []byte("behind")...)
		costs, wholeCosts := roomy(h.Costs, 7, 8, 9)
		wasData, wasCosts := slices.Clone(wholeData), slices.Clone(wholeCosts)
		h.Msg.Data, h.Costs = data, costs
		if e := hop.Check(h); e != api.OK {
			t.Fatal(e)
		}
		p, e := hop.Put(h)
		if e != api.OK {
			t.Fatal(e)
		}
		was := slices.Clone(p)
		_ = append(p, "more"...)
		spoil(p, '!')
		if !bytes.Equal(wholeData, wasData) || !slices.Equal(wholeCosts, wasCosts) {
			t.Fatalf("%q, %v", wholeData, wholeCosts)
		}
		other, _ := hop.Put(h)
		spoil(data, '?')
		spoil(costs, 1)
		if !bytes.Equal(other, was) {
			t.Fatalf("%v; not %v", other, was)
		}
	}
}

func TestRefusedWordsAreNotChanged(t *testing.T) {
	for _, h := range words() {
		data, wholeData := roomy(make([]byte, payload+1), []byte("behind")...)
		costs, wholeCosts := roomy(rising(nodes-1), 7, 8, 9)
		wasData, wasCosts := slices.Clone(wholeData), slices.Clone(wholeCosts)
		h.Msg.Data, h.Costs = data, costs
		if e := hop.Check(h); e == api.OK {
			t.Fatalf("%+v", h)
		}
		if p, e := hop.Put(h); e == api.OK || p != nil {
			t.Fatalf("%+v", h)
		}
		if !bytes.Equal(wholeData, wasData) || !slices.Equal(wholeCosts, wasCosts) {
			t.Fatalf("%q, %v", wholeData, wholeCosts)
		}
	}
}

func TestWordsReadAreNewMemory(t *testing.T) {
	for _, h := range words() {
		made, e := hop.Put(h)
		if e != api.OK {
			t.Fatal(e)
		}
		p, whole := roomy(made, []byte("behind")...)
		was := slices.Clone(whole)
		one, e := hop.Get(p)
		other, f := hop.Get(p)
		if e != api.OK || f != api.OK || !same(one, h) || !same(other, h) {
			t.Fatalf("%+v, %+v", one, other)
		}
		_ = append(one.Msg.Data, "more"...)
		_ = append(one.Costs, 1, 2, 3)
		spoil(one.Msg.Data, '!')
		spoil(one.Costs, -1)
		if !same(other, h) || !bytes.Equal(whole, was) {
			t.Fatalf("%+v, %q", other, whole)
		}
		spoil(whole, '?')
		if !same(other, h) {
			t.Fatalf("%+v", other)
		}
	}
	p, whole := roomy([]byte{1, 0, 0}, 1, 2, 0, 3, 0, 4, 'x')
	was := slices.Clone(whole)
	unread(t, p)
	p, _ = roomy([]byte{1, 0, 0, 1, 2, 0, 3, 0, 4}, 'x')
	unread(t, p)
	p, _ = roomy(append([]byte{4}, make([]byte, nodes-1)...), 0, 0)
	unread(t, p)
	if !bytes.Equal(whole, was) {
		t.Fatalf("%v", whole)
	}
}

// sameMsgs answers whether two lists of messages are the same.
func sameMsgs(a, b []api.Msg) bool {
	return slices.EqualFunc(a, b, func(x, y api.Msg) bool { return x.Id == y.Id && bytes.Equal(x.Data, y.Data) })
}

func cloned(list []api.Msg) []api.Msg {
	var out []api.Msg
	for _, x := range list {
		out = append(out, api.Msg{Id: x.Id, Data: bytes.Clone(x.Data)})
	}
	return out
}

func TestPlanChangesAndKeepsNothing(t *testing.T) {
	data, wholeData := roomy([]byte("data"), []byte("behind")...)
	held, wholeHeld := roomy([]api.Msg{{Id: id("1>3:1.1"), Data: data}, {Id: id("1>4:1.1"), Data: data}, {Id: id("1>3:1.2"), Data: data[:2]}}, m("9>3:1.1", "y"), m("9>4:1.1", "z"))
	via, wholeVia := roomy(by(3, 2, 4, 5), 2, 2, 2)
	up, wholeUp := roomy([]int{5, 2}, 6, 7)
	wasHeld, wasVia, wasUp := cloned(wholeHeld), slices.Clone(wholeVia), slices.Clone(wholeUp)
	d := desk(t, 3)
	out := d.Plan(held, via, up)
	const want = "2/0 1>3:1.1 data, 5/1 1>4:1.1 data, 2/2 1>3:1.2 da"
	if got := tell(out); got != want {
		t.Fatal(got)
	}
	free(t, d, "9>3:1.1", "9>4:1.1")
	alike := func() {
		t.Helper()
		if !sameMsgs(wholeHeld, wasHeld) || !slices.Equal(wholeVia, wasVia) || !slices.Equal(wholeUp, wasUp) || string(wholeData) != "databehind" {
			t.Fatalf("%v, %v, %v, %q", wholeHeld, wholeVia, wholeUp, wholeData)
		}
	}
	alike()
	// each offer's data are its own
	for n := range out {
		_ = append(out[n].Msg.Data, "more"...)
		was := tell(append(slices.Clone(out[:n]), out[n+1:]...))
		kept := slices.Clone(out[n].Msg.Data)
		spoil(out[n].Msg.Data, '!')
		if got := tell(append(slices.Clone(out[:n]), out[n+1:]...)); got != was {
			t.Fatalf("%s; not %s", got, was)
		}
		copy(out[n].Msg.Data, kept)
	}
	if got := tell(out); got != want {
		t.Fatal(got)
	}
	alike()
	spoil(wholeData, '?')
	spoil(wholeHeld, m("8>3:1.1", "w"))
	spoil(wholeVia, 9)
	spoil(wholeUp, 9)
	if got := tell(out); got != want {
		t.Fatal(got)
	}
	_ = append(out, api.Offer{To: 1})
	spoil(out, api.Offer{To: 9, N: 9, Msg: m("7>3:1.1", "v")})
	offered(t, d, 2, "1>3:1.1", "1>3:1.2")
	offered(t, d, 5, "1>4:1.1")
	offered(t, d, 9)
	free(t, d, "8>3:1.1", "7>3:1.1")
	no(t, d, ack(9, 9, "7>3:1.1"))
	yes(t, d, ack(2, 0, "1>3:1.1"), refuse(5, 1, "1>4:1.1"), ack(2, 2, "1>3:1.2"))
}

func TestPlanOfNothingChangesNothing(t *testing.T) {
	held, wholeHeld := roomy(ms("1>3:1.1"), ms("1>3:1.2", "1>3:1.3")...)
	via, wholeVia := roomy(slices.Repeat([]int{2}, nodes-1), 2, 2)
	up, wholeUp := roomy([]int{5}, 2)
	wasHeld, wasVia, wasUp := cloned(wholeHeld), slices.Clone(wholeVia), slices.Clone(wholeUp)
	d := desk(t, 3)
	for _, x := range []struct {
		d   *hop.Desk
		via []int
	}{{d, via}, {d, wholeVia[:nodes]}, {nil, wholeVia[:nodes]}} {
		if out := x.d.Plan(held, x.via, up); out != nil {
			t.Fatalf("%+v", out)
		}
	}
	if !sameMsgs(wholeHeld, wasHeld) || !slices.Equal(wholeVia, wasVia) || !slices.Equal(wholeUp, wasUp) {
		t.Fatalf("%v, %v, %v", wholeHeld, wholeVia, wholeUp)
	}
	free(t, d, "1>3:1.1", "1>3:1.2")
}

// What Plan answered can be handed to it again, or to another desk.
func TestPlanOfWhatWasOffered(t *testing.T) {
	d, other := desk(t, 3), desk(t, 3)
	out := d.Plan(ms("1>3:1.1", "1>3:1.2"), by(3, 2), []int{2})
	held := []api.Msg{out[1].Msg, out[0].Msg}
	again := other.Plan(held, by(3, 5), []int{5})
	spoil(out[0].Msg.Data, '!')
	spoil(out[1].Msg.Data, '!')
	if got := tell(again); got != "5/0 1>3:1.2 b, 5/1 1>3:1.1 a" {
		t.Fatal(got)
	}
	offered(t, d, 2, "1>3:1.1", "1>3:1.2")
	offered(t, other, 5, "1>3:1.1", "1>3:1.2")
	yes(t, other, ack(5, 0, "1>3:1.2"))
	offered(t, d, 2, "1>3:1.1", "1>3:1.2")
	offered(t, d, 5)
}

func TestOfferedIsNewMemory(t *testing.T) {
	d := some(t)
	one, other := d.Offered(2), d.Offered(2)
	_ = append(one, id("9>9:9.9"))
	spoil(one, id("9>9:9.9"))
	want := []api.Id{id("0>3:1.1"), id("1>3:1.1"), id("1>3:1.2")}
	if !slices.Equal(other, want) {
		t.Fatalf("%v", other)
	}
	offered(t, d, 2, "0>3:1.1", "1>3:1.1", "1>3:1.2")
	free(t, d, "9>9:9.9")
	answers(t, d, reset(2), "3")
	if !slices.Equal(other, want) {
		t.Fatalf("%v", other)
	}
}

// Asking changes nothing.
func TestAskingChangesNothing(t *testing.T) {
	d := some(t)
	for range 3 {
		if a, b := look(d), look(some(t)); a != b {
			t.Fatalf("%s\nnot\n%s", a, b)
		}
	}
}

// Desks go their own ways.
func TestDesksShareNothing(t *testing.T) {
	one, other := some(t), some(t)
	was := look(other)
	reset(2).do(one)
	ticks(5).do(one)
	plan(ms(pool...), slices.Repeat([]int{4}, nodes), []int{4}).do(one)
	refuse(4, 9, "0>3:1.1").do(one)
	if got := look(other); got != was {
		t.Fatalf("%s\nnot\n%s", got, was)
	}
	answers(t, other, plan(ms("63>3:1.1"), by(3, 2), []int{2}), "2/9 63>3:1.1 a")
}
