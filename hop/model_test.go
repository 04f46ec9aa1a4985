package hop_test

import (
	"fmt"
	"math/rand"
	"slices"
	"testing"

	"portage/api"
	"portage/hop"
)

// An independent reading of the chapter: a list of what is offered, and one of what waits, each with its ticks.

type given struct {
	i             api.Id
	to, n, passed int
}

type resting struct {
	i    api.Id
	left int
}

type model struct {
	wait, made int
	offers     []given
	rests      []resting
}

func (m *model) at(i api.Id) int {
	return slices.IndexFunc(m.offers, func(x given) bool { return x.i == i })
}

func (m *model) waits(i api.Id) int {
	for _, x := range m.rests {
		if x.i == i {
			return x.left
		}
	}
	return 0
}

func (m *model) plan(held []api.Msg, via, up []int) []api.Offer {
	if len(via) != 64 {
		return nil
	}
	var out []api.Offer
	for _, x := range held {
		if x.Id.Dest < 0 || x.Id.Dest > 63 || m.at(x.Id) >= 0 || m.waits(x.Id) > 0 {
			continue
		}
		for _, n := range up {
			if n == via[x.Id.Dest] {
				out = append(out, api.Offer{To: n, N: m.made % 65536, Msg: x})
				m.offers = append(m.offers, given{i: x.Id, to: n, n: m.made % 65536})
				m.made++
				break
			}
		}
	}
	return out
}

func (m *model) tick() {
	var offers []given
	for _, x := range m.offers {
		x.passed++
		if x.passed < 64 {
			offers = append(offers, x)
		}
	}
	var rests []resting
	for _, x := range m.rests {
		x.left--
		if x.left > 0 {
			rests = append(rests, x)
		}
	}
	m.offers, m.rests = offers, rests
}

// end takes those offers off that which picks, and tells how many those are.
func (m *model) end(which func(given) bool) int {
	n := len(m.offers)
	m.offers = slices.DeleteFunc(m.offers, which)
	return n - len(m.offers)
}

func (m *model) answer(from, n int, i api.Id) bool {
	return m.end(func(x given) bool { return x.i == i && x.to == from && x.n == n }) == 1
}

func (m *model) refuse(from, n int, i api.Id) bool {
	if !m.answer(from, n, i) {
		return false
	}
	m.rests = append(m.rests, resting{i, m.wait})
	return true
}

func (m *model) offered(n int) []string {
	var ids []api.Id
	for _, x := range m.offers {
		if x.to == n {
			ids = append(ids, x.i)
		}
	}
	slices.SortFunc(ids, func(a, b api.Id) int {
		return slices.Compare([]int{a.Origin, a.Dest, a.Epoch, a.Counter}, []int{b.Origin, b.Dest, b.Epoch, b.Counter})
	})
	var out []string
	for _, i := range ids {
		out = append(out, text(i))
	}
	return out
}

// names are the ids of random calls; most of them are right.
var names = []string{"0>3:1.1", "0>3:1.2", "1>3:1.1", "1>4:1.1", "2>4:2.1", "2>5:1.7", "4>0:1.1", "5>1:65535.9", "0>64:1.1", "0>-1:1.1", "7>7:0.0"}

func someName(r *rand.Rand) string {
	return names[r.Intn(len(names))]
}

// someHeld answers some of the names' messages, in any order, some of them twice.
func someHeld(r *rand.Rand) []api.Msg {
	var out []api.Msg
	for range r.Intn(12) {
		data := make([]byte, r.Intn(5))
		r.Read(data)
		out = append(out, api.Msg{Id: id(someName(r)), Data: data})
	}
	return out
}

func someVia(r *rand.Rand) []int {
	n := nodes
	if r.Intn(15) == 0 {
		n = []int{0, nodes - 1, nodes + 1}[r.Intn(3)]
	}
	out := make([]int, n)
	for i := range out {
		out[i] = r.Intn(7) - 1
	}
	return out
}

func someUp(r *rand.Rand) []int {
	var out []int
	for range r.Intn(6) {
		out = append(out, r.Intn(6))
	}
	return out
}

// someAnswer answers what an answer says: mostly what is offered, or nearly that.
func someAnswer(r *rand.Rand, m *model) (from, n int, i api.Id) {
	if len(m.offers) == 0 || r.Intn(4) == 0 {
		return r.Intn(7) - 1, r.Intn(m.made + 2), id(someName(r))
	}
	x := m.offers[r.Intn(len(m.offers))]
	switch r.Intn(12) {
	case 0:
		x.to = r.Intn(6)
	case 1:
		x.n = r.Intn(x.n + 2)
	case 2:
		x.n += []int{-1, 1, 65536}[r.Intn(3)]
	case 3:
		x.i = id(someName(r))
	}
	return x.to, x.n, x.i
}

// oneCall makes some call on both, and tells it, and what was answered.
func oneCall(r *rand.Rand, m *model, d *hop.Desk) (call, got, want string) {
	switch r.Intn(9) {
	case 0, 1, 2:
		held, via, up := someHeld(r), someVia(r), someUp(r)
		return "Plan", tell(d.Plan(held, via, up)), tell(m.plan(held, via, up))
	case 3:
		n := []int{1, 1, 1, 2, 5, 20, 63, 64}[r.Intn(8)]
		for range n {
			m.tick()
		}
		return "Tick", ticks(n).do(d), "OK"
	case 4:
		from, n, i := someAnswer(r, m)
		return "Ack", fmt.Sprint(d.Ack(from, n, i)), fmt.Sprint(m.answer(from, n, i))
	case 5, 6:
		from, n, i := someAnswer(r, m)
		return "Refuse", fmt.Sprint(d.Refuse(from, n, i)), fmt.Sprint(m.refuse(from, n, i))
	case 7:
		i := id(someName(r))
		return "Back", fmt.Sprint(d.Back(i)), fmt.Sprint(m.end(func(x given) bool { return x.i == i }) > 0)
	default:
		n := r.Intn(8) - 1
		return "Reset", fmt.Sprint(d.Reset(n)), fmt.Sprint(m.end(func(x given) bool { return x.to == n }))
	}
}

// isLike asks that a desk tells what the model does.
func isLike(t *testing.T, d *hop.Desk, m *model) {
	t.Helper()
	for n := -1; n <= 6; n++ {
		offered(t, d, n, m.offered(n)...)
	}
	for _, i := range names {
		if d.Is(id(i)) != (m.at(id(i)) >= 0) || d.Waits(id(i)) != m.waits(id(i)) {
			t.Fatalf("%s: %t, %d; not %t, %d", i, d.Is(id(i)), d.Waits(id(i)), m.at(id(i)) >= 0, m.waits(id(i)))
		}
	}
}

func TestRandomCalls(t *testing.T) {
	met := map[string]int{}
	for seed := range int64(240) {
		t.Run(fmt.Sprint(seed), func(t *testing.T) {
			r := rand.New(rand.NewSource(seed))
			m := &model{wait: []int{1, 2, 3, 10, longest}[r.Intn(5)]}
			d := desk(t, m.wait)
			if seed%40 == 0 {
				nearTheEnd(d, m)
			}
			for range 100 {
				call, got, want := oneCall(r, m, d)
				if got != want {
					t.Fatalf("%s: %s; not %s", call, got, want)
				}
				met[call+" "+want]++
				isLike(t, d, m)
			}
			if m.made > last+1 {
				met["numbers that went round"]++
			}
		})
	}
	for _, x := range []string{"Ack true", "Ack false", "Refuse true", "Refuse false", "Back true", "Back false", "Reset 0", "Reset 1", "Reset 2", "Reset 3"} {
		if met[x] < 20 {
			t.Errorf("%s came just %d times", x, met[x])
		}
	}
	if n := met["numbers that went round"]; n < 3 {
		t.Errorf("numbers went round just %d times", n)
	}
}

// nearTheEnd uses up nearly all numbers, so that 0 comes again.
func nearTheEnd(d *hop.Desk, m *model) {
	var held []api.Msg
	for n := range last - 10 {
		held = append(held, api.Msg{Id: api.Id{Origin: 9, Dest: 3, Epoch: 1, Counter: 1 + n}})
	}
	d.Plan(held, by(3, 5), []int{5})
	d.Reset(5)
	m.made += len(held)
}

// The same calls make desks that answer the same.
func TestAnswersHangOnCallsAlone(t *testing.T) {
	for seed := range int64(10) {
		run := func() *hop.Desk {
			r := rand.New(rand.NewSource(seed))
			m := &model{wait: 1 + r.Intn(10)}
			d := desk(t, m.wait)
			for range 60 {
				oneCall(r, m, d)
			}
			return d
		}
		if one, other := everything(run), everything(run); one != other {
			t.Fatalf("seed %d:\n%s\nnot\n%s", seed, one, other)
		}
	}
}
