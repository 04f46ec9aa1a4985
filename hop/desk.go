package hop

import (
	"bytes"
	"slices"
	"sort"

	"portage/api"
	"portage/msg"
)

// Desk knows which message was offered to whom, and which ones wait till they are offered again.
type Desk struct {
	wait   int // ticks, from a refusal on
	passed int // ticks
	next   int // the next offer's number
	known  map[api.Id]standing
}

// standing is what is known of an id: it is offered, or it waits. Of one that does neither nothing is known.
type standing struct {
	offered bool
	to      int // of one that is offered: the neighbour
	n       int // and the offer's number
	until   int // how many ticks have passed when nothing is known of it any more
}

// New answers a desk on which nothing is offered, and on which what is refused waits so many ticks.
func New(wait int) (*Desk, api.Errno) {
	if wait < 1 || wait > api.MaxTimer {
		return nil, api.ErrRange
	}
	return &Desk{wait: wait, known: map[api.Id]standing{}}, api.OK
}

// Plan offers to neighbours that are up what is held, is not offered and does not wait; via tells the next hop by destinations. It answers the offers.
func (d *Desk) Plan(held []api.Msg, via, up []int) []api.Offer {
	if d == nil || len(via) != api.MaxNodes {
		return nil
	}
	open := among(via, up)
	var out []api.Offer
	for _, m := range held {
		dest := m.Id.Dest
		if !isNode(dest) || !open[dest] {
			continue
		}
		if _, ok := d.known[m.Id]; !ok {
			out = append(out, d.offer(m, via[dest]))
		}
	}
	return out
}

func isNode(n int) bool {
	return n >= 0 && n < api.MaxNodes
}

// among answers, by destinations, whether the next hop is up.
func among(via, up []int) (out [api.MaxNodes]bool) {
	for dest := range out {
		out[dest] = slices.Contains(up, via[dest])
	}
	return out
}

// offer offers m to a neighbour from now on, by the next number.
func (d *Desk) offer(m api.Msg, to int) api.Offer {
	n := d.next
	d.next = (n + 1) % (api.MaxNumber + 1)
	d.known[m.Id] = standing{offered: true, to: to, n: n, until: d.passed + api.MaxTimer}
	return api.Offer{To: to, N: n, Msg: api.Msg{Id: m.Id, Data: bytes.Clone(m.Data)}}
}

// Tick lets a tick pass: offers that are too old are none any more, and who has waited waits no longer.
func (d *Desk) Tick() api.Errno {
	if d == nil {
		return api.ErrState
	}
	d.passed++
	for i, s := range d.known {
		if s.until <= d.passed {
			delete(d.known, i)
		}
	}
	return api.OK
}

// Ack answers whether i is offered to from by the number n, and takes note that it has taken over.
func (d *Desk) Ack(from, n int, i api.Id) bool {
	if !d.isOffered(from, n, i) {
		return false
	}
	delete(d.known, i)
	return true
}

// Refuse answers whether i is offered to from by the number n, and lets it wait.
func (d *Desk) Refuse(from, n int, i api.Id) bool {
	if !d.isOffered(from, n, i) {
		return false
	}
	d.known[i] = standing{until: d.passed + d.wait}
	return true
}

// isOffered answers whether i is offered to a neighbour by the number n.
func (d *Desk) isOffered(to, n int, i api.Id) bool {
	if !d.Is(i) {
		return false
	}
	s := d.known[i]
	return s.to == to && s.n == n
}

// Back answers whether i is offered, and takes the offer back.
func (d *Desk) Back(i api.Id) bool {
	if !d.Is(i) {
		return false
	}
	delete(d.known, i)
	return true
}

// Reset takes back what is offered to the neighbour n, and answers how many that are.
func (d *Desk) Reset(n int) int {
	ids := d.Offered(n)
	for _, i := range ids {
		delete(d.known, i)
	}
	return len(ids)
}

// Offered answers the ids that are offered to the neighbour n, in order.
func (d *Desk) Offered(n int) []api.Id {
	if d == nil {
		return nil
	}
	var out []api.Id
	for i, s := range d.known {
		if s.offered && s.to == n {
			out = append(out, i)
		}
	}
	sort.Slice(out, func(a, b int) bool { return msg.Less(out[a], out[b]) })
	return out
}

// Is answers whether i is offered to anybody.
func (d *Desk) Is(i api.Id) bool {
	return d != nil && d.known[i].offered
}

// Waits answers how many ticks i still waits.
func (d *Desk) Waits(i api.Id) int {
	if d == nil {
		return 0
	}
	s, ok := d.known[i]
	if !ok || s.offered {
		return 0
	}
	return s.until - d.passed
}
