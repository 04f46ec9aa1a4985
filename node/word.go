package node

import (
	"portage/api"
	"portage/control"
	"portage/hop"
)

// read lets the end to a neighbour receive a content, and looks at the words that have come in by that.
func (n *Node) read(from int, content []byte) {
	c, e := control.Get(content)
	if e != api.OK {
		n.bad++
		return
	}
	end := n.neighbours[from].end
	end.Receive(c)
	for _, p := range end.In() {
		if n.custody.Failed() { // what it would say could not be kept
			return
		}
		n.hear(from, p)
	}
}

// hear looks at a word from a neighbour.
func (n *Node) hear(from int, p []byte) {
	h, e := hop.Get(p)
	if e != api.OK {
		n.bad++
		return
	}
	i := h.Msg.Id
	switch h.Kind {
	case api.HOffer:
		n.answer(from, h)
	case api.HAck:
		if n.desk.Ack(from, h.N, i) {
			n.custody.Release(i)
		}
	case api.HRefuse:
		n.desk.Refuse(from, h.N, i)
	case api.HRoutes:
		n.table.Hear(from, h.Costs)
	}
}

// answer tells a neighbour whether what it offers is taken over. Without power nothing is told.
func (n *Node) answer(from int, offer api.Hop) {
	kind := api.HRefuse
	if n.takeOver(offer.Msg) {
		kind = api.HAck
	}
	if !n.custody.Failed() {
		n.push(from, api.Hop{Kind: kind, N: offer.N, Msg: api.Msg{Id: offer.Msg.Id}})
	}
}

// takeOver answers whether whoever offers m may let it go.
func (n *Node) takeOver(m api.Msg) bool {
	if m.Id.Dest == n.self {
		return n.deliver(m)
	}
	if _, held := n.custody.Find(m.Id); held {
		// A copy that is on its way to somebody takes over nobody else's: else copies going round could each be let go for the next one's sake.
		return !n.desk.Is(m.Id)
	}
	return n.custody.Hold(m) == api.OK
}

// deliver delivers m, if it was not; it answers whether it is now.
func (n *Node) deliver(m api.Msg) bool {
	if n.custody.Seen(m.Id) {
		return true
	}
	e := n.custody.Deliver(m.Id)
	if e == api.OK {
		n.delivered = append(n.delivered, m)
	}
	return e == api.OK || e == api.ErrTwice
}
