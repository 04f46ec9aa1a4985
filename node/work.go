package node

import (
	"slices"

	"portage/api"
	"portage/control"
	"portage/hdlc"
	"portage/hop"
)

// work does what a node does on its own.
func (n *Node) work() {
	n.forgetResets()
	if !n.custody.Failed() {
		n.offer()
	}
	n.send()
}

// forgetResets takes back what was offered by ends that were reset: it is lost on the way.
func (n *Node) forgetResets() {
	for _, number := range n.inOrder() {
		x := n.neighbours[number]
		if resets := x.end.Resets(); resets != x.resets {
			x.resets = resets
			n.desk.Reset(number)
		}
	}
}

// offer offers what is held to the next hops that are up.
func (n *Node) offer() {
	held := n.custody.Held()
	for _, o := range n.desk.Plan(held, n.nextHops(held), n.up()) {
		if n.push(o.To, api.Hop{Kind: api.HOffer, N: o.N, Msg: o.Msg}) != api.OK {
			n.desk.Back(o.Msg.Id)
		}
	}
}

// nextHops answers, by destinations, where what is held is to go next. No other destinations are asked for: each one takes its time.
func (n *Node) nextHops(held []api.Msg) []int {
	via := slices.Repeat([]int{none}, api.MaxNodes)
	var asked [api.MaxNodes]bool
	for _, m := range held {
		dest := m.Id.Dest
		if asked[dest] {
			continue
		}
		asked[dest] = true
		if next, ok := n.table.Next(dest); ok {
			via[dest] = next
		}
	}
	return via
}

// tellRoutes tells the neighbours what destinations cost from here.
func (n *Node) tellRoutes() {
	for _, number := range n.up() {
		n.push(number, api.Hop{Kind: api.HRoutes, Costs: n.table.Vector(number)})
	}
}

// push lets a word go out to a neighbour, if its end takes it.
func (n *Node) push(to int, h api.Hop) api.Errno {
	p, _ := hop.Put(h) // of what is no word there are no bytes, and these no end takes
	return n.neighbours[to].end.Push(p)
}

// send lays what the ends sent behind the bytes that are to go out.
func (n *Node) send() {
	for _, number := range n.inOrder() {
		x := n.neighbours[number]
		for _, c := range x.end.Out() {
			content, _ := control.Put(c) // neither can fail: an end sends right controls, which fit a frame
			frame, _ := hdlc.Encode(content)
			x.out = append(x.out, frame...)
		}
	}
}

// inOrder answers the neighbours, rising.
func (n *Node) inOrder() []int {
	var out []int
	for number := range n.neighbours {
		out = append(out, number)
	}
	slices.Sort(out)
	return out
}

// up answers the neighbours whose ends are up, rising.
func (n *Node) up() []int {
	return slices.DeleteFunc(n.inOrder(), func(number int) bool { return !n.Up(number) })
}
