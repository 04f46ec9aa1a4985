package hop_test

import (
	"math/rand"
	"testing"

	"portage/api"
	"portage/hop"
)

// P20.5 and P20.6, by what was seen of a desk's answers alone.

// history is what became of an id, as far as answers told it.
type history struct {
	offers   int // of them the last one:
	to, n    int
	made     int // at which tick
	open     bool
	refusals int // of them the last one:
	refused  int // at which tick
}

type witness struct {
	t    *testing.T
	d    *hop.Desk
	wait int
	now  int
	all  map[api.Id]*history
}

func (w *witness) of(i api.Id) *history {
	if w.all[i] == nil {
		w.all[i] = &history{}
	}
	return w.all[i]
}

func (w *witness) plan(held []api.Msg, via, up []int) {
	for _, o := range w.d.Plan(held, via, up) {
		h := w.of(o.Msg.Id)
		if h.open && w.now-h.made < longest {
			w.t.Fatalf("%s is offered to %d by %d at %d, and was to %d by %d at %d", text(o.Msg.Id), o.To, o.N, w.now, h.to, h.n, h.made)
		}
		if h.refusals > 0 && w.now-h.refused < w.wait {
			w.t.Fatalf("%s is offered at %d, and was refused at %d", text(o.Msg.Id), w.now, h.refused)
		}
		*h = history{offers: h.offers + 1, to: o.To, n: o.N, made: w.now, open: true}
	}
}

// answer gives an answer, of which just the one to the last offer says something.
func (w *witness) answer(refusal bool, from, n int, i api.Id) {
	h := w.of(i)
	last := h.open && w.now-h.made < longest && from == h.to && n == h.n
	say := w.d.Ack
	if refusal {
		say = w.d.Refuse
	}
	if got := say(from, n, i); got != last {
		w.t.Fatalf("an answer by %d to the offer %d of %s is taken: %t; it was offered to %d by %d at %d, and now it is %d", from, n, text(i), got, h.to, h.n, h.made, w.now)
	}
	if last {
		h.open = false
		if refusal {
			h.refusals++
			h.refused = w.now
		}
	}
}

func (w *witness) back(i api.Id) {
	if w.d.Back(i) {
		w.of(i).open = false
	}
}

func (w *witness) reset(n int) {
	ids := w.d.Offered(n)
	if got := w.d.Reset(n); got != len(ids) {
		w.t.Fatalf("Reset(%d): %d; %d were offered", n, got, len(ids))
	}
	for _, i := range ids {
		w.of(i).open = false
	}
}

// once asks that nothing is offered to two, and that what is offered was so to that one.
func (w *witness) once() {
	to := map[api.Id]int{}
	for n := -1; n < 7; n++ {
		for _, i := range w.d.Offered(n) {
			if other, twice := to[i]; twice {
				w.t.Fatalf("%s is offered to %d and %d", text(i), other, n)
			}
			to[i] = n
			if h := w.of(i); !h.open || h.to != n {
				w.t.Fatalf("%s is offered to %d; it was to %d: %t", text(i), n, h.to, h.open)
			}
		}
	}
	for _, name := range names {
		if _, ok := to[id(name)]; ok != w.d.Is(id(name)) {
			w.t.Fatalf("Is(%s): %t", name, !ok)
		}
	}
}

func TestWhatWasOfferedIsNotOfferedAgain(t *testing.T) {
	offers, refusals := 0, 0
	for seed := range int64(300) {
		r := rand.New(rand.NewSource(seed))
		w := &witness{t: t, wait: 1 + r.Intn(8), all: map[api.Id]*history{}}
		w.d = desk(t, w.wait)
		for range 150 {
			i := id(someName(r))
			switch r.Intn(8) {
			case 0, 1, 2:
				w.plan(someHeld(r), someVia(r), someUp(r))
			case 3:
				n := 1 + r.Intn(3)
				if r.Intn(10) == 0 {
					n = longest - 2 + r.Intn(4)
				}
				passes(t, w.d, n)
				w.now += n
			case 4, 5:
				h := w.of(i)
				// an elder offer's number, another one's number, another neighbour
				w.answer(r.Intn(2) == 0, r.Intn(6), h.n, i)
				w.answer(r.Intn(2) == 0, h.to, h.n-r.Intn(3), i)
				w.answer(r.Intn(2) == 0, h.to, h.n+1, i)
				w.answer(r.Intn(3) > 0, h.to, h.n, i)
				refusals += h.refusals
			case 6:
				w.back(i)
			case 7:
				w.reset(r.Intn(7) - 1)
			}
			w.once()
		}
		for _, h := range w.all {
			offers += h.offers
		}
	}
	if offers < 3000 || refusals < 1000 {
		t.Errorf("just %d offers, %d refusals", offers, refusals)
	}
}

// Whoever asks at each tick offers a message that nobody answers just each MaxTimer ticks.
func TestAnOfferThatNobodyAnswers(t *testing.T) {
	d := desk(t, 1)
	again := plan(ms("1>3:1.1"), by(3, 2), []int{2})
	for n := range 5*longest + 1 {
		want := ""
		if n%longest == 0 {
			want = tell([]api.Offer{{To: 2, N: n / longest, Msg: m("1>3:1.1", "a")}})
		}
		answers(t, d, again, want)
		passes(t, d, 1)
	}
}

// One that is refused at once is offered each wait ticks.
func TestAnOfferThatIsRefused(t *testing.T) {
	const wait = 7
	d := desk(t, wait)
	for n := range 20*wait + 1 {
		want := ""
		if n%wait == 0 {
			want = tell([]api.Offer{{To: 2, N: n / wait, Msg: m("1>3:1.1", "a")}})
		}
		answers(t, d, plan(ms("1>3:1.1"), by(3, 2), []int{2}), want)
		if n%wait == 0 {
			yes(t, d, refuse(2, n/wait, "1>3:1.1"))
		}
		passes(t, d, 1)
	}
}

// The number of an elder offer comes again behind 65536 offers; it is the last one's number then, and says something.
func TestAnElderNumberThatComesAgain(t *testing.T) {
	d := desk(t, 1)
	again := plan(ms("1>3:1.1"), by(3, 2), []int{2})
	for n := range 65536 {
		again.do(d)
		if n > 0 {
			no(t, d, ack(2, n-1, "1>3:1.1"), refuse(2, 0, "1>3:1.1"))
		}
		yes(t, d, back("1>3:1.1"))
	}
	answers(t, d, again, "2/0 1>3:1.1 a")
	no(t, d, ack(2, last, "1>3:1.1"), ack(2, 65536, "1>3:1.1"))
	yes(t, d, ack(2, 0, "1>3:1.1"))
}
