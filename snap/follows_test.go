package snap

import (
	"fmt"
	"math/rand"
	"slices"
	"testing"

	"portage/api"
	"portage/store"
)

// P16.3, the other way round in asWanted

func TestGetOfPutOfAnyState(t *testing.T) {
	rnd := rand.New(rand.NewSource(3))
	for range 3000 {
		st := someState(t, rnd)
		puts(t, st, summed(laid(st)))
	}
}

// A store that was put and got goes on as the one that was put.
func TestGetOfPutGoesOnAsTheStore(t *testing.T) {
	rnd := rand.New(rand.NewSource(4))
	for range 300 {
		st := someState(t, rnd)
		p, _ := Put(st)
		back, _ := Get(p)
		a, _ := store.From(great(), st)
		b, e := store.From(great(), back)
		if e != api.OK {
			t.Fatalf("From(%s): %d", short(back), e)
		}
		for range 30 {
			i := id(rnd.Intn(4), rnd.Intn(4), 1+rnd.Intn(4), 1+rnd.Intn(4))
			ev := []api.Ev{{Kind: api.EvBoot}, {Kind: api.EvHold, Msg: ms(i, "x")}, {Kind: api.EvRelease, Msg: api.Msg{Id: i}}, {Kind: api.EvDeliver, Msg: api.Msg{Id: i}}}[rnd.Intn(4)]
			if x, y := a.Apply(ev), b.Apply(ev); x != y {
				t.Fatalf("Apply(%+v): %d and %d", ev, x, y)
			}
		}
		if text(a.State()) != text(b.State()) {
			t.Fatalf("%s; not %s", short(b.State()), short(a.State()))
		}
	}
}

// P16.4

// likeSome answers right states that are some() but for one thing, each in another one.
func likeSome() []api.State {
	var all []api.State
	add := func(change func(st *api.State)) {
		st := some()
		change(&st)
		all = append(all, st)
	}
	add(func(st *api.State) {})
	add(func(st *api.State) { st.Self = 4 })
	add(func(st *api.State) { st.Epoch = 10 })
	add(func(st *api.State) { st.Next[0].Dest = 1 })
	add(func(st *api.State) { st.Next[0].Counter = 5 })
	add(func(st *api.State) { st.Next = st.Next[1:] })
	add(func(st *api.State) { st.Next = append(st.Next[:2], next(62, most)...) })
	add(func(st *api.State) { st.Held = st.Held[:2] })
	add(func(st *api.State) { st.Held = st.Held[1:] })
	add(func(st *api.State) { st.Held = nil })
	add(func(st *api.State) { st.Held[0], st.Held[1] = st.Held[1], st.Held[0] })
	add(func(st *api.State) { st.Held[1].Id.Origin = 6 })
	add(func(st *api.State) { st.Held[1].Id.Dest = 2 })
	add(func(st *api.State) { st.Held[1].Id.Epoch = 21 })
	add(func(st *api.State) { st.Held[1].Id.Counter = 8 })
	add(func(st *api.State) { st.Held[1].Data = []byte("bce") })
	add(func(st *api.State) { st.Held[1].Data = []byte("bc") })
	add(func(st *api.State) { st.Held[1].Data = []byte("bcd\x00") })
	add(func(st *api.State) { st.Seen[0].Origin = 0 })
	add(func(st *api.State) { st.Seen[0].Epoch = 1 })
	add(func(st *api.State) { st.Seen[0].Upto = 2 })
	add(func(st *api.State) { st.Seen[0].More = []int{5} })
	add(func(st *api.State) { st.Seen[0].More = []int{5, 8} })
	add(func(st *api.State) { st.Seen[0].More = nil })
	add(func(st *api.State) { st.Seen = st.Seen[:2] })
	add(func(st *api.State) { st.Seen = nil })
	return all
}

func TestBytesAreTheSameJustIfStatesAre(t *testing.T) {
	rnd := rand.New(rand.NewSource(6))
	all := slices.Concat(rightStates(), likeSome(), likeSome())
	for range 20000 { // and many that have little, so that many are the same
		st := someState(t, rnd)
		st.Self, st.Held, st.Seen = st.Self%4, st.Held[:min(len(st.Held), 1)], st.Seen[:min(len(st.Seen), 1)]
		if Check(st) == api.OK {
			all = append(all, st)
		}
	}
	texts, rows := map[string]string{}, map[string]string{}
	same := 0
	for _, st := range all {
		p, e := Put(st)
		if e != api.OK {
			t.Fatalf("Put(%s): %d", short(st), e)
		}
		name := text(st)
		if other, there := texts[string(p)]; there && other != name {
			t.Fatalf("%s: the bytes of %s and of %s", cutHex(p), other, name)
		}
		row, there := rows[name]
		if there && row != string(p) {
			t.Fatalf("%s: %s and %s", name, cutHex([]byte(row)), cutHex(p))
		}
		if there {
			same++
		}
		texts[string(p)], rows[name] = name, string(p)
	}
	if same < len(likeSome()) || len(rows) < 1000 {
		t.Errorf("%d states, %d of them the same as one ahead", len(all), same)
	}
}

// P16.5

// turnedBits answers p of which those bits of pattern are turned, from the bit at on; a byte's lowest bit is its first.
func turnedBits(p []byte, at int, pattern uint32) []byte {
	p = slices.Clone(p)
	for k := range 32 {
		if pattern>>k&1 == 1 {
			p[(at+k)/8] ^= 1 << ((at + k) % 8)
		}
	}
	return p
}

// turnsEach asks of right bytes, each of the patterns turned from each bit on, as far as it lies ahead of the sum, that they are none's.
func turnsEach(t *testing.T, right []byte, patterns []uint32) {
	t.Helper()
	bits := 8 * (len(right) - 4)
	for at := range bits {
		for _, pattern := range patterns {
			if pattern == 0 || bits-at < 32 && pattern>>(bits-at) > 0 {
				continue
			}
			if p := turnedBits(right, at, pattern); !isNone(p) {
				t.Fatalf("%s: turned by %x from the bit %d on", cutHex(right), pattern, at)
			}
		}
	}
}

func TestTurnedBits(t *testing.T) {
	var narrow, few, wide []uint32
	for pattern := range uint32(1 << 10) {
		narrow = append(narrow, pattern|1)
	}
	for a := range 32 {
		for b := range 32 {
			few = append(few, 1|1<<a|1<<b)
		}
	}
	rnd := rand.New(rand.NewSource(5))
	for range 500 {
		wide = append(wide, rnd.Uint32()|1, rnd.Uint32()|1|1<<31, 1<<32-1)
	}
	for _, st := range []api.State{{}, {Self: 1, Epoch: 2}, some()} {
		right, _ := Put(st)
		turnsEach(t, right, narrow)
		turnsEach(t, right, few)
		turnsEach(t, right, wide)
	}
}

func TestTurnedBitsOfAnyState(t *testing.T) {
	rnd := rand.New(rand.NewSource(7))
	for range 80 {
		right, _ := Put(someState(t, rnd))
		var patterns []uint32
		for range 3 {
			patterns = append(patterns, rnd.Uint32()>>rnd.Intn(32))
		}
		turnsEach(t, right, patterns)
	}
}

func TestCutBytes(t *testing.T) {
	rnd := rand.New(rand.NewSource(8))
	states := append(rightStates(), likeSome()...)
	for range 100 {
		states = append(states, someState(t, rnd))
	}
	for _, st := range states {
		p, _ := Put(st)
		for n := 0; n < len(p); n += 1 + n/400 {
			none(t, fmt.Sprintf("cut at %d of %d", n, len(p)), p[:n])
		}
		none(t, "without the last byte", p[:len(p)-1])
	}
	p, _ := Put(some())
	for from := range p { // and of those some() has, any piece
		for to := from; to <= len(p); to++ {
			if to-from < len(p) {
				none(t, fmt.Sprintf("from %d to %d", from, to), p[from:to])
			}
		}
	}
}

// Cut ahead of the sum, with the sum of what is left, they are none's as well.
func TestCutBytesWithTheirSum(t *testing.T) {
	for _, st := range append(likeSome(), rightStates()...) {
		p := laid(st)
		for n := 0; n < len(p); n += 1 + n/400 {
			none(t, fmt.Sprintf("cut at %d of %d", n, len(p)), summed(p[:n]))
		}
		none(t, "without the last byte", summed(p[:len(p)-1]))
	}
}
