package line_test

import (
	"bytes"
	"fmt"
	"math/rand"
	"slices"
	"testing"
)

// P19.4: bytes come out as they were put in, in order, each behind just delay ticks.

func TestBytesComeBehindDelay(t *testing.T) {
	for delay := range longest + 1 {
		r := rand.New(rand.NewSource(int64(delay)))
		l := newLine(t, delay)
		var in, out []byte
		var since, came []int // by bytes, at which tick they were put in, and at which they came
		check := func(now int) {
			p := l.Take()
			out = append(out, p...)
			for range p {
				came = append(came, now)
			}
		}
		for now := range 300 {
			check(now)
			for range r.Intn(3) {
				p := make([]byte, r.Intn(5))
				r.Read(p)
				does(t, l, put(p))
				in = append(in, p...)
				for range p {
					since = append(since, now)
				}
			}
			if delay == 0 || r.Intn(2) == 0 {
				check(now)
			}
			ticks(t, l, 1)
		}
		check(300)
		left := l.Bytes()
		if !bytes.Equal(in, append(slices.Clone(out), left...)) {
			t.Fatalf("delay %d: in came %q; out %q and left are %q", delay, in, out, left)
		}
		for i := range out {
			if came[i]-since[i] != delay {
				t.Fatalf("delay %d: the byte number %d was put in at %d, and came at %d", delay, i, since[i], came[i])
			}
		}
		for _, at := range since[len(out):] {
			if 300-at >= delay {
				t.Fatalf("delay %d: a byte that was put in at %d has not come at 300", delay, at)
			}
		}
	}
}

// Whoever takes seldom gets all that has come, and nothing else.
func TestTakingSeldom(t *testing.T) {
	for seed := range int64(100) {
		r := rand.New(rand.NewSource(seed))
		delay := r.Intn(10)
		l := newLine(t, delay)
		var in []byte
		var since []int
		taken := 0
		for now := range 200 {
			p := make([]byte, r.Intn(4))
			r.Read(p)
			does(t, l, put(p))
			in = append(in, p...)
			for range p {
				since = append(since, now)
			}
			if r.Intn(6) == 0 {
				come := taken
				for come < len(in) && now-since[come] >= delay {
					come++
				}
				takes(t, l, string(in[taken:come]))
				taken = come
				has(t, l, string(in[taken:]))
			}
			ticks(t, l, 1)
		}
	}
}

// P19.5: what is dropped, and what is left, are what there was, in their order.
func TestWhatIsDroppedAndWhatIsLeft(t *testing.T) {
	for seed := range int64(200) {
		r := rand.New(rand.NewSource(seed))
		delay := r.Intn(6)
		l := newLine(t, delay)
		type known struct {
			b     byte
			since int
		}
		var all []known // on their way, as far as was seen
		put := func(now int) {
			for range r.Intn(6) {
				b := byte(r.Intn(256))
				does(t, l, says(string([]byte{b})))
				all = append(all, known{b, now})
			}
		}
		for now := range 60 {
			put(now)
			for range r.Intn(3) {
				at := r.Intn(len(all) + 1)
				n := r.Intn(len(all) - at + 1)
				was := l.Bytes()
				does(t, l, drop(at, n))
				left, dropped := l.Bytes(), was[at:at+n]
				if back := slices.Insert(slices.Clone(left), at, dropped...); !bytes.Equal(back, was) || len(left)+n != len(was) {
					t.Fatalf("seed %d: there were %q; Drop(%d, %d) left %q", seed, was, at, n, left)
				}
				all = slices.Delete(all, at, at+n)
			}
			var want []byte
			for len(all) > 0 && now-all[0].since >= delay {
				want = append(want, all[0].b)
				all = all[1:]
			}
			takes(t, l, string(want))
			ticks(t, l, 1)
		}
	}
}

// Dropped in parts or at once, it is the same line.
func TestDropInParts(t *testing.T) {
	for at := range 5 {
		for n := range 5 - at {
			once, parts := abcd(t), abcd(t)
			does(t, once, drop(at, n))
			for range n {
				does(t, parts, drop(at, 1))
			}
			alike(t, fmt.Sprintf("%d from %d on", n, at), parts, once)
		}
	}
}

// What is inserted and dropped again leaves the line as it was.
func TestInsertAndDrop(t *testing.T) {
	for at := range 5 {
		l := abcd(t)
		does(t, l, insert(at, 'x'), drop(at, 1))
		alike(t, fmt.Sprintf("inserted at %d", at), l, abcd(t))
	}
}

// A byte that is turned comes when it would have come.
func TestFlipTwiceAnywhere(t *testing.T) {
	for seed := range int64(100) {
		r := rand.New(rand.NewSource(seed))
		m := &model{delay: r.Intn(6)}
		one, other := newLine(t, m.delay), newLine(t, m.delay)
		same := &model{delay: m.delay}
		a, b := rand.New(rand.NewSource(seed)), rand.New(rand.NewSource(seed))
		for range 60 {
			oneCall(t, a, m, one)
			oneCall(t, b, same, other)
			if one.Len() == 0 {
				continue
			}
			at, mask := r.Intn(one.Len()), 1+r.Intn(255)
			was := one.Bytes()
			does(t, one, flip(at, mask))
			was[at] ^= byte(mask)
			if got := one.Bytes(); !bytes.Equal(got, was) {
				t.Fatalf("seed %d: %q; not %q", seed, got, was)
			}
			does(t, one, flip(at, mask-256*r.Intn(3)))
		}
		alike(t, fmt.Sprintf("seed %d", seed), one, other)
	}
}
