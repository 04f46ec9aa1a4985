package line_test

import (
	"bytes"
	"fmt"
	"math/rand"
	"slices"
	"testing"

	"portage/api"
	"portage/line"
)

// An independent reading of the chapter: a list of bytes, each with how many ticks it still needs.

type onItsWay struct {
	b     byte
	needs int
}

type model struct {
	delay int
	all   []onItsWay
}

func (m *model) put(p []byte) api.Errno {
	if len(m.all)+len(p) > 65536 {
		return api.ErrFull
	}
	for _, b := range p {
		m.all = append(m.all, onItsWay{b, m.delay})
	}
	return api.OK
}

func (m *model) pass() {
	for i := range m.all {
		if m.all[i].needs > 0 {
			m.all[i].needs--
		}
	}
}

func (m *model) take() []byte {
	var out []byte
	for len(m.all) > 0 && m.all[0].needs == 0 {
		out = append(out, m.all[0].b)
		m.all = m.all[1:]
	}
	return out
}

func (m *model) drop(at, n int) api.Errno {
	if at < 0 || n < 0 || at > len(m.all) {
		return api.ErrRange
	}
	if n > len(m.all) || at+n > len(m.all) {
		return api.ErrRange
	}
	var left []onItsWay
	for i, x := range m.all {
		if i < at || i >= at+n {
			left = append(left, x)
		}
	}
	m.all = left
	return api.OK
}

func (m *model) flip(at, mask int) api.Errno {
	if at < 0 || at >= len(m.all) {
		return api.ErrRange
	}
	lowest := ((mask % 256) + 256) % 256
	if lowest == 0 {
		return api.ErrForm
	}
	m.all[at].b ^= byte(lowest)
	return api.OK
}

func (m *model) insert(at int, b byte) api.Errno {
	n := len(m.all)
	if at < 0 || at > n {
		return api.ErrRange
	}
	if n >= 65536 {
		return api.ErrFull
	}
	x := onItsWay{b, m.delay}
	if at < n {
		x.needs = m.all[at].needs
	} else if n > 0 {
		x.needs = m.all[n-1].needs
	}
	out := append([]onItsWay{}, m.all[:at]...)
	out = append(out, x)
	m.all = append(out, m.all[at:]...)
	return api.OK
}

func (m *model) bytes() []byte {
	var out []byte
	for _, x := range m.all {
		out = append(out, x.b)
	}
	return out
}

// sorted tells whether no byte needs fewer ticks than one ahead of it.
func (m *model) sorted() bool {
	return slices.IsSortedFunc(m.all, func(a, b onItsWay) int { return a.needs - b.needs })
}

// place answers a place about a line of n bytes, seldom one far off.
func place(r *rand.Rand, n int) int {
	switch r.Intn(8) {
	case 0:
		return n - 1 + r.Intn(3)
	case 1:
		return r.Intn(3) - 1
	case 2:
		if r.Intn(4) == 0 {
			return wide[r.Intn(len(wide))]
		}
	}
	return r.Intn(n + 1)
}

// row answers some bytes; of a line that is nearly full also more than there is room for.
func row(r *rand.Rand, n int) []byte {
	most := 12
	if n > room-100 {
		most = room - n + 3
	}
	out := make([]byte, r.Intn(most+1))
	r.Read(out)
	return out
}

// oneCall makes some call on both.
func oneCall(t *testing.T, r *rand.Rand, m *model, l *line.Line) {
	t.Helper()
	n := len(m.all)
	var c call
	var want api.Errno
	switch r.Intn(12) {
	case 0, 1, 2:
		p := row(r, n)
		c, want = put(p), m.put(p)
	case 3, 4:
		c, want = tick(), api.OK
		m.pass()
	case 5, 6:
		got, want := l.Take(), m.take()
		if !bytes.Equal(got, want) || (got == nil) != (want == nil) {
			t.Fatalf("taken is %s; not %s", short(got), short(want))
		}
		return
	case 7:
		at := place(r, n)
		many := r.Intn(5)
		if r.Intn(4) == 0 {
			many = place(r, max(n-max(at, 0), 0))
		}
		c, want = drop(at, many), m.drop(at, many)
	case 8:
		at, mask := place(r, n), r.Intn(1024)-512
		if r.Intn(5) == 0 {
			mask = 256 * (r.Intn(9) - 4)
		}
		c, want = flip(at, mask), m.flip(at, mask)
	default:
		at, b := place(r, n), byte(r.Intn(256))
		c, want = insert(at, b), m.insert(at, b)
	}
	if got := c.do(l); got != want {
		t.Fatalf("%s: %d; not %d", c.text, got, want)
	}
}

func TestRandomCalls(t *testing.T) {
	for seed := range int64(1000) {
		t.Run(fmt.Sprint(seed), func(t *testing.T) {
			r := rand.New(rand.NewSource(seed))
			m := &model{delay: []int{0, 1, 2, 3, 5, 64}[r.Intn(6)]}
			l := newLine(t, m.delay)
			for range 150 {
				oneCall(t, r, m, l)
				if got := l.Bytes(); !bytes.Equal(got, m.bytes()) || l.Len() != len(m.all) {
					t.Fatalf("on their way are %d, %q; not %d, %q", l.Len(), got, len(m.all), m.bytes())
				}
			}
			for range m.delay + 1 {
				if got, want := l.Take(), m.take(); !bytes.Equal(got, want) {
					t.Fatalf("taken is %q; not %q", got, want)
				}
				ticks(t, l, 1)
				m.pass()
			}
		})
	}
}

// Lines about as full as they may be.
func TestRandomCallsOfFullLines(t *testing.T) {
	for seed := range int64(6) {
		r := rand.New(rand.NewSource(seed))
		m := &model{delay: r.Intn(3)}
		l := newLine(t, m.delay)
		for range 60 {
			if n := len(m.all); n < room-40 {
				p := some(room - n - r.Intn(20))
				does(t, l, put(p))
				m.put(p)
			}
			oneCall(t, r, m, l)
			if got := l.Bytes(); !bytes.Equal(got, m.bytes()) || l.Len() != len(m.all) {
				t.Fatalf("seed %d: on their way are %d, %s; not %d, %s", seed, l.Len(), short(got), len(m.all), short(m.bytes()))
			}
		}
	}
}

// In no line does a byte need fewer ticks than one that is ahead of it: what is inserted needs what its neighbour does.
func TestBytesAreDueInOrder(t *testing.T) {
	for seed := range int64(200) {
		r := rand.New(rand.NewSource(seed))
		m := &model{delay: r.Intn(8)}
		l := newLine(t, m.delay)
		for range 150 {
			oneCall(t, r, m, l)
			if !m.sorted() {
				t.Fatalf("seed %d: %v", seed, m.all)
			}
		}
	}
}

// The same calls make lines that answer the same.
func TestAnswersHangOnCallsAlone(t *testing.T) {
	for seed := range int64(20) {
		run := func() *line.Line {
			r := rand.New(rand.NewSource(seed))
			m := &model{delay: r.Intn(8)}
			l := newLine(t, m.delay)
			for range 100 {
				oneCall(t, r, m, l)
			}
			return l
		}
		alike(t, fmt.Sprintf("seed %d", seed), run(), run())
	}
}
