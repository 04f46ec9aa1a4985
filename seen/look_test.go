package seen

import (
	"fmt"
	"math"
	"slices"
	"strings"
	"testing"

	"portage/api"
)

const (
	nodes    = 64    // MaxNodes
	most     = 65535 // MaxNumber
	mostGaps = 256   // MaxGaps
)

// id answers a right id of that counter.
func id(origin, epoch, counter int) api.Id {
	return api.Id{Origin: origin, Dest: (origin + 1) % nodes, Epoch: epoch, Counter: counter}
}

func mk(origin, epoch, upto int, more ...int) api.Mark {
	return api.Mark{Origin: origin, Epoch: epoch, Upto: upto, More: more}
}

func marks(l ...api.Mark) []api.Mark {
	return l
}

// evens answers n even numbers, from 2 on.
func evens(n int) []int {
	var out []int
	for k := range n {
		out = append(out, 2*k+2)
	}
	return out
}

func sameMarks(a, b []api.Mark) bool {
	return slices.EqualFunc(a, b, func(a, b api.Mark) bool {
		return a.Origin == b.Origin && a.Epoch == b.Epoch && a.Upto == b.Upto && slices.Equal(a.More, b.More)
	})
}

// short answers marks for a reader, with what is long cut.
func short(l []api.Mark) string {
	s := fmt.Sprintf("%v", l)
	if len(s) > 300 {
		return s[:300] + ".."
	}
	return s
}

func gapsOf(l []api.Mark) int {
	n := 0
	for _, m := range l {
		n += len(m.More)
	}
	return n
}

func ok(t *testing.T, e api.Errno) {
	t.Helper()
	answers(t, e, api.OK)
}

func answers(t *testing.T, e, want api.Errno) {
	t.Helper()
	if e != want {
		t.Fatalf("%d; not %d", e, want)
	}
}

func made(t *testing.T, gaps int) *Set {
	t.Helper()
	s, e := New(gaps)
	if s == nil || e != api.OK {
		t.Fatalf("New(%d): %v, %d", gaps, s != nil, e)
	}
	return s
}

func madeOf(t *testing.T, gaps int, l ...api.Mark) *Set {
	t.Helper()
	s, e := From(gaps, l)
	if s == nil || e != api.OK {
		t.Fatalf("From(%d, %s): %v, %d", gaps, short(l), s != nil, e)
	}
	return s
}

// adds puts the counters of an Origin and an Epoch into the set: May and Add must say that they may come.
func adds(t *testing.T, s *Set, origin, epoch int, counters ...int) {
	t.Helper()
	for _, c := range counters {
		i := id(origin, epoch, c)
		if e := s.May(i); e != api.OK {
			t.Fatalf("May(%+v): %d", i, e)
		}
		if e := s.Add(i); e != api.OK {
			t.Fatalf("Add(%+v): %d", i, e)
		}
	}
}

// refuses asks that May and Add answer that error of i, and that the set is unchanged behind.
func refuses(t *testing.T, s *Set, want api.Errno, i api.Id) {
	t.Helper()
	was, room := s.Marks(), roomOf(t, s)
	if e := s.May(i); e != want {
		t.Errorf("May(%+v): %d; not %d", i, e, want)
	}
	if e := s.Add(i); e != want {
		t.Errorf("Add(%+v): %d; not %d", i, e, want)
	}
	checkSet(t, s, room, was...)
}

// roomOf answers how many gaps a set has room for: a clone is given counters till it refuses one.
func roomOf(t *testing.T, s *Set) int {
	t.Helper()
	n := s.Gaps()
	epoch := 1
	for _, m := range s.Marks() {
		if m.Origin == 40 && m.Epoch == epoch {
			epoch++
		}
	}
	s = s.Clone()
	for k := range mostGaps + 2 {
		switch e := s.Add(id(40, epoch, 3*k+2)); e {
		case api.OK:
			n++
		case api.ErrFull:
			return n
		default:
			t.Fatalf("a gap more: %d", e)
		}
	}
	t.Fatalf("more than %d gaps", mostGaps)
	return 0
}

// checkSet asks that a set has just these marks, and room for so many gaps.
func checkSet(t *testing.T, s *Set, room int, want ...api.Mark) {
	t.Helper()
	if got := s.Marks(); !sameMarks(got, want) {
		t.Fatalf("the marks are %s; not %s", short(got), short(want))
	}
	if got := s.Gaps(); got != gapsOf(want) {
		t.Fatalf("%d gaps; not %d", got, gapsOf(want))
	}
	if got := roomOf(t, s); got != room {
		t.Fatalf("room for %d gaps; not %d", got, room)
	}
	for _, m := range want {
		checkHas(t, s, m)
	}
}

// checkHas asks for what a mark says of counters at its edges and beside them.
func checkHas(t *testing.T, s *Set, m api.Mark) {
	t.Helper()
	asked := []int{1, 2, m.Upto / 2, m.Upto - 1, m.Upto, m.Upto + 1, m.Upto + 2, m.Upto + 3, most - 1, most}
	for _, c := range m.More {
		asked = append(asked, c-1, c, c+1)
	}
	for _, c := range asked {
		if c < 1 || c > most {
			continue
		}
		want := c <= m.Upto || slices.Contains(m.More, c)
		if got := s.Has(id(m.Origin, m.Epoch, c)); got != want {
			t.Fatalf("Has of the counter %d of %d in %d: %t; not %t", c, m.Origin, m.Epoch, got, want)
		}
	}
}

// rightMark answers whether a mark is right, by the words of the chapter.
func rightMark(m api.Mark) bool {
	for _, x := range []struct{ n, least, most int }{{m.Origin, 0, nodes - 1}, {m.Epoch, 1, most}, {m.Upto, 0, most}} {
		if x.n < x.least || x.n > x.most {
			return false
		}
	}
	for at, c := range m.More {
		if c < m.Upto+2 || c > most || at > 0 && c <= m.More[at-1] {
			return false
		}
	}
	return m.Upto > 0 || len(m.More) > 0
}

// wantedFrom answers what the chapter asks From for.
func wantedFrom(gaps int, l []api.Mark) api.Errno {
	if gaps < 0 || gaps > mostGaps {
		return api.ErrRange
	}
	for at, m := range l {
		if !rightMark(m) {
			return api.ErrForm
		}
		if at > 0 && !(l[at-1].Origin < m.Origin || l[at-1].Origin == m.Origin && l[at-1].Epoch < m.Epoch) {
			return api.ErrForm
		}
	}
	if gapsOf(l) > gaps {
		return api.ErrFull
	}
	return api.OK
}

// wantedId answers what the chapter of messages asks Check for.
func wantedId(i api.Id) api.Errno {
	for _, x := range []struct{ n, least, most int }{{i.Origin, 0, nodes - 1}, {i.Dest, 0, nodes - 1}, {i.Epoch, 1, most}, {i.Counter, 1, most}} {
		if x.n < x.least || x.n > x.most {
			return api.ErrRange
		}
	}
	if i.Origin == i.Dest {
		return api.ErrForm
	}
	return api.OK
}

// wrongIds answers ids that are not right, of each kind, of which many have the counter 2 of 1 in 1.
func wrongIds() []api.Id {
	var all []api.Id
	for _, n := range []int{math.MinInt, -256, -64, -1, 64, 65, 256, 257, 65536, 1<<32 + 1, math.MaxInt} {
		all = append(all,
			api.Id{Origin: n, Dest: 5, Epoch: 1, Counter: 2},
			api.Id{Origin: 1, Dest: n, Epoch: 1, Counter: 2},
			api.Id{Origin: n, Dest: n, Epoch: 1, Counter: 2})
	}
	for _, n := range []int{math.MinInt, -65535, -1, 0, 65536, 65537, 131073, 1<<32 + 1, math.MaxInt} {
		all = append(all,
			api.Id{Origin: 1, Dest: 5, Epoch: n, Counter: 2},
			api.Id{Origin: 1, Dest: 5, Epoch: 1, Counter: n},
			api.Id{Origin: 1, Dest: 1, Epoch: n, Counter: 2},
			api.Id{Origin: 1, Dest: 1, Epoch: 1, Counter: n})
	}
	for _, n := range []int{0, 1, 2, 63} {
		all = append(all, api.Id{Origin: n, Dest: n, Epoch: 1, Counter: 2})
	}
	return append(all, api.Id{})
}

// model is what the chapter says of a set: its counters one by one, by Origin, Epoch and Counter.
type model struct {
	room  int
	there map[[3]int]bool
}

func newModel(room int) *model {
	return &model{room: room, there: map[[3]int]bool{}}
}

func (m *model) clone() *model {
	other := newModel(m.room)
	for k := range m.there {
		other.there[k] = true
	}
	return other
}

func (m *model) marks() []api.Mark {
	var all [][3]int
	for k := range m.there {
		all = append(all, k)
	}
	slices.SortFunc(all, func(a, b [3]int) int { return slices.Compare(a[:], b[:]) })
	var out []api.Mark
	for _, k := range all {
		if n := len(out); n == 0 || out[n-1].Origin != k[0] || out[n-1].Epoch != k[1] {
			out = append(out, mk(k[0], k[1], 0))
		}
		last := &out[len(out)-1]
		if k[2] == last.Upto+1 {
			last.Upto++
		} else {
			last.More = append(last.More, k[2])
		}
	}
	return out
}

func (m *model) may(i api.Id) api.Errno {
	if e := wantedId(i); e != api.OK {
		return e
	}
	k := [3]int{i.Origin, i.Epoch, i.Counter}
	if m.there[k] {
		return api.ErrTwice
	}
	next := 1
	for m.there[[3]int{i.Origin, i.Epoch, next}] {
		next++
	}
	if i.Counter != next && gapsOf(m.marks()) >= m.room {
		return api.ErrFull
	}
	return api.OK
}

func (m *model) add(i api.Id) api.Errno {
	e := m.may(i)
	if e == api.OK {
		m.there[[3]int{i.Origin, i.Epoch, i.Counter}] = true
	}
	return e
}

// both does the same on a set and on its model, and asks that they answer the same, and are.
func both(t *testing.T, s *Set, m *model, i api.Id) api.Errno {
	t.Helper()
	want := m.may(i)
	if e := s.May(i); e != want {
		t.Fatalf("May(%+v): %d; not %d; the set is %s", i, e, want, short(s.Marks()))
	}
	if got := s.Has(i); got != (want == api.ErrTwice) {
		t.Fatalf("Has(%+v): %t; May says %d", i, got, want)
	}
	if e := s.Add(i); e != m.add(i) {
		t.Fatalf("Add(%+v): %d; not %d; the set is %s", i, e, want, short(s.Marks()))
	}
	if got, want := s.Marks(), m.marks(); !sameMarks(got, want) || s.Gaps() != gapsOf(want) {
		t.Fatalf("behind Add(%+v): %s, %d gaps; not %s", i, short(got), s.Gaps(), short(want))
	}
	return want
}

// text answers all that Marks tells, to be held against another time's.
func text(s *Set) string {
	var out strings.Builder
	for _, m := range s.Marks() {
		fmt.Fprintf(&out, "%d/%d: %d %d; ", m.Origin, m.Epoch, m.Upto, m.More)
	}
	return out.String()
}
