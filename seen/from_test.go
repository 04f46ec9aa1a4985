package seen

import (
	"math"
	"math/rand"
	"slices"
	"testing"

	"portage/api"
)

// P14.1: New

func TestNew(t *testing.T) {
	for _, gaps := range []int{0, 1, 2, 128, 255, 256} {
		checkSet(t, made(t, gaps), gaps)
	}
	for _, gaps := range []int{math.MinInt, -257, -256, -2, -1, 257, 258, 512, 65536, 1 << 32, 1<<32 + 1, math.MaxInt} {
		if s, e := New(gaps); s != nil || e != api.ErrRange {
			t.Errorf("New(%d): %v, %d", gaps, s != nil, e)
		}
	}
}

// P14.1: From

// checkFrom asks for what the chapter says of marks; it answers the error.
func checkFrom(t *testing.T, gaps int, l []api.Mark) api.Errno {
	t.Helper()
	want := wantedFrom(gaps, l)
	s, e := From(gaps, l)
	if e != want || (s != nil) != (want == api.OK) {
		t.Fatalf("From(%d, %s): %v, %d; not %d", gaps, short(l), s != nil, e, want)
	}
	if want == api.OK {
		checkSet(t, s, gaps, l...)
	}
	return e
}

func fromAnswers(t *testing.T, want api.Errno, gaps int, l ...api.Mark) {
	t.Helper()
	if e := checkFrom(t, gaps, l); e != want {
		t.Fatalf("From(%d, %s): %d; not %d", gaps, short(l), e, want)
	}
}

func TestFromOfRightMarks(t *testing.T) {
	for _, l := range [][]api.Mark{
		nil,
		{},
		marks(mk(0, 1, 1)),
		marks(mk(63, 65535, 65535)),
		marks(mk(1, 2, 3, 5)),
		marks(mk(1, 2, 0, 2)),
		marks(mk(1, 2, 0, 2, 3, 4)),
		marks(mk(1, 2, 3, 5, 7, 100, 65535)),
		marks(mk(1, 1, 1), mk(1, 2, 1), mk(2, 1, 1)),
		marks(mk(0, 65535, 9, 11), mk(1, 1, 0, 2, 4), mk(1, 65535, 65535), mk(2, 1, 1), mk(63, 1, 2, 4), mk(63, 9, 7)),
		marks(mk(9, 1, 1), mk(10, 1, 1)), // not as texts
		marks(mk(1, 9, 1), mk(1, 10, 1), mk(1, 255, 1), mk(1, 256, 1)),
	} {
		fromAnswers(t, api.OK, mostGaps, l...)
	}
}

func TestFromOfManyMarks(t *testing.T) {
	var l []api.Mark
	for origin := range nodes {
		for epoch := 1; epoch <= 20; epoch++ {
			m := mk(origin, epoch*epoch, 1+origin*epoch)
			if epoch%10 == 0 {
				m.More = []int{m.Upto + 2, m.Upto + 9}
			}
			l = append(l, m)
		}
	}
	fromAnswers(t, api.OK, mostGaps, l...)
	fromAnswers(t, api.ErrFull, mostGaps-1, l...)
}

func TestFromOfGaps(t *testing.T) {
	for _, gaps := range []int{math.MinInt, -1, 257, 258, math.MaxInt} {
		fromAnswers(t, api.ErrRange, gaps)
		fromAnswers(t, api.ErrRange, gaps, mk(1, 1, 1))
	}
	for _, n := range []int{1, 2, 3, 100, 255, 256} {
		one := marks(mk(1, 1, 0, evens(n)...), mk(1, 2, 1000))
		fromAnswers(t, api.OK, n, one...)
		fromAnswers(t, api.ErrFull, n-1, one...)
		fromAnswers(t, api.ErrFull, 0, one...)
		fromAnswers(t, api.OK, mostGaps, one...)
		if n == mostGaps {
			continue
		}
		two := marks(mk(1, 1, 0, evens(n)...), mk(1, 2, 9, 11))
		fromAnswers(t, api.OK, n+1, two...)
		fromAnswers(t, api.ErrFull, n, two...)
	}
	fromAnswers(t, api.ErrFull, mostGaps, mk(1, 1, 0, evens(257)...))
	fromAnswers(t, api.ErrFull, mostGaps, mk(1, 1, 0, evens(256)...), mk(2, 1, 0, 2))
	fromAnswers(t, api.ErrFull, mostGaps, mk(1, 1, 0, evens(32767)...))
	fromAnswers(t, api.OK, 0, mk(1, 1, 65535), mk(2, 1, 65535))
	fromAnswers(t, api.ErrFull, 0, mk(1, 1, 1), mk(2, 1, 1, 3))
}

// Many marks of one counter behind a gap each: so many are counted all together.
func TestFromCountsTheGapsOfAllMarks(t *testing.T) {
	var l []api.Mark
	for n := range mostGaps {
		l = append(l, mk(n/16, 1+n%16, n%3, n%3+2))
	}
	fromAnswers(t, api.OK, mostGaps, l...)
	fromAnswers(t, api.ErrFull, mostGaps-1, l...)
	fromAnswers(t, api.ErrFull, mostGaps, append(l, mk(16, 1, 0, 2))...)
	fromAnswers(t, api.OK, mostGaps, append(l, mk(16, 1, 1))...)
}

func TestFromOfNumbers(t *testing.T) {
	for _, x := range []struct {
		origin int
		want   api.Errno
	}{{math.MinInt, api.ErrForm}, {-1, api.ErrForm}, {0, api.OK}, {1, api.OK}, {62, api.OK}, {63, api.OK}, {64, api.ErrForm}, {256, api.ErrForm}, {math.MaxInt, api.ErrForm}} {
		fromAnswers(t, x.want, 9, mk(x.origin, 1, 1))
		fromAnswers(t, x.want, 9, mk(x.origin, 1, 1, 3))
	}
	for _, x := range []struct {
		epoch int
		want  api.Errno
	}{{math.MinInt, api.ErrForm}, {-1, api.ErrForm}, {0, api.ErrForm}, {1, api.OK}, {2, api.OK}, {65534, api.OK}, {65535, api.OK}, {65536, api.ErrForm}, {65537, api.ErrForm}, {math.MaxInt, api.ErrForm}} {
		fromAnswers(t, x.want, 9, mk(0, x.epoch, 1))
		fromAnswers(t, x.want, 9, mk(1, x.epoch, 1, 3))
	}
	for _, x := range []struct {
		upto int
		want api.Errno
	}{{math.MinInt, api.ErrForm}, {-2, api.ErrForm}, {-1, api.ErrForm}, {0, api.ErrForm}, {1, api.OK}, {2, api.OK}, {65534, api.OK}, {65535, api.OK}, {65536, api.ErrForm}, {65537, api.ErrForm}, {math.MaxInt - 1, api.ErrForm}, {math.MaxInt, api.ErrForm}} {
		fromAnswers(t, x.want, 9, mk(1, 1, x.upto))
	}
}

func TestFromOfMore(t *testing.T) {
	fromAnswers(t, api.ErrForm, 9, api.Mark{Origin: 1, Epoch: 1, Upto: 0, More: []int{}})
	fromAnswers(t, api.ErrForm, 9, api.Mark{Origin: 1, Epoch: 1, Upto: 0, More: make([]int, 0, 9)})
	for _, upto := range []int{0, 1, 2, 3, 100, 65532, 65533} {
		for _, c := range []int{math.MinInt, -1, 0, 1, upto - 1, upto, upto + 1} {
			fromAnswers(t, api.ErrForm, 9, mk(1, 1, upto, c))
			fromAnswers(t, api.ErrForm, 9, mk(1, 1, upto, c, 65535))
		}
		fromAnswers(t, api.OK, 9, mk(1, 1, upto, upto+2))
		fromAnswers(t, api.OK, 9, mk(1, 1, upto, 65535))
		for _, c := range []int{65536, 65537, 131072, 1 << 32, math.MaxInt} {
			fromAnswers(t, api.ErrForm, 9, mk(1, 1, upto, c))
			fromAnswers(t, api.ErrForm, 9, mk(1, 1, upto, upto+2, c))
		}
	}
	for _, upto := range []int{65534, 65535} { // behind these there is none
		for _, c := range []int{1, upto, upto + 1, upto + 2, 65535, 65536} {
			fromAnswers(t, api.ErrForm, 9, mk(1, 1, upto, c))
		}
	}
	for _, upto := range []int{-2, -1} { // 0 and 1 would be behind these
		for _, c := range []int{0, 1, 2} {
			fromAnswers(t, api.ErrForm, 9, mk(1, 1, upto, c))
		}
	}
	for _, upto := range []int{math.MinInt, math.MaxInt - 1, math.MaxInt} { // two more than the greatest number is a small one
		for _, c := range []int{math.MinInt, 1, 2, 65535, math.MaxInt} {
			fromAnswers(t, api.ErrForm, 9, mk(1, 1, upto, c))
		}
	}
}

func TestFromOfMoreThatRisesNot(t *testing.T) {
	for _, more := range [][]int{
		{3, 3}, {3, 4, 4}, {3, 3, 4}, {3, 5, 5, 7}, {4, 3}, {3, 5, 4}, {5, 3, 4}, {3, 4, 5, 6, 3}, {65535, 3}, {65535, 65535}, {3, math.MinInt}, {3, math.MaxInt, 5},
	} {
		fromAnswers(t, api.ErrForm, 9, mk(1, 1, 1, more...))
		slices.Sort(more)
		if more = slices.Compact(more); more[0] >= 3 && more[len(more)-1] <= most {
			fromAnswers(t, api.OK, 9, mk(1, 1, 1, more...))
		}
	}
}

func TestFromOfMarksInAnotherOrder(t *testing.T) {
	for _, l := range [][]api.Mark{
		marks(mk(1, 1, 1), mk(1, 1, 1)), // twice
		marks(mk(1, 1, 1), mk(1, 1, 2)),
		marks(mk(1, 1, 1), mk(1, 1, 0, 2)),
		marks(mk(0, 1, 1), mk(0, 1, 1)),
		marks(mk(63, 65535, 1), mk(63, 65535, 1)),
		marks(mk(1, 1, 1), mk(1, 2, 1), mk(1, 2, 1)),
		marks(mk(1, 1, 1), mk(1, 2, 1), mk(1, 1, 1)),
		marks(mk(2, 1, 1), mk(1, 1, 1)), // by Origin
		marks(mk(2, 1, 1), mk(1, 2, 1)),
		marks(mk(2, 1, 1), mk(0, 65535, 1)),
		marks(mk(10, 1, 1), mk(9, 1, 1)),
		marks(mk(1, 1, 1), mk(3, 1, 1), mk(2, 1, 1)),
		marks(mk(1, 2, 1), mk(1, 1, 1)), // by Epoch
		marks(mk(1, 65535, 1), mk(1, 1, 1)),
		marks(mk(1, 10, 1), mk(1, 9, 1)),
		marks(mk(1, 256, 1), mk(1, 255, 1)),
		marks(mk(1, 1, 1), mk(1, 3, 1), mk(1, 2, 1), mk(1, 4, 1)),
	} {
		fromAnswers(t, api.ErrForm, mostGaps, l...)
	}
}

func TestFromOfAWrongMarkAmongRightOnes(t *testing.T) {
	right := marks(mk(1, 1, 1), mk(1, 2, 0, 2), mk(2, 1, 9), mk(3, 7, 1, 4))
	fromAnswers(t, api.OK, 9, right...)
	for at := range right {
		for _, turn := range []func(m *api.Mark){
			func(m *api.Mark) { m.Origin = -1 },
			func(m *api.Mark) { m.Origin = 64 },
			func(m *api.Mark) { m.Epoch = 0 },
			func(m *api.Mark) { m.Epoch = 65536 },
			func(m *api.Mark) { m.Upto = -1 },
			func(m *api.Mark) { m.Upto = 65536 },
			func(m *api.Mark) { m.Upto, m.More = 0, nil },
			func(m *api.Mark) { m.More = []int{m.Upto + 1} },
			func(m *api.Mark) { m.More = []int{65536} },
			func(m *api.Mark) { *m = api.Mark{} },
		} {
			l := slices.Clone(right)
			turn(&l[at])
			fromAnswers(t, api.ErrForm, 9, l...)
			fromAnswers(t, api.ErrForm, 0, l...) // ErrForm ahead of ErrFull, wherever the wrong mark is
			fromAnswers(t, api.ErrRange, -1, l...)
			fromAnswers(t, api.ErrRange, 257, l...)
		}
	}
}

func TestFromTellsTheErrorThatIsNamedFirst(t *testing.T) {
	wrong := mk(1, 1, 0)
	full := mk(1, 1, 0, evens(257)...)
	fromAnswers(t, api.ErrRange, -1, wrong)
	fromAnswers(t, api.ErrRange, 257, wrong)
	fromAnswers(t, api.ErrRange, -1, full)
	fromAnswers(t, api.ErrRange, 257, full)
	fromAnswers(t, api.ErrRange, 257, full, wrong)
	fromAnswers(t, api.ErrForm, 256, full, wrong)
	fromAnswers(t, api.ErrForm, 256, wrong, full)
	fromAnswers(t, api.ErrForm, 256, full, full)
	fromAnswers(t, api.ErrForm, 0, mk(2, 1, 0, 2), mk(1, 1, 0, 2))
	fromAnswers(t, api.ErrForm, 0, mk(1, 1, 0, 2, 2))
	fromAnswers(t, api.ErrFull, 256, full)
}

// someMarks answers marks that are mostly right.
func someMarks(rnd *rand.Rand) []api.Mark {
	var l []api.Mark
	origin, epoch := 0, 0
	for range rnd.Intn(5) {
		if rnd.Intn(2) == 0 {
			origin, epoch = origin+1+rnd.Intn(3), 1+rnd.Intn(3)
		} else {
			epoch += 1 + rnd.Intn(3)
		}
		m := mk(origin, epoch, rnd.Intn(5))
		for c := m.Upto + 2 + rnd.Intn(2); rnd.Intn(3) > 0 || m.Upto == 0 && len(m.More) == 0; c += 1 + rnd.Intn(3) {
			m.More = append(m.More, c)
		}
		l = append(l, m)
	}
	return l
}

// turned changes one number of marks, or their order.
func turned(rnd *rand.Rand, l []api.Mark) []api.Mark {
	if len(l) == 0 {
		return l
	}
	at, by := rnd.Intn(len(l)), []int{-1, 1, -70000, 70000, math.MaxInt}[rnd.Intn(5)]
	switch m := &l[at]; rnd.Intn(6) {
	case 0:
		m.Origin += by
	case 1:
		m.Epoch += by
	case 2:
		m.Upto += by
	case 3:
		if len(m.More) > 0 {
			m.More[rnd.Intn(len(m.More))] += by
		}
	case 4:
		to := rnd.Intn(len(l))
		l[at], l[to] = l[to], l[at]
	case 5:
		m.More = m.More[:rnd.Intn(len(m.More)+1)]
	}
	return l
}

func TestFromOfAnyMarks(t *testing.T) {
	rnd := rand.New(rand.NewSource(14))
	met := map[api.Errno]int{}
	for range 20000 {
		l := someMarks(rnd)
		if rnd.Intn(2) == 0 {
			l = turned(rnd, l)
		}
		met[checkFrom(t, rnd.Intn(12)-1, l)]++
	}
	for _, e := range []api.Errno{api.OK, api.ErrRange, api.ErrForm, api.ErrFull} {
		if met[e] < 100 {
			t.Errorf("%d: met %d times", e, met[e])
		}
	}
}
