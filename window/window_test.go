package window

import (
	"math"
	"math/rand"
	"slices"
	"testing"
)

// numbers answers all numbers near 0, some far off, and those at the ends of Go's int.
func numbers() []int {
	var out []int
	for n := -260; n <= 260; n++ {
		out = append(out, n)
	}
	for n := range 130 {
		out = append(out, math.MinInt+n, math.MaxInt-n)
	}
	r := rand.New(rand.NewSource(6))
	for range 100 {
		out = append(out, int(r.Uint64()))
	}
	return out
}

// few answers some of the numbers, for what takes two or three of them.
func few() []int {
	return []int{math.MinInt, math.MinInt + 1, math.MinInt + 127, -1000, -129, -128, -127, -65, -64, -1,
		0, 1, 2, 63, 64, 65, 126, 127, 128, 129, 255, 256, 1000, math.MaxInt - 127, math.MaxInt - 1, math.MaxInt}
}

func sizes() []int {
	return []int{math.MinInt, -129, -128, -1, 0, 1, 2, 4, 63, 64, 65, 126, 127, 128, 129, 192, 256, 257, math.MaxInt}
}

// lists answers lists of all kinds: without elements, with numbers that are the same when reduced, with all of them, at random.
func lists() [][]int {
	var all, backwards []int
	for n := range 128 {
		all = append(all, n)
		backwards = append(backwards, 127-n-256)
	}
	out := [][]int{nil, {}, {0}, {127}, {-1}, {128}, {5, 5, 5}, {1, 129, 127}, {127, -1, 255}, {0, 128, -128, math.MinInt},
		{127, 126, 2, 1, 0}, {math.MaxInt, math.MinInt}, all, backwards, all[1:], all[:127], append(slices.Clone(all), backwards...)}
	r := rand.New(rand.NewSource(66))
	for n := range 40 {
		l := make([]int, n)
		for i := range l {
			l[i] = int(r.Uint64())
			if i%2 == 0 {
				l[i] = r.Intn(128)
			}
		}
		out = append(out, l)
	}
	return out
}

func reckonReduced(n int) int {
	return (n%128 + 128) % 128
}

func reckonWay(from, to int) int {
	way := 0
	for n := reckonReduced(from); n != reckonReduced(to); n = (n + 1) % 128 {
		way++
	}
	return way
}

func reckonWindow(base, size int) []int {
	var out []int
	for n := reckonReduced(base); len(out) < size && len(out) < 128; n = (n + 1) % 128 {
		out = append(out, n)
	}
	return out
}

func reckonAmong(l []int, n int) bool {
	return slices.ContainsFunc(l, func(m int) bool { return reckonReduced(m) == n })
}

func reckonSorted(base int, l []int) []int {
	return slices.DeleteFunc(reckonWindow(base, 128), func(n int) bool { return !reckonAmong(l, n) })
}

func reckonMissing(base, to int, have []int) []int {
	return slices.DeleteFunc(reckonWindow(base, reckonWay(base, to)), func(n int) bool { return reckonAmong(have, n) })
}

func gather(base, size int) []int {
	return slices.Collect(Each(base, size))
}

// moved answers l's numbers with k, which may go round at the ends of Go's int.
func moved(l []int, k int) []int {
	var out []int
	for _, n := range l {
		out = append(out, n+k)
	}
	return out
}

func reduced(l []int) []int {
	var out []int
	for _, n := range l {
		out = append(out, reckonReduced(n))
	}
	return out
}

// P6.1

func TestMod(t *testing.T) {
	if Mod != 128 {
		t.Error(Mod)
	}
}

func TestReduce(t *testing.T) {
	for _, c := range []struct{ n, want int }{
		{0, 0}, {1, 1}, {126, 126}, {127, 127}, {128, 0}, {129, 1}, {255, 127}, {256, 0}, {1000, 104},
		{-1, 127}, {-2, 126}, {-127, 1}, {-128, 0}, {-129, 127}, {-256, 0}, {-257, 127},
		{math.MinInt, 0}, {math.MinInt + 1, 1}, {math.MaxInt, 127}, {math.MaxInt - 1, 126},
	} {
		if n := Reduce(c.n); n != c.want {
			t.Errorf("Reduce(%d): %d", c.n, n)
		}
	}
	for _, n := range numbers() {
		if got := Reduce(n); got != reckonReduced(n) {
			t.Errorf("Reduce(%d): %d", n, got)
		}
	}
}

func TestWay(t *testing.T) {
	for _, c := range []struct{ from, to, want int }{
		{126, 3, 5}, {3, 126, 123}, {0, 0, 0}, {0, 1, 1}, {1, 0, 127}, {0, 127, 127}, {127, 0, 1}, {127, 127, 0},
		{0, 64, 64}, {64, 0, 64}, {0, 128, 0}, {-1, 0, 1}, {0, -1, 127}, {-1, 127, 0}, {300, -300, 40},
		{math.MaxInt, math.MinInt, 1}, {math.MinInt, math.MaxInt, 127}, {math.MinInt, math.MinInt, 0},
		{0, math.MinInt, 0}, {math.MinInt, 0, 0}, {1, math.MinInt, 127}, {math.MaxInt, 0, 1}, {0, math.MaxInt, 127}, {-2, math.MaxInt, 1},
	} {
		if way := Way(c.from, c.to); way != c.want {
			t.Errorf("Way(%d, %d): %d", c.from, c.to, way)
		}
	}
	for _, from := range few() {
		for _, to := range numbers() {
			if way := Way(from, to); way != reckonWay(from, to) {
				t.Errorf("Way(%d, %d): %d", from, to, way)
			}
		}
	}
}

func TestIn(t *testing.T) {
	for _, c := range []struct {
		base, size, n int
		want          bool
	}{
		{126, 4, 126, true}, {126, 4, 127, true}, {126, 4, 0, true}, {126, 4, 1, true}, {126, 4, 2, false}, {126, 4, 125, false},
		{0, 0, 0, false}, {127, 0, 127, false}, {0, -1, 0, false}, {0, -1, 127, false}, {0, math.MinInt, 127, false},
		{0, 1, 0, true}, {0, 1, 1, false}, {0, 1, 127, false}, {127, 1, 127, true}, {127, 1, 0, false}, {127, 2, 0, true},
		{0, 63, 62, true}, {0, 63, 63, false}, {0, 64, 63, true}, {0, 64, 64, false}, {0, 65, 64, true}, {0, 65, 65, false},
		{5, 127, 3, true}, {5, 127, 4, false}, {5, 128, 4, true}, {5, 129, 4, true}, {5, math.MaxInt, 4, true},
		{-2, 4, 1, true}, {-2, 4, 129, true}, {-2, 4, 130, false}, {254, 4, -127, true},
		{math.MaxInt, 2, math.MinInt, true}, {math.MaxInt, 1, math.MinInt, false}, {math.MinInt, 128, math.MaxInt, true}, {math.MinInt, 127, math.MaxInt, false},
	} {
		if in := In(c.base, c.size, c.n); in != c.want {
			t.Errorf("In(%d, %d, %d): %v", c.base, c.size, c.n, in)
		}
	}
	for _, base := range few() {
		for _, size := range sizes() {
			window := reckonWindow(base, size)
			for _, n := range numbers() {
				if in := In(base, size, n); in != slices.Contains(window, reckonReduced(n)) {
					t.Errorf("In(%d, %d, %d): %v", base, size, n, in)
				}
			}
		}
	}
}

func TestNext(t *testing.T) {
	for _, c := range []struct{ n, want int }{
		{0, 1}, {1, 2}, {126, 127}, {127, 0}, {128, 1}, {255, 0}, {-1, 0}, {-2, 127}, {-129, 0},
		{math.MaxInt, 0}, {math.MaxInt - 1, 127}, {math.MinInt, 1},
	} {
		if n := Next(c.n); n != c.want {
			t.Errorf("Next(%d): %d", c.n, n)
		}
	}
	for _, n := range numbers() {
		if next := Next(n); next != (reckonReduced(n)+1)%128 {
			t.Errorf("Next(%d): %d", n, next)
		}
	}
}

// P6.2

func TestEach(t *testing.T) {
	for _, c := range []struct {
		base, size int
		want       []int
	}{
		{0, 0, nil}, {127, 0, nil}, {5, -1, nil}, {5, math.MinInt, nil},
		{0, 1, []int{0}}, {127, 1, []int{127}}, {127, 2, []int{127, 0}}, {126, 4, []int{126, 127, 0, 1}},
		{-2, 4, []int{126, 127, 0, 1}}, {254, 4, []int{126, 127, 0, 1}}, {128, 2, []int{0, 1}},
		{math.MaxInt, 3, []int{127, 0, 1}}, {math.MinInt, 2, []int{0, 1}},
	} {
		if got := gather(c.base, c.size); !slices.Equal(got, c.want) {
			t.Errorf("Each(%d, %d): %d", c.base, c.size, got)
		}
	}
	for _, base := range few() {
		for _, size := range sizes() {
			if got := gather(base, size); !slices.Equal(got, reckonWindow(base, size)) {
				t.Errorf("Each(%d, %d): %d", base, size, got)
			}
		}
	}
}

func TestEachIsNeverNil(t *testing.T) {
	for _, base := range few() {
		for _, size := range sizes() {
			if Each(base, size) == nil {
				t.Errorf("Each(%d, %d): nil", base, size)
			}
		}
	}
}

func TestEachIsLeftAndGoneOverAgain(t *testing.T) {
	all := Each(126, 4)
	for left := range 5 {
		var got []int
		// called by hand, since a range tells of no call behind its end but by a panic
		all(func(n int) bool {
			got = append(got, n)
			return len(got) <= left
		})
		if !slices.Equal(got, []int{126, 127, 0, 1}[:min(left+1, 4)]) {
			t.Errorf("left behind %d: %d", left, got)
		}
	}
	for range 2 {
		if got := slices.Collect(all); !slices.Equal(got, []int{126, 127, 0, 1}) {
			t.Errorf("again: %d", got)
		}
	}
	n := 0
	for range all {
		for range all {
			n++
		}
	}
	if n != 16 {
		t.Errorf("one within the other: %d", n)
	}
}

func TestSort(t *testing.T) {
	for _, c := range []struct {
		base int
		l    []int
		want []int
	}{
		{0, nil, nil}, {0, []int{}, nil}, {127, nil, nil}, {math.MinInt, nil, nil},
		{0, []int{0}, []int{0}}, {0, []int{-1}, []int{127}}, {0, []int{128}, []int{0}},
		{0, []int{3, 1, 2}, []int{1, 2, 3}}, {2, []int{3, 1, 2}, []int{2, 3, 1}}, {126, []int{1, 129, 127}, []int{127, 1}},
		{126, []int{125, 126, 127, 0}, []int{126, 127, 0, 125}}, {-2, []int{125, 126, 127, 0}, []int{126, 127, 0, 125}},
		{0, []int{5, 5, 5}, []int{5}}, {0, []int{5, 133, -123}, []int{5}}, {64, []int{63, 64, 65}, []int{64, 65, 63}},
		{0, []int{math.MaxInt, math.MinInt}, []int{0, 127}}, {math.MaxInt, []int{math.MinInt, math.MaxInt}, []int{127, 0}},
	} {
		if got := Sort(c.base, c.l); !slices.Equal(got, c.want) {
			t.Errorf("Sort(%d, %d): %d", c.base, c.l, got)
		}
	}
	for _, base := range few() {
		for _, l := range lists() {
			if got := Sort(base, l); !slices.Equal(got, reckonSorted(base, l)) {
				t.Errorf("Sort(%d, %d): %d", base, l, got)
			}
		}
	}
}

func TestMissing(t *testing.T) {
	for _, c := range []struct {
		base, to int
		have     []int
		want     []int
	}{
		{126, 2, []int{127}, []int{126, 0, 1}}, {126, 2, nil, []int{126, 127, 0, 1}}, {126, 2, []int{}, []int{126, 127, 0, 1}},
		{126, 2, []int{1, 0, 127, 126}, nil}, {126, 2, []int{126, 127, 0, 1, 2, 125}, nil}, {126, 2, []int{2, 125}, []int{126, 127, 0, 1}},
		{0, 0, nil, nil}, {5, 5, []int{5, 6}, nil}, {5, 133, nil, nil}, {-1, 127, nil, nil}, {math.MinInt, 0, nil, nil},
		{0, 3, []int{129, -126}, []int{0}}, {0, 3, []int{1, 1, 129}, []int{0, 2}}, {-2, 130, []int{255}, []int{126, 0, 1}},
		{127, 0, nil, []int{127}}, {127, 0, []int{-1}, nil}, {0, 1, []int{127}, []int{0}},
		{math.MaxInt, 2, []int{math.MinInt}, []int{127, 1}}, {126, math.MinInt, []int{math.MaxInt}, []int{126}},
	} {
		if got := Missing(c.base, c.to, c.have); !slices.Equal(got, c.want) {
			t.Errorf("Missing(%d, %d, %d): %d", c.base, c.to, c.have, got)
		}
	}
	for _, base := range few() {
		for _, to := range few() {
			for _, have := range lists() {
				if got := Missing(base, to, have); !slices.Equal(got, reckonMissing(base, to, have)) {
					t.Errorf("Missing(%d, %d, %d): %d", base, to, have, got)
				}
			}
		}
	}
}

// P6.3

func TestWaysTogether(t *testing.T) {
	for _, a := range few() {
		for _, b := range few() {
			for _, c := range numbers() {
				if together := Reduce(Way(a, b) + Way(b, c)); together != Way(a, c) {
					t.Errorf("%d to %d to %d: %d", a, b, c, together)
				}
			}
		}
	}
}

func TestThereAndBack(t *testing.T) {
	for _, a := range few() {
		for _, b := range numbers() {
			want := 128
			if reckonReduced(a) == reckonReduced(b) {
				want = 0
			}
			if both := Way(a, b) + Way(b, a); both != want {
				t.Errorf("%d and %d: %d", a, b, both)
			}
		}
	}
}

// P6.4

func TestNumbersMovedRound(t *testing.T) {
	for _, a := range few() {
		for _, k := range numbers() {
			if got := Reduce(a + k); got != reckonReduced(Reduce(a)+Reduce(k)) {
				t.Errorf("Reduce(%d) moved by %d: %d", a, k, got)
			}
			if got := Next(a + k); got != reckonReduced(Next(a)+Reduce(k)) {
				t.Errorf("Next(%d) moved by %d: %d", a, k, got)
			}
			for _, b := range few() {
				if got := Way(a+k, b+k); got != Way(a, b) {
					t.Errorf("Way(%d, %d) moved by %d: %d", a, b, k, got)
				}
			}
		}
	}
}

func TestWindowsMovedRound(t *testing.T) {
	for _, k := range few() {
		for _, base := range few() {
			for _, size := range sizes() {
				if got := gather(base+k, size); !slices.Equal(got, reduced(moved(gather(base, size), k))) {
					t.Errorf("Each(%d, %d) moved by %d: %d", base, size, k, got)
				}
				for _, n := range few() {
					if In(base+k, size, n+k) != In(base, size, n) {
						t.Errorf("In(%d, %d, %d) moved by %d", base, size, n, k)
					}
				}
			}
		}
	}
}

func TestListsMovedRound(t *testing.T) {
	for _, k := range few() {
		for _, base := range few() {
			for _, l := range lists() {
				if got := Sort(base+k, moved(l, k)); !slices.Equal(got, reduced(moved(Sort(base, l), k))) {
					t.Errorf("Sort(%d, %d) moved by %d: %d", base, l, k, got)
				}
				for _, to := range []int{0, 127, base, base + 1, base - 1} {
					if got := Missing(base+k, to+k, moved(l, k)); !slices.Equal(got, reduced(moved(Missing(base, to, l), k))) {
						t.Errorf("Missing(%d, %d, %d) moved by %d: %d", base, to, l, k, got)
					}
				}
			}
		}
	}
}

// P6.5

func inCommon(base, size int) int {
	n := 0
	for old := range Each(base-size, size) {
		if In(base, size, old) {
			n++
		}
	}
	return n
}

func TestTheWindowJustAheadHasNoNumberInCommon(t *testing.T) {
	for _, base := range numbers() {
		for size := -2; size <= 64; size++ {
			if n := inCommon(base, size); n != 0 {
				t.Errorf("base %d, size %d: %d in common", base, size, n)
			}
		}
	}
}

func TestGreaterWindowsHaveNumbersInCommon(t *testing.T) {
	for _, base := range few() {
		for size := 65; size <= 128; size++ {
			if n := inCommon(base, size); n != 2*(size-64) {
				t.Errorf("base %d, size %d: %d in common", base, size, n)
			}
		}
	}
}

// What is handed in is neither changed nor kept, nor what lies in the room behind it; what is answered is new memory.

func TestHandedInStaysAsItIs(t *testing.T) {
	for _, l := range lists() {
		room := append(slices.Clone(l), 7, -7, 300, 7)
		was := slices.Clone(room)
		in := room[:len(l)]
		for _, out := range [][]int{Sort(3, in), Missing(3, 2, in), Missing(3, 3, in)} {
			for i := range out {
				out[i] = -99
			}
			_ = append(out, -1, -2, -3, -4)
		}
		if !slices.Equal(room, was) {
			t.Errorf("%d: %d", was, room)
		}
	}
}

func TestRoomBehindTheEndIsNotRead(t *testing.T) {
	room := []int{1, 2, 3, 4}
	if got := Sort(0, room[:2]); !slices.Equal(got, []int{1, 2}) {
		t.Errorf("%d", got)
	}
	if got := Missing(0, 5, room[:2]); !slices.Equal(got, []int{0, 3, 4}) {
		t.Errorf("%d", got)
	}
}

func TestAnswersAreNewMemory(t *testing.T) {
	for _, answer := range []func([]int) []int{
		func(l []int) []int { return Sort(126, l) },
		func(l []int) []int { return Missing(126, 2, l) },
	} {
		l := []int{127, 0}
		first := answer(l)
		kept := slices.Clone(first)
		l[0], l[1] = 126, 1
		if !slices.Equal(first, kept) {
			t.Errorf("it shares with what was handed in: %d", first)
		}
		second := answer([]int{127, 0})
		for i := range first {
			first[i] = -99
		}
		_ = append(first, -99)
		if !slices.Equal(second, kept) {
			t.Errorf("one shares with the other: %d", second)
		}
		if third := answer([]int{127, 0}); !slices.Equal(third, kept) {
			t.Errorf("it was kept: %d", third)
		}
	}
}
