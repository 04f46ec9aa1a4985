package line_test

import (
	"fmt"
	"math"
	"slices"
	"testing"

	"portage/api"
	"portage/line"
)

// P19.2

// abcd makes a line of delay 3 on which a needs none, b one, c and d two.
func abcd(t *testing.T) *line.Line {
	t.Helper()
	return newLine(t, 3, says("a"), tick(), tick(), says("b"), tick(), says("cd"), tick())
}

// needs asks that the bytes of a line need so many ticks, one behind the other; such a line of abcd's.
func needs(t *testing.T, l *line.Line, text string, ticks ...int) {
	t.Helper()
	has(t, l, text)
	wants := make([]string, 5)
	for i, n := range ticks {
		wants[n] += text[i : i+1]
	}
	comes(t, l, wants...)
}

func TestBytesOfAbcd(t *testing.T) {
	needs(t, abcd(t), "abcd", 0, 1, 2, 2)
}

func TestDrop(t *testing.T) {
	ticks := []int{0, 1, 2, 2}
	for at := range 5 {
		for n := range 5 - at {
			l := abcd(t)
			does(t, l, drop(at, n))
			needs(t, l, "abcd"[:at]+"abcd"[at+n:], slices.Delete(slices.Clone(ticks), at, at+n)...)
		}
	}
}

func TestDropOfMany(t *testing.T) {
	all := string(some(room))
	for _, x := range [][2]int{{0, room}, {0, room - 1}, {1, room - 1}, {room - 1, 1}, {room, 0}, {0, 0}, {17, 40000}, {room / 2, room / 2}} {
		at, n := x[0], x[1]
		l := newLine(t, 1, says(all), drop(at, n))
		has(t, l, all[:at]+all[at+n:])
		comes(t, l, "", all[:at]+all[at+n:])
	}
}

func TestDropOfALineWithoutBytes(t *testing.T) {
	empty := func() *line.Line { return newLine(t, 2) }
	l := empty()
	does(t, l, drop(0, 0))
	alike(t, "Drop(0, 0)", l, empty())
	for _, x := range [][2]int{{0, 1}, {1, 0}, {1, 1}, {-1, 0}, {-1, 1}, {0, -1}, {1, -1}} {
		refuses(t, empty, drop(x[0], x[1]), api.ErrRange)
	}
	// What is behind a Take and behind a Drop is none any more.
	taken := func() *line.Line { return newLine(t, 0, says("abc"), take()) }
	dropped := func() *line.Line { return newLine(t, 0, says("abc"), drop(0, 3)) }
	refuses(t, taken, drop(0, 1), api.ErrRange)
	refuses(t, dropped, drop(0, 1), api.ErrRange)
}

func TestDropOutOfRange(t *testing.T) {
	make := func() *line.Line { return abcd(t) }
	for _, x := range [][2]int{
		{-1, 0}, {-1, 1}, {-1, 2}, {-1, 5}, {-2, 4}, {0, -1}, {2, -1}, {4, -1}, {5, -1}, {-1, -1},
		{0, 5}, {1, 4}, {2, 3}, {3, 2}, {4, 1}, {5, 0}, {6, 0}, {3, 3}, {4, 4},
		{math.MaxInt, math.MaxInt}, {math.MaxInt, 1}, {1, math.MaxInt}, {math.MaxInt, 2}, {2, math.MaxInt}, {math.MaxInt, 4},
		{math.MaxInt / 2, math.MaxInt/2 + 2}, {math.MaxInt/2 + 1, math.MaxInt/2 + 1}, {math.MaxInt - 1, math.MaxInt - 1},
		{math.MaxInt, math.MinInt}, {math.MinInt, math.MaxInt}, {math.MinInt, math.MinInt}, {math.MaxInt, -math.MaxInt}, {math.MinInt, 0}, {0, math.MinInt},
		{5, -5}, {8, -4}, {math.MaxInt32, math.MaxInt32}, {1 << 32, 1}, {0, 1 << 32}, {1 << 32, 0},
	} {
		refuses(t, make, drop(x[0], x[1]), api.ErrRange)
	}
	for _, n := range wide {
		refuses(t, make, drop(n, 0), api.ErrRange)
		refuses(t, make, drop(0, n), api.ErrRange)
		refuses(t, make, drop(n, 1), api.ErrRange)
		refuses(t, make, drop(1, n), api.ErrRange)
	}
}

func TestFlip(t *testing.T) {
	for at := range 4 {
		for mask := 1; mask < 256; mask++ {
			l := abcd(t)
			does(t, l, flip(at, mask))
			want := []byte("abcd")
			want[at] ^= byte(mask)
			needs(t, l, string(want), 0, 1, 2, 2)
		}
	}
}

// Of a mask just the lowest eight bits turn.
func TestFlipOfMasksBeyond(t *testing.T) {
	for _, x := range []struct {
		mask int
		bits byte
	}{
		{1, 1}, {128, 128}, {255, 255}, {257, 1}, {256 + 128, 128}, {511, 255}, {-1, 255}, {-2, 254}, {-128, 128}, {-255, 1}, {-257, 255}, {-129, 127},
		{math.MaxInt, 255}, {math.MinInt + 1, 1}, {math.MinInt + 255, 255}, {1<<31 + 5, 5}, {1<<32 + 6, 6}, {-1 << 40, 0}, {math.MinInt, 0}, {0, 0}, {256, 0}, {-256, 0}, {512, 0}, {1 << 31, 0}, {1 << 32, 0}, {math.MaxInt - 255, 0},
	} {
		for at := range 4 {
			if x.bits == 0 {
				refuses(t, func() *line.Line { return abcd(t) }, flip(at, x.mask), api.ErrForm)
				continue
			}
			l := abcd(t)
			does(t, l, flip(at, x.mask))
			want := []byte("abcd")
			want[at] ^= x.bits
			needs(t, l, string(want), 0, 1, 2, 2)
		}
	}
}

func TestFlipWhereThereIsNoByte(t *testing.T) {
	make := func() *line.Line { return abcd(t) }
	empty := func() *line.Line { return newLine(t, 2) }
	// A place is asked for ahead of the mask.
	for _, mask := range []int{0, 1, 128, 255, 256, 257, -1, -256} {
		for _, at := range append([]int{-2, -1, 4, 5, 255}, wide...) {
			refuses(t, make, flip(at, mask), api.ErrRange)
		}
		for _, at := range []int{-1, 0, 1} {
			refuses(t, empty, flip(at, mask), api.ErrRange)
			refuses(t, func() *line.Line { return newLine(t, 0, says("abc"), take()) }, flip(at, mask), api.ErrRange)
			refuses(t, func() *line.Line { return newLine(t, 0, says("abc"), drop(0, 3)) }, flip(at, mask), api.ErrRange)
		}
		refuses(t, func() *line.Line { return newLine(t, 0, says("abc"), drop(2, 1)) }, flip(2, mask), api.ErrRange)
	}
}

func TestFlipAtTheEdge(t *testing.T) {
	all := some(room)
	full := func() *line.Line { return newLine(t, 1, put(all)) }
	for _, at := range []int{0, 1, room / 2, room - 1} {
		l := full()
		does(t, l, flip(at, 9))
		want := slices.Clone(all)
		want[at] ^= 9
		comes(t, l, "", string(want))
	}
	refuses(t, full, flip(room, 9), api.ErrRange)
	refuses(t, full, flip(room-1, 256), api.ErrForm)
}

// A byte turned twice with one mask is as it was.
func TestFlipTwice(t *testing.T) {
	for at := range 4 {
		for _, mask := range []int{1, 128, 255, 257, -1, 77} {
			l := abcd(t)
			does(t, l, flip(at, mask), flip(at, mask))
			alike(t, fmt.Sprintf("%d turned twice with %d", at, mask), l, abcd(t))
			l = abcd(t)
			does(t, l, flip(at, mask), flip(at, mask+256))
			alike(t, fmt.Sprintf("%d turned twice with %d", at, mask), l, abcd(t))
		}
	}
}

func TestInsert(t *testing.T) {
	ticks := []int{0, 1, 2, 2}
	for at := range 5 {
		for _, b := range []byte{0, 'x', 255} {
			l := abcd(t)
			does(t, l, insert(at, b))
			needs(t, l, "abcd"[:at]+string([]byte{b})+"abcd"[at:], slices.Insert(slices.Clone(ticks), at, ticks[min(at, 3)])...)
		}
	}
}

// A line without bytes: what is inserted needs delay ticks, whatever was there.
func TestInsertIntoALineWithoutBytes(t *testing.T) {
	for _, delay := range []int{0, 1, 2, longest} {
		for _, calls := range [][]call{
			nil,
			{tick(), tick()},
			{says("abc"), drop(0, 3)},
			{says("abc"), tick(), drop(0, 3), tick()},
			{put(nil)},
		} {
			l := newLine(t, delay, calls...)
			does(t, l, insert(0, 'x'))
			has(t, l, "x")
			comes(t, l, append(make([]string, delay), "x")...)
		}
		l := newLine(t, delay, says("abc"))
		ticks(t, l, delay)
		takes(t, l, "abc")
		does(t, l, insert(0, 'x'))
		comes(t, l, append(make([]string, delay), "x")...)
	}
}

// At the end it needs as many as the last one, be it fewer than delay.
func TestInsertAtTheEnd(t *testing.T) {
	const delay = 5
	for passed := range 8 {
		l := newLine(t, delay, says("ab"))
		ticks(t, l, passed)
		does(t, l, insert(2, 'x'), insert(3, 'y'), says("z"))
		has(t, l, "abxyz")
		wants := make([]string, delay+1)
		wants[max(delay-passed, 0)] += "abxy"
		wants[delay] += "z"
		comes(t, l, wants...)
	}
}

// Between two bytes it comes with the one behind it, not with the one ahead.
func TestInsertBetween(t *testing.T) {
	l := newLine(t, 4, says("a"), tick(), tick(), says("b"), insert(1, 'x'))
	has(t, l, "axb")
	comes(t, l, "", "", "a", "", "xb")
	l = newLine(t, 4, says("a"), tick(), tick(), says("b"), insert(0, 'x'))
	comes(t, l, "", "", "xa", "", "b")
	l = newLine(t, 4, says("a"), tick(), tick(), says("b"), drop(0, 1), insert(0, 'x'), tick(), drop(1, 1), insert(1, 'y'))
	comes(t, l, "", "", "", "xy")
}

func TestInsertOutOfRange(t *testing.T) {
	for _, at := range append([]int{-2, -1, 5, 6, 255}, wide...) {
		refuses(t, func() *line.Line { return abcd(t) }, insert(at, 'x'), api.ErrRange)
	}
	for _, at := range []int{-1, 1, 2} {
		refuses(t, func() *line.Line { return newLine(t, 2) }, insert(at, 'x'), api.ErrRange)
		refuses(t, func() *line.Line { return newLine(t, 0, says("abc"), take()) }, insert(at, 'x'), api.ErrRange)
		refuses(t, func() *line.Line { return newLine(t, 0, says("abc"), drop(0, 3)) }, insert(at, 'x'), api.ErrRange)
	}
}

func TestInsertIntoAFullLine(t *testing.T) {
	full := func() *line.Line { return newLine(t, 1, put(some(room))) }
	for _, at := range []int{0, 1, room / 2, room - 1, room} {
		refuses(t, full, insert(at, 'x'), api.ErrFull)
	}
	// A place is asked for ahead of the room.
	for _, at := range []int{-1, room + 1, room + 2, math.MinInt, math.MaxInt} {
		refuses(t, full, insert(at, 'x'), api.ErrRange)
	}
	// Bytes that need none stand there still.
	ripe := func() *line.Line { return newLine(t, 1, put(some(room)), tick()) }
	refuses(t, ripe, insert(0, 'x'), api.ErrFull)
	// One less, and it has room; then no more.
	for _, at := range []int{0, 1, room / 2, room - 1} {
		all := some(room - 1)
		l := newLine(t, 1, put(all), insert(at, 'x'))
		for _, c := range []call{insert(at, 'y'), insert(0, 'y'), says("y")} {
			if e := c.do(l); e != api.ErrFull {
				t.Fatalf("%s: %d", c.text, e)
			}
		}
		comes(t, l, "", string(slices.Insert(slices.Clone(all), at, 'x')))
	}
	l := newLine(t, 1, put(some(room)), drop(3, 1), insert(3, 'x'))
	want := some(room)
	want[3] = 'x'
	comes(t, l, "", string(want))
}

func TestANilLine(t *testing.T) {
	var l *line.Line
	calls := []call{
		put(nil), says("a"), put(some(room)), put(some(room + 1)), tick(),
		drop(0, 0), drop(-1, 0), drop(0, 1), drop(0, -1), drop(math.MaxInt, math.MaxInt),
		flip(0, 1), flip(-1, 1), flip(0, 0), flip(0, 256), flip(math.MinInt, math.MinInt),
		insert(0, 'x'), insert(-1, 'x'), insert(1, 'x'), insert(math.MaxInt, 'x'),
	}
	for _, c := range calls {
		if e := c.do(l); e != api.ErrState {
			t.Fatalf("%s: %d", c.text, e)
		}
	}
	if p := l.Take(); p != nil {
		t.Fatalf("Take: %v", p)
	}
	if p := l.Bytes(); len(p) != 0 || l.Len() != 0 {
		t.Fatalf("Bytes: %v; Len: %d", p, l.Len())
	}
}
