package line_test

import (
	"strings"
	"testing"

	"portage/api"
	"portage/line"
)

// P19.1

func TestNew(t *testing.T) {
	for _, delay := range []int{0, 1, 2, 33, longest - 1, longest} {
		l := newLine(t, delay)
		has(t, l, "")
		takes(t, l, "")
		does(t, l, says("ab"))
		comes(t, l, append(make([]string, delay), "ab")...)
	}
}

func TestNewOfNoDelay(t *testing.T) {
	for _, delay := range append([]int{-2, -1, longest + 1, longest + 2, 127, 255, 256}, wide...) {
		if l, e := line.New(delay); l != nil || e != api.ErrRange {
			t.Fatalf("New(%d): %v, %d", delay, l, e)
		}
	}
}

func TestPut(t *testing.T) {
	l := newLine(t, 1)
	does(t, l, put(nil))
	has(t, l, "")
	does(t, l, put([]byte{}))
	has(t, l, "")
	does(t, l, says("a"))
	has(t, l, "a")
	does(t, l, says("bcd"), put(nil), says("e"))
	has(t, l, "abcde")
	does(t, l, put([]byte{0, 255}))
	has(t, l, "abcde\x00\xff")
	comes(t, l, "", "abcde\x00\xff")
}

// Putting nothing is no reason that anything comes, or that it comes later.
func TestPutOfNothingHoldsNothingUp(t *testing.T) {
	l := newLine(t, 2, says("a"), tick(), put(nil), tick())
	takes(t, l, "a")
	does(t, l, put(nil))
	takes(t, l, "")
	has(t, l, "")
}

func TestPutAtTheEdge(t *testing.T) {
	all := string(some(room))
	for _, delay := range []int{0, 1, longest} {
		one := newLine(t, delay, put(some(room)))
		has(t, one, all)
		more := newLine(t, delay, says(all[:1]), says(all[1:room-1]), says(all[room-1:]))
		has(t, more, all)
		alike(t, "all at once or in parts", one, more)
	}
}

func TestPutOfTooMany(t *testing.T) {
	for _, x := range []struct{ there, more int }{
		{0, room + 1}, {0, room + 2}, {0, 2 * room}, {1, room}, {1, room + 1}, {room - 1, 2}, {room, 1}, {room, 2}, {room, room}, {room / 2, room/2 + 1},
	} {
		make := func() *line.Line { return newLine(t, 1, put(some(x.there))) }
		refuses(t, make, put(some(x.more)), api.ErrFull)
	}
	full := newLine(t, 1, put(some(room)))
	does(t, full, put(nil), put([]byte{}))
	has(t, full, string(some(room)))
}

// What needs no tick any more is on its way till it is taken.
func TestPutBehindATakeThatMadeRoom(t *testing.T) {
	l := newLine(t, 1, put(some(room-3)), tick(), says("abc"))
	for _, n := range []int{1, 2, room} {
		if e := l.Put(some(n)); e != api.ErrFull {
			t.Fatalf("%d", e)
		}
	}
	takes(t, l, string(some(room-3)))
	has(t, l, "abc")
	if e := l.Put(some(room - 2)); e != api.ErrFull {
		t.Fatalf("%d", e)
	}
	does(t, l, put(some(room-3)))
	has(t, l, "abc"+string(some(room-3)))
	if e := l.Put([]byte("x")); e != api.ErrFull {
		t.Fatalf("%d", e)
	}
	comes(t, l, "", "abc"+string(some(room-3)))
}

func TestPutBehindADropThatMadeRoom(t *testing.T) {
	l := newLine(t, 1, put(some(room)), drop(room-2, 2))
	if e := l.Put([]byte("abc")); e != api.ErrFull {
		t.Fatalf("%d", e)
	}
	does(t, l, says("ab"))
	comes(t, l, "", string(some(room)[:room-2])+"ab")
}

func TestTick(t *testing.T) {
	l := newLine(t, 3)
	ticks(t, l, 70)
	has(t, l, "")
	takes(t, l, "")
	// Ticks that passed ahead make nothing come sooner.
	does(t, l, says("a"))
	ticks(t, l, 1)
	does(t, l, says("b"))
	ticks(t, l, 1)
	takes(t, l, "")
	has(t, l, "ab")
	ticks(t, l, 1)
	// Now a needs none, and b one: more ticks leave a as it is.
	has(t, l, "ab")
	ticks(t, l, 5)
	has(t, l, "ab")
	does(t, l, says("c"))
	ticks(t, l, 2)
	takes(t, l, "ab")
	takes(t, l, "")
	has(t, l, "c")
	ticks(t, l, 1)
	takes(t, l, "c")
}

// Bytes that have stood there for long need none, not less than none.
func TestTicksOfBytesThatNeedNone(t *testing.T) {
	for _, n := range []int{1, 2, 63, 64, 65, 255, 256, 257, 300, 70000} {
		l := newLine(t, 2, says("a"))
		ticks(t, l, 2+n)
		does(t, l, insert(1, 'b'), says("c"))
		has(t, l, "abc")
		comes(t, l, "ab", "", "c")
	}
}

func TestTakeInOrder(t *testing.T) {
	l := newLine(t, 3, says("ab"), tick(), says("c"), tick(), tick(), says("def"))
	takes(t, l, "ab")
	takes(t, l, "")
	has(t, l, "cdef")
	comes(t, l, "", "c", "", "def")
}

// Some have come, others behind them need some still.
func TestTakeOfSomeAheadOfOthers(t *testing.T) {
	for _, ahead := range []int{1, 2, 3, 1000, room - 5} {
		for _, behind := range []int{1, 2, 5} {
			first, last := string(some(ahead)), strings.Repeat("z", behind)
			l := newLine(t, 2, says(first), tick(), says(last), tick())
			has(t, l, first+last)
			takes(t, l, first)
			takes(t, l, "")
			has(t, l, last)
			ticks(t, l, 1)
			takes(t, l, last)
			takes(t, l, "")
			has(t, l, "")
		}
	}
}

func TestTakeOfSeveralPuts(t *testing.T) {
	l := newLine(t, 2, says("a"), tick(), says("b"), tick(), says("c"), tick(), tick())
	comes(t, l, "abc")
	does(t, l, says("d"), says("e"))
	comes(t, l, "", "", "de")
}

func TestTakeWithoutDelay(t *testing.T) {
	l := newLine(t, 0)
	takes(t, l, "")
	does(t, l, says("a"))
	has(t, l, "a")
	takes(t, l, "a")
	takes(t, l, "")
	does(t, l, says("b"), says("c"))
	takes(t, l, "bc")
	does(t, l, says("d"), tick(), says("e"), tick(), put(nil))
	takes(t, l, "de")
	does(t, l, put(some(room)))
	if e := l.Put([]byte("x")); e != api.ErrFull {
		t.Fatalf("%d", e)
	}
	comes(t, l, string(some(room)))
}

// Nothing that needs none stands behind a byte that needs some, whatever is put, inserted and dropped: then as many are taken as were due.
func TestNothingComesAheadOfWhatIsAheadOfIt(t *testing.T) {
	l := newLine(t, 3, says("a"), tick(), insert(1, 'b'), insert(0, 'c'), says("d"))
	has(t, l, "cabd")
	// d needs 3, the inserted ones as many as a.
	does(t, l, insert(3, 'e'), insert(5, 'f'))
	has(t, l, "cabedf")
	comes(t, l, "", "", "cab", "edf")
	l = newLine(t, 3, says("a"), tick(), says("b"), drop(0, 1), insert(0, 'c'), insert(2, 'd'))
	comes(t, l, "", "", "", "cbd")
}

func TestExample(t *testing.T) {
	l := newLine(t, 1, says("ab"))
	takes(t, l, "")
	does(t, l, tick(), says("c"))
	takes(t, l, "ab")
	does(t, l, tick())
	takes(t, l, "c")
	takes(t, l, "")
	has(t, l, "")
}
