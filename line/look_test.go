package line_test

import (
	"bytes"
	"fmt"
	"math"
	"testing"

	"portage/api"
	"portage/line"
)

const (
	room    = 1 << 16
	longest = 64 // MaxTimer
)

// wide are numbers far beyond all places, counts and delays.
var wide = []int{math.MinInt, math.MinInt + 1, math.MinInt32, -room - 1, -room, room + 2, 1 << 31, 1 << 32, math.MaxInt - 1, math.MaxInt}

// call is a call on a line, that may be refused.
type call struct {
	text string
	do   func(*line.Line) api.Errno
}

func put(p []byte) call {
	return call{fmt.Sprintf("Put of %d", len(p)), func(l *line.Line) api.Errno { return l.Put(p) }}
}

func says(text string) call {
	return put([]byte(text))
}

func tick() call {
	return call{"Tick()", func(l *line.Line) api.Errno { return l.Tick() }}
}

// take takes off what has come, whatever it is.
func take() call {
	return call{"Take()", func(l *line.Line) api.Errno { l.Take(); return api.OK }}
}

func drop(at, n int) call {
	return call{fmt.Sprintf("Drop(%d, %d)", at, n), func(l *line.Line) api.Errno { return l.Drop(at, n) }}
}

func flip(at, mask int) call {
	return call{fmt.Sprintf("Flip(%d, %d)", at, mask), func(l *line.Line) api.Errno { return l.Flip(at, mask) }}
}

func insert(at int, b byte) call {
	return call{fmt.Sprintf("Insert(%d, %d)", at, b), func(l *line.Line) api.Errno { return l.Insert(at, b) }}
}

// some answers n bytes, no two rows of which are alike soon.
func some(n int) []byte {
	out := make([]byte, n)
	for i := range out {
		out[i] = byte(i*7 + i>>8)
	}
	return out
}

// newLine answers a line of this delay behind these calls.
func newLine(t *testing.T, delay int, calls ...call) *line.Line {
	t.Helper()
	l, e := line.New(delay)
	if e != api.OK || l == nil {
		t.Fatalf("New(%d): %v, %d", delay, l, e)
	}
	does(t, l, calls...)
	return l
}

// does makes calls that are done.
func does(t *testing.T, l *line.Line, calls ...call) {
	t.Helper()
	for _, c := range calls {
		if e := c.do(l); e != api.OK {
			t.Fatalf("%s: %d", c.text, e)
		}
	}
}

func ticks(t *testing.T, l *line.Line, n int) {
	t.Helper()
	for range n {
		does(t, l, tick())
	}
}

// has asks for the bytes on their way.
func has(t *testing.T, l *line.Line, want string) {
	t.Helper()
	if got := l.Bytes(); string(got) != want || l.Len() != len(want) {
		t.Fatalf("on their way are %d, %s; not %d, %s", l.Len(), short(got), len(want), short([]byte(want)))
	}
}

// takes asks for what is taken off.
func takes(t *testing.T, l *line.Line, want string) {
	t.Helper()
	if got := l.Take(); string(got) != want || (got == nil) != (want == "") {
		t.Fatalf("taken is %s (nil: %t); not %s", short(got), got == nil, short([]byte(want)))
	}
}

// comes asks for what is taken off at this tick and at each one behind it, and that nothing is left then.
func comes(t *testing.T, l *line.Line, wants ...string) {
	t.Helper()
	for n, want := range wants {
		if n > 0 {
			ticks(t, l, 1)
		}
		takes(t, l, want)
		takes(t, l, "")
	}
	has(t, l, "")
}

func short(p []byte) string {
	if len(p) > 40 {
		return fmt.Sprintf("%q and %d more", p[:40], len(p)-40)
	}
	return fmt.Sprintf("%q", p)
}

// alike asks that two lines tell and answer the same, now, at later ticks, and of bytes that are put behind.
func alike(t *testing.T, text string, one, other *line.Line) {
	t.Helper()
	for n := range longest + 3 {
		if a, b := one.Bytes(), other.Bytes(); !bytes.Equal(a, b) || one.Len() != other.Len() {
			t.Fatalf("%s, %d ticks later: %d, %s; not %d, %s", text, n, one.Len(), short(a), other.Len(), short(b))
		}
		if a, b := one.Take(), other.Take(); !bytes.Equal(a, b) {
			t.Fatalf("%s, %d ticks later: taken is %s; not %s", text, n, short(a), short(b))
		}
		if n == 1 {
			if a, b := one.Put([]byte("behind")), other.Put([]byte("behind")); a != b {
				t.Fatalf("%s: Put answers %d; not %d", text, a, b)
			}
		}
		if a, b := one.Tick(), other.Tick(); a != api.OK || b != api.OK {
			t.Fatalf("%s: Tick answers %d; %d", text, a, b)
		}
	}
}

// refuses asks that a call is answered by want on a line that make makes, and that the line is as it was.
func refuses(t *testing.T, make func() *line.Line, c call, want api.Errno) {
	t.Helper()
	asked := make()
	if e := c.do(asked); e != want {
		t.Fatalf("%s: %d; not %d", c.text, e, want)
	}
	alike(t, c.text, asked, make())
}
