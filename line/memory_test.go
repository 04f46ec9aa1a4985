package line_test

import (
	"bytes"
	"slices"
	"testing"

	"portage/api"
	"portage/line"
)

// What is handed in is neither changed nor kept, and what is answered is new memory.

// roomy answers a list whose room goes on behind its end, and the whole of that room.
func roomy(text string) (short, whole []byte) {
	whole = []byte(text + "behind")
	return whole[:len(text)], whole
}

// spoil writes over a list and the room behind its end.
func spoil(p []byte) {
	p = p[:cap(p)]
	for i := range p {
		p[i] = '!'
	}
}

func TestBytesPutAreNotKept(t *testing.T) {
	p, whole := roomy("abc")
	l := newLine(t, 1, put(p))
	if string(whole) != "abcbehind" {
		t.Fatalf("%q", whole)
	}
	spoil(p)
	has(t, l, "abc")
	does(t, l, says("de"), flip(0, 1), insert(1, 'x'), drop(2, 1))
	if want := bytes.Repeat([]byte("!"), len(whole)); !bytes.Equal(whole, want) {
		t.Fatalf("%q", whole)
	}
	has(t, l, "`xcde")
	comes(t, l, "", "`xcde")
	if want := bytes.Repeat([]byte("!"), len(whole)); !bytes.Equal(whole, want) {
		t.Fatalf("%q", whole)
	}
}

func TestRefusedBytesAreNotChanged(t *testing.T) {
	p, whole := roomy(string(some(room)))
	was := slices.Clone(whole)
	l := newLine(t, 1, says("a"))
	if e := l.Put(p); e != api.ErrFull || !bytes.Equal(whole, was) {
		t.Fatalf("%d", e)
	}
	var none *line.Line
	if e := none.Put(p); e != api.ErrState || !bytes.Equal(whole, was) {
		t.Fatalf("%d", e)
	}
}

func TestTheSameBytesPutTwice(t *testing.T) {
	p, _ := roomy("abc")
	l := newLine(t, 1, put(p), put(p), flip(0, 1))
	has(t, l, "`bcabc")
	other := newLine(t, 1, put(p))
	has(t, other, "abc")
}

func TestBytesAreNewMemory(t *testing.T) {
	l := newLine(t, 1, says("abc"))
	one, other := l.Bytes(), l.Bytes()
	spoil(one)
	has(t, l, "abc")
	if string(other) != "abc" {
		t.Fatalf("%q", other)
	}
	_ = append(other, "more"...)
	does(t, l, flip(0, 1), drop(1, 1), says("d"), insert(0, 'x'))
	if string(other) != "abc" {
		t.Fatalf("%q", other)
	}
	has(t, l, "x`cd")
	does(t, l, tick())
	last := l.Bytes()
	takes(t, l, "x`cd")
	does(t, l, says("other"))
	if string(last) != "x`cd" {
		t.Fatalf("%q", last)
	}
}

// What was taken is the caller's: neither does the line write into it, nor the other way round.
func TestWhatIsTakenIsNewMemory(t *testing.T) {
	for _, behind := range []string{"", "c", "cdefgh"} {
		l := newLine(t, 1, says("ab"), tick(), says(behind))
		seen := l.Bytes()
		got := l.Take()
		if string(got) != "ab" {
			t.Fatalf("%q", got)
		}
		_ = append(got, "xyz"...)
		has(t, l, behind)
		spoil(got)
		has(t, l, behind)
		if string(seen) != "ab"+behind {
			t.Fatalf("%q", seen)
		}
		copy(got, "ab")
		does(t, l, says("ij"), insert(0, 'y'), insert(0, 'z'), flip(0, 1), drop(1, 1))
		if string(got) != "ab" {
			t.Fatalf("%q", got)
		}
		has(t, l, "{"+behind+"ij")
	}
}

// The line goes on and on, and each piece that was taken stays what it was, whatever is written into the others.
func TestPiecesTakenShareNothing(t *testing.T) {
	l := newLine(t, 2)
	var pieces [][]byte
	var wants []string
	for n := range 60 {
		does(t, l, says(string([]byte{byte(n), byte(n + 1)})))
		if n%3 == 0 {
			does(t, l, insert(l.Len(), 'x'))
		}
		ticks(t, l, 1)
		if n%2 == 0 {
			p := l.Take()
			pieces = append(pieces, p)
			wants = append(wants, string(p))
		}
	}
	was := l.Bytes()
	for i, p := range pieces {
		if string(p) != wants[i] {
			t.Fatalf("piece %d: %q; was %q", i, p, wants[i])
		}
		spoil(p)
		_ = append(p, "more"...)
	}
	has(t, l, string(was))
	comes(t, l, "\x3a\x3b", "\x3b\x3c", "")
}

// What was taken can be put again, on that line or on another one.
func TestPutOfWhatWasTaken(t *testing.T) {
	l, other := newLine(t, 0, says("abc")), newLine(t, 0)
	p := l.Take()
	does(t, l, put(p), flip(0, 1))
	does(t, other, put(p[:2]), insert(2, 'x'))
	if string(p) != "abc" {
		t.Fatalf("%q", p)
	}
	spoil(p)
	has(t, l, "`bc")
	has(t, other, "abx")
}

// Asking takes nothing off, and holds nothing up.
func TestAskingChangesNothing(t *testing.T) {
	l := newLine(t, 2, says("a"), tick(), says("b"))
	for range 3 {
		has(t, l, "ab")
		takes(t, l, "")
	}
	ticks(t, l, 1)
	has(t, l, "ab")
	comes(t, l, "a", "b")
}

// Lines go their own ways.
func TestLinesShareNothing(t *testing.T) {
	one, other := newLine(t, 1, says("abc")), newLine(t, 1, says("abc"))
	does(t, one, tick(), flip(0, 1), drop(1, 1), insert(0, 'x'))
	has(t, other, "abc")
	takes(t, other, "")
	comes(t, one, "x`c")
	comes(t, other, "", "abc")
}
