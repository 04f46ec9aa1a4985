package store

import (
	"bytes"
	"slices"
	"testing"

	"portage/api"
)

// roomy answers a list behind whose end there is room, with others in it.
func roomy[T any](l []T, others ...T) []T {
	return append(slices.Clone(l), others...)[:len(l)]
}

// whole answers a list with the room behind its end.
func whole[T any](l []T) []T {
	return l[:cap(l)]
}

// roomyState answers some(), with room behind the end of each list.
func roomyState() api.State {
	st := some()
	for at := range st.Held {
		st.Held[at].Data = roomy(st.Held[at].Data, '7', '8', '9')
	}
	for at := range st.Seen {
		st.Seen[at].More = roomy(st.Seen[at].More, 997, 998, 999)
	}
	st.Next = roomy(st.Next, next(-7, -8, -9, -10)...)
	st.Held = roomy(st.Held, ms(id(-1, -1, -1, -1), "behind"), ms(id(-2, -2, -2, -2), "behind"))
	st.Seen = roomy(st.Seen, mk(-1, -1, -1, -1), mk(-2, -2, -2, -2))
	return st
}

// widest answers the state with all that stands behind its lists' ends.
func widest(st api.State) api.State {
	st.Next, st.Held, st.Seen = whole(st.Next), slices.Clone(whole(st.Held)), slices.Clone(whole(st.Seen))
	for at := range st.Held {
		st.Held[at].Data = whole(st.Held[at].Data)
	}
	for at := range st.Seen {
		st.Seen[at].More = whole(st.Seen[at].More)
	}
	return st
}

// scribble turns all that a state has, and what lies behind its lists' ends.
func scribble(st api.State) {
	for at := range whole(st.Next) {
		whole(st.Next)[at] = api.Next{Dest: 50, Counter: 50}
	}
	scribbleMsgs(st.Held)
	for at := range whole(st.Seen) {
		m := &whole(st.Seen)[at]
		for k := range whole(m.More) {
			whole(m.More)[k] += 7
		}
		*m = mk(50, 50, 50, 55)
	}
}

func scribbleMsgs(l []api.Msg) {
	for at := range whole(l) {
		m := &whole(l)[at]
		scribbleBytes(m.Data)
		*m = ms(id(50, 51, 52, 53), "?")
	}
}

func scribbleBytes(p []byte) {
	for k := range whole(p) {
		whole(p)[k] ^= 0xff
	}
}

// busy gives a store something of all.
func busy(s *Store) {
	for _, e := range []api.Ev{hold(id(7, 8, 9, 10), long(48)), release(id(5, 1, 20, 7)), deliver(id(1, 3, 2, 4)), deliver(id(1, 3, 2, 12)), deliver(id(63, 3, 1, 4)), boot(), hold(id(3, 2, 10, 1), "new"), hold(id(5, 1, 20, 7), "zz")} {
		s.Apply(e)
	}
}

func TestFromChangesNothingThatIsHandedIn(t *testing.T) {
	wrong := func() api.State {
		st := roomyState()
		st.Held[2].Id.Dest = 3
		return st
	}
	for _, q := range []api.Quota{great, quota(3, 6, 3), quota(2, 6, 3), quota(-1, 6, 3)} {
		for _, of := range []func() api.State{roomyState, wrong} {
			st := of()
			if s, e := From(q, st); e == api.OK {
				busy(s)
			}
			if got, want := text(widest(st)), text(widest(of())); got != want {
				t.Errorf("From(%+v): the state is %s; not %s", q, got, want)
			}
		}
	}
}

func TestFromKeepsNothingThatIsHandedIn(t *testing.T) {
	st := roomyState()
	s := madeOf(t, great, st)
	scribble(st)
	checkStore(t, s, great, some())
	other := madeOf(t, great, some())
	busy(s)
	busy(other)
	scribble(st)
	if a, b := tells(s), tells(other); a != b {
		t.Fatalf("%s; not %s", a, b)
	}
}

// Messages of one list of bytes have lists of their own.
func TestFromOfMessagesThatShareAList(t *testing.T) {
	shared := []byte("abcdef")
	st := api.State{Held: []api.Msg{{Id: id(1, 2, 1, 1), Data: shared[:3]}, {Id: id(1, 2, 1, 2), Data: shared}, {Id: id(1, 2, 1, 3), Data: shared[3:]}}}
	s := madeOf(t, great, st)
	for at := range 3 {
		l := s.Held()
		scribbleBytes(l[at].Data)
		checkStore(t, s, great, st)
	}
	scribbleBytes(shared)
	checkStore(t, s, great, api.State{Held: []api.Msg{ms(id(1, 2, 1, 1), "abc"), ms(id(1, 2, 1, 2), "abcdef"), ms(id(1, 2, 1, 3), "def")}})
}

func TestEventsAreNeitherChangedNorKept(t *testing.T) {
	s := made(t, 3, great)
	data := roomy([]byte("abc"), 'x', 'y', 'z')
	e := api.Ev{Kind: 2, Msg: api.Msg{Id: id(1, 2, 1, 1), Data: data}}
	applies(t, s, e)
	answers(t, s.Apply(e), api.ErrTwice)
	if string(whole(data)[:6]) != "abcxyz" {
		t.Fatalf("the data are %q", whole(data))
	}
	scribbleBytes(data)
	want := api.State{Self: 3, Held: []api.Msg{ms(id(1, 2, 1, 1), "abc")}}
	checkStore(t, s, great, want)

	for _, kind := range []int{0, 1, 2, 3, 4, 5} { // what is refused as well
		data := roomy([]byte("abc"), 'x', 'y', 'z')
		e := api.Ev{Kind: kind, Msg: api.Msg{Id: id(1, 3, 1, 1), Data: data}}
		s.May(e)
		s.Apply(e)
		if _, fault := PutEv(e); kind == 2 != (fault == api.OK) {
			t.Fatalf("PutEv of the kind %d: %d", kind, fault)
		}
		if string(whole(data)[:6]) != "abcxyz" {
			t.Fatalf("the data are %q", whole(data))
		}
	}
	checkStore(t, s, great, want)
}

func TestStateIsNewMemory(t *testing.T) {
	s := madeOf(t, great, some())
	first, second := s.State(), s.State()
	scribble(first)
	if text(second) != text(some()) {
		t.Fatalf("the second answer is %s", text(second))
	}
	checkStore(t, s, great, some())
	busy(s) // what was told stays as it was
	if text(second) != text(some()) {
		t.Fatalf("the second answer is %s", text(second))
	}
}

func TestHeldAndFindAreNewMemory(t *testing.T) {
	s := madeOf(t, great, some())
	first, second := s.Held(), s.Held()
	scribbleMsgs(first)
	checkStore(t, s, great, some())
	for _, m := range some().Held {
		found, _ := s.Find(m.Id)
		scribbleBytes(found.Data)
	}
	checkStore(t, s, great, some())
	busy(s)
	if got, want := text(api.State{Held: second}), text(api.State{Held: some().Held}); got != want {
		t.Fatalf("%s; not %s", got, want)
	}
}

// Behind the end of a list there is none of the next one.
func TestListsOfOneAnswerShareNothing(t *testing.T) {
	s := madeOf(t, great, many(40, 3))
	for n, answer := range []func() []api.Msg{s.Held, func() []api.Msg { return s.State().Held }} {
		l := answer()
		for at := range l {
			scribbleBytes(l[at].Data)
			for behind := at + 1; behind < len(l); behind++ {
				if string(l[behind].Data) != "xxx" {
					t.Fatalf("answer %d: behind %d the data of %d are %q", n, at, behind, l[behind].Data)
				}
			}
		}
	}
	checkStore(t, s, great, many(40, 3))
}

func TestEventsBytesAreNewMemory(t *testing.T) {
	e := hold(id(1, 2, 3, 4), "abc")
	first, _ := PutEv(e)
	second, _ := PutEv(e)
	scribbleBytes(first)
	if !bytes.Equal(second, []byte{2, 1, 2, 0, 3, 0, 4, 'a', 'b', 'c'}) || string(e.Msg.Data) != "abc" {
		t.Fatalf("%x, %q", second, e.Msg.Data)
	}

	p := roomy(second, 'x', 'y', 'z')
	back, fault := GetEv(p)
	ok(t, fault)
	if !bytes.Equal(p[:len(p)+3], append(slices.Clone(second), "xyz"...)) {
		t.Fatalf("the bytes are %x", whole(p))
	}
	other, _ := GetEv(p)
	scribbleBytes(p)
	scribbleBytes(other.Msg.Data)
	if !sameEv(back, e) {
		t.Fatalf("%+v", back)
	}
	for _, wrong := range [][]byte{{2, 1, 2, 0, 3, 0, 4}, {1, 2}, {9, 9}, {3, 1, 1, 0, 1, 0, 1}} {
		p := roomy(wrong, 'x', 'y')
		checkGetErrs(t, p)
		if !bytes.Equal(p[:len(p)+2], append(slices.Clone(wrong), "xy"...)) {
			t.Fatalf("the bytes are %x", whole(p))
		}
	}
}
