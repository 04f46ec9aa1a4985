package snap

import (
	"bytes"
	"slices"
	"testing"

	"portage/api"
)

// roomy answers a list behind whose end there is room, with others in it.
func roomy[T any](l []T, others ...T) []T {
	return append(slices.Clone(l), others...)[:len(l)]
}

// whole answers a list with the room behind its end.
func whole[T any](l []T) []T {
	return l[:cap(l)]
}

// withRoom answers a state, with room behind the end of each list.
func withRoom(st api.State) api.State {
	st.Held, st.Seen = slices.Clone(st.Held), slices.Clone(st.Seen)
	for at := range st.Held {
		st.Held[at].Data = roomy(st.Held[at].Data, '7', '8', '9')
	}
	for at := range st.Seen {
		st.Seen[at].More = roomy(st.Seen[at].More, 997, 998, 999)
	}
	st.Next = roomy(st.Next, next(-7, -8, -9, -10)...)
	st.Held = roomy(st.Held, ms(id(-1, -1, -1, -1), "behind"))
	st.Seen = roomy(st.Seen, mk(-1, -1, -1, -1))
	return st
}

// widest answers the state with all that stands behind its lists' ends.
func widest(st api.State) api.State {
	st.Next, st.Held, st.Seen = whole(st.Next), slices.Clone(whole(st.Held)), slices.Clone(whole(st.Seen))
	for at := range st.Held {
		st.Held[at].Data = whole(st.Held[at].Data)
	}
	for at := range st.Seen {
		st.Seen[at].More = whole(st.Seen[at].More)
	}
	return st
}

// scribble turns all that a state has, and what lies behind its lists' ends.
func scribble(st api.State) {
	for at := range whole(st.Next) {
		whole(st.Next)[at] = api.Next{Dest: 50, Counter: 50}
	}
	for at := range whole(st.Held) {
		m := &whole(st.Held)[at]
		scribbleBytes(m.Data)
		*m = ms(id(50, 51, 52, 53), "?")
	}
	for at := range whole(st.Seen) {
		m := &whole(st.Seen)[at]
		for k := range whole(m.More) {
			whole(m.More)[k] += 7
		}
		*m = mk(50, 50, 50, 55)
	}
}

func scribbleBytes(p []byte) {
	for k := range whole(p) {
		whole(p)[k] ^= 0xff
	}
}

func TestStatesAreNotChanged(t *testing.T) {
	states := append(rightStates(), likeSome()...)
	for _, s := range slices.Concat(spoilt(), numberless(), overfull()) {
		states = append(states, s.of())
	}
	for _, st := range states {
		handed, as := withRoom(st), withRoom(st)
		Check(handed)
		if got, want := text(widest(handed)), text(widest(as)); got != want {
			t.Fatalf("behind Check: %s; not %s", got, want)
		}
		Put(handed)
		if got, want := text(widest(handed)), text(widest(as)); got != want {
			t.Fatalf("behind Put: %s; not %s", got, want)
		}
	}
}

func TestPutAnswersNewMemory(t *testing.T) {
	for _, of := range append(rightStates(), likeSome()...) {
		st := withRoom(of)
		first, _ := Put(st)
		second, _ := Put(st)
		want := summed(laid(of))
		scribbleBytes(first)
		if !bytes.Equal(second, want) {
			t.Fatalf("the second answer is %s; not %s", cutHex(second), cutHex(want))
		}
		if got, want := text(widest(st)), text(widest(withRoom(of))); got != want {
			t.Fatalf("the state is %s; not %s", got, want)
		}
		scribble(st)
		if !bytes.Equal(second, want) {
			t.Fatalf("the second answer is %s; not %s", cutHex(second), cutHex(want))
		}
		puts(t, of, want)
	}
}

// Data of messages in one list of bytes are laid as they are.
func TestPutOfMessagesThatShareAList(t *testing.T) {
	shared := []byte("abcdef")
	st := api.State{Held: []api.Msg{{Id: id(1, 2, 1, 1), Data: shared[:3]}, {Id: id(1, 2, 1, 2), Data: shared}, {Id: id(1, 2, 1, 3), Data: shared[3:]}}}
	checks(t, api.OK, "shared", st)
	if string(shared) != "abcdef" {
		t.Fatalf("%q", shared)
	}
	p, _ := Put(st)
	back, _ := Get(p)
	scribbleBytes(back.Held[0].Data)
	if string(back.Held[1].Data) != "abcdef" || string(back.Held[2].Data) != "def" {
		t.Fatalf("%s", text(back))
	}
}

func TestGetNeitherChangesNorKeepsBytes(t *testing.T) {
	for _, st := range append(rightStates(), likeSome()...) {
		right := summed(laid(st))
		p := roomy(right, 'x', 'y', 'z')
		back, e := Get(p)
		if e != api.OK || !bytes.Equal(p[:len(p)+3], append(right, "xyz"...)) {
			t.Fatalf("behind Get: %s, %d", cutHex(whole(p)), e)
		}
		scribbleBytes(p)
		if text(back) != text(st) {
			t.Fatalf("%s; not %s", short(back), short(st))
		}
	}
	for _, s := range append(spoilt(), overfull()...) { // bytes that are none's, too
		wrong := summed(laid(s.of()))
		p := roomy(wrong, 'x', 'y', 'z')
		none(t, s.name, p)
		if !bytes.Equal(p[:len(p)+3], append(wrong, "xyz"...)) {
			t.Fatalf("%s: behind Get: %s", s.name, cutHex(whole(p)))
		}
	}
}

// What lies behind the end of bytes is none of them.
func TestGetDoesNotReadBehindTheEnd(t *testing.T) {
	p := summed(bytesOfSome())
	for n := range p {
		none(t, "with the rest behind the end", p[:n:len(p)])
	}
	gets(t, roomy(p, p...), some())
}

func TestGetAnswersNewMemory(t *testing.T) {
	for _, st := range append(rightStates(), likeSome()...) {
		p := summed(laid(st))
		first, _ := Get(p)
		second, _ := Get(p)
		scribble(first)
		if text(second) != text(st) {
			t.Fatalf("%s; not %s", short(second), short(st))
		}
		gets(t, p, st)
	}
}

// Behind the end of a list there is none of another one.
func TestListsOfOneStateShareNothing(t *testing.T) {
	st := many(40, 3)
	for k := range 40 {
		st.Seen = append(st.Seen, mk(4+k, 1, 1, 3, 5, 7))
	}
	got, e := Get(summed(laid(st)))
	if e != api.OK {
		t.Fatal(e)
	}
	for at := range 40 {
		scribbleBytes(got.Held[at].Data)
		for k := range whole(got.Seen[at].More) {
			whole(got.Seen[at].More)[k] = -1
		}
		for behind := at + 1; behind < 40; behind++ {
			data, more := got.Held[behind].Data, got.Seen[behind].More
			if string(data) != "xxx" || !slices.Equal(more, []int{3, 5, 7}) {
				t.Fatalf("behind %d those of %d are %q, %v", at, behind, data, more)
			}
		}
	}
}
