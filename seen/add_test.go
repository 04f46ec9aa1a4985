package seen

import (
	"math/rand"
	"testing"

	"portage/api"
)

// The chapter's example.
func TestExample(t *testing.T) {
	s := made(t, 9)
	adds(t, s, 3, 7, 1)
	checkSet(t, s, 9, mk(3, 7, 1))
	adds(t, s, 3, 7, 3)
	checkSet(t, s, 9, mk(3, 7, 1, 3))
	adds(t, s, 3, 7, 2)
	checkSet(t, s, 9, mk(3, 7, 3))

	s = made(t, 0)
	adds(t, s, 3, 7, 1)
	refuses(t, s, api.ErrFull, id(3, 7, 3))
}

// P14.2: ids that are not right

func TestAddOfIdsThatAreNotRight(t *testing.T) {
	for _, s := range []*Set{
		made(t, 0), made(t, 9), made(t, mostGaps),
		madeOf(t, 9, mk(0, 1, 5), mk(1, 1, 5), mk(2, 1, 5), mk(63, 1, 5)), // many of them would be there
		madeOf(t, 4, mk(0, 1, 0, 2), mk(1, 1, 0, 2), mk(2, 1, 0, 2), mk(63, 1, 0, 2)),
		madeOf(t, 1, mk(5, 1, 0, 3)), // and others would be too many
	} {
		for _, i := range wrongIds() {
			want := wantedId(i)
			if want == api.OK {
				t.Fatalf("%+v is right", i)
			}
			refuses(t, s, want, i)
		}
	}
}

func TestAddTellsARangeAheadOfAForm(t *testing.T) {
	s := madeOf(t, 0, mk(1, 1, 5))
	refuses(t, s, api.ErrForm, api.Id{Origin: 1, Dest: 1, Epoch: 1, Counter: 3}) // would be there
	refuses(t, s, api.ErrForm, api.Id{Origin: 1, Dest: 1, Epoch: 1, Counter: 6}) // would be the next one
	refuses(t, s, api.ErrForm, api.Id{Origin: 1, Dest: 1, Epoch: 1, Counter: 9}) // would be too many
	refuses(t, s, api.ErrRange, api.Id{Origin: 1, Dest: 64, Epoch: 1, Counter: 3})
	refuses(t, s, api.ErrRange, api.Id{Origin: 1, Dest: -1, Epoch: 1, Counter: 9})
	refuses(t, s, api.ErrRange, api.Id{Origin: 1, Dest: 1, Epoch: 1, Counter: 0})
	refuses(t, s, api.ErrRange, api.Id{Origin: 1, Dest: 1, Epoch: 1, Counter: 65536})
	refuses(t, s, api.ErrRange, api.Id{Origin: 1, Dest: 1, Epoch: 0, Counter: 1})
	refuses(t, s, api.ErrRange, api.Id{Origin: 64, Dest: 64, Epoch: 1, Counter: 1})
}

// P14.2: counters

func TestAddOfTheNextCounter(t *testing.T) {
	for _, gaps := range []int{0, 1, mostGaps} {
		s := made(t, gaps)
		for c := 1; c <= 300; c++ {
			adds(t, s, 1, 1, c)
			if c%50 <= 1 {
				checkSet(t, s, gaps, mk(1, 1, c))
			}
		}
		for _, c := range []int{1, 2, 150, 299, 300} {
			refuses(t, s, api.ErrTwice, id(1, 1, c))
		}
	}
}

func TestAddOfAllCounters(t *testing.T) {
	s := made(t, 0)
	for c := 1; c <= most; c++ {
		if e := s.Add(id(1, 1, c)); e != api.OK {
			t.Fatalf("%d: %d", c, e)
		}
	}
	checkSet(t, s, 0, mk(1, 1, most))
	for _, c := range []int{1, 2, 30000, most - 1, most} {
		refuses(t, s, api.ErrTwice, id(1, 1, c))
	}
	for _, c := range []int{0, most + 1} {
		refuses(t, s, api.ErrRange, id(1, 1, c))
	}
}

func TestAddOfTheLastCounter(t *testing.T) {
	s := made(t, 2)
	adds(t, s, 1, 1, most)
	checkSet(t, s, 2, mk(1, 1, 0, most))
	refuses(t, s, api.ErrTwice, id(1, 1, most))

	s = madeOf(t, 1, mk(1, 1, most-2))
	adds(t, s, 1, 1, most)
	checkSet(t, s, 1, mk(1, 1, most-2, most))
	adds(t, s, 1, 1, most-1)
	checkSet(t, s, 1, mk(1, 1, most))

	s = madeOf(t, 0, mk(1, 1, most-1))
	adds(t, s, 1, 1, most)
	checkSet(t, s, 0, mk(1, 1, most))
	refuses(t, s, api.ErrTwice, id(1, 1, most))

	s = madeOf(t, 0, mk(1, 1, most-2))
	refuses(t, s, api.ErrFull, id(1, 1, most))
}

func TestAddBehindAGap(t *testing.T) {
	s := made(t, 9)
	adds(t, s, 1, 1, 2) // of a mark that is not there yet
	checkSet(t, s, 9, mk(1, 1, 0, 2))
	adds(t, s, 1, 1, 9)
	checkSet(t, s, 9, mk(1, 1, 0, 2, 9))
	adds(t, s, 1, 1, 5)
	checkSet(t, s, 9, mk(1, 1, 0, 2, 5, 9))
	adds(t, s, 1, 1, 3)
	checkSet(t, s, 9, mk(1, 1, 0, 2, 3, 5, 9))
	for _, c := range []int{2, 3, 5, 9} {
		refuses(t, s, api.ErrTwice, id(1, 1, c))
	}
	adds(t, s, 1, 1, 10)
	checkSet(t, s, 9, mk(1, 1, 0, 2, 3, 5, 9, 10))
}

func TestAddThatClosesGaps(t *testing.T) {
	for _, x := range []struct {
		was  api.Mark
		c    int
		want api.Mark
	}{
		{mk(1, 1, 0, 2), 1, mk(1, 1, 2)}, // one
		{mk(1, 1, 1, 3), 2, mk(1, 1, 3)},
		{mk(1, 1, 1, 3, 5), 2, mk(1, 1, 3, 5)},
		{mk(1, 1, 1, 3, 5), 4, mk(1, 1, 1, 3, 4, 5)}, // none: 2 is missing
		{mk(1, 1, 1, 3, 4, 5), 2, mk(1, 1, 5)},       // several
		{mk(1, 1, 1, 3, 4, 5, 7), 2, mk(1, 1, 5, 7)},
		{mk(1, 1, 1, 3, 4, 6, 7), 2, mk(1, 1, 4, 6, 7)},
		{mk(1, 1, 4, 6, 7), 5, mk(1, 1, 7)},
		{mk(1, 1, 1, 4, 5), 2, mk(1, 1, 2, 4, 5)}, // none: 3 is missing
		{mk(1, 1, 2, 4, 5), 3, mk(1, 1, 5)},
		{mk(1, 1, 0, 65535), 1, mk(1, 1, 1, 65535)},
		{mk(1, 1, 65532, 65534, 65535), 65533, mk(1, 1, 65535)},
		{mk(1, 1, 65533, 65535), 65534, mk(1, 1, 65535)},
		{mk(1, 1, 65532, 65535), 65533, mk(1, 1, 65533, 65535)},
	} {
		room := len(x.was.More) + 1
		s := madeOf(t, room, x.was)
		adds(t, s, 1, 1, x.c)
		checkSet(t, s, room, x.want)
		refuses(t, s, api.ErrTwice, id(1, 1, x.c))
	}
}

func TestAddThatClosesAllGaps(t *testing.T) {
	s := made(t, mostGaps)
	for c := 257; c >= 2; c-- {
		adds(t, s, 1, 1, c)
	}
	if s.Gaps() != mostGaps {
		t.Fatalf("%d gaps", s.Gaps())
	}
	refuses(t, s, api.ErrFull, id(1, 1, 259))
	refuses(t, s, api.ErrFull, id(1, 1, 258)) // behind the last one, but not the next one
	refuses(t, s, api.ErrFull, id(1, 2, 2))
	adds(t, s, 1, 1, 1)
	checkSet(t, s, mostGaps, mk(1, 1, 257))
	adds(t, s, 1, 1, 259)
	checkSet(t, s, mostGaps, mk(1, 1, 257, 259))
}

func TestAddThatClosesGapsOneByOne(t *testing.T) {
	s := made(t, mostGaps)
	adds(t, s, 1, 1, evens(mostGaps)...)
	for k := range mostGaps {
		refuses(t, s, api.ErrTwice, id(1, 1, 512))
		adds(t, s, 1, 1, 2*k+1)
		if want := mostGaps - k - 1; s.Gaps() != want {
			t.Fatalf("behind %d: %d gaps; not %d", 2*k+1, s.Gaps(), want)
		}
	}
	checkSet(t, s, mostGaps, mk(1, 1, 512))
}

// P14.2: room

func TestAddWithRoomForNoGaps(t *testing.T) {
	s := made(t, 0)
	refuses(t, s, api.ErrFull, id(1, 1, 2))
	refuses(t, s, api.ErrFull, id(1, 1, most))
	adds(t, s, 1, 1, 1)
	refuses(t, s, api.ErrTwice, id(1, 1, 1))
	refuses(t, s, api.ErrFull, id(1, 1, 3))
	refuses(t, s, api.ErrFull, id(1, 1, most))
	refuses(t, s, api.ErrFull, id(1, 2, 2)) // another mark's next one is 1
	refuses(t, s, api.ErrFull, id(2, 1, 2))
	adds(t, s, 1, 1, 2)
	adds(t, s, 1, 2, 1)
	adds(t, s, 2, 1, 1)
	checkSet(t, s, 0, mk(1, 1, 2), mk(1, 2, 1), mk(2, 1, 1))
}

func TestAddWithRoomForOneGap(t *testing.T) {
	s := made(t, 1)
	adds(t, s, 1, 1, 1, 3)
	refuses(t, s, api.ErrTwice, id(1, 1, 1)) // ErrTwice ahead of ErrFull
	refuses(t, s, api.ErrTwice, id(1, 1, 3))
	refuses(t, s, api.ErrFull, id(1, 1, 4))
	refuses(t, s, api.ErrFull, id(1, 1, 5))
	refuses(t, s, api.ErrFull, id(2, 1, 2))
	refuses(t, s, api.ErrFull, id(1, 2, 2))
	adds(t, s, 2, 1, 1) // the next one of a mark that is not there
	refuses(t, s, api.ErrFull, id(2, 1, 3))
	adds(t, s, 1, 1, 2)
	checkSet(t, s, 1, mk(1, 1, 3), mk(2, 1, 1))
	adds(t, s, 2, 1, 3)
	refuses(t, s, api.ErrFull, id(1, 1, 5))
	adds(t, s, 1, 1, 4)
	checkSet(t, s, 1, mk(1, 1, 4), mk(2, 1, 1, 3))
}

func TestAddWhereAllGapsAreUsed(t *testing.T) {
	for _, room := range []int{1, 2, 3, 10, 255, 256} {
		s := made(t, room)
		for k := range room { // over many marks
			answers(t, s.May(id(0, 99, 2)), api.OK) // till then there is room
			adds(t, s, k%nodes, 1+k/nodes, 3)
		}
		if s.Gaps() != room {
			t.Fatalf("%d gaps; not %d", s.Gaps(), room)
		}
		refuses(t, s, api.ErrFull, id(0, 1, 2)) // it would join nothing: 1 is missing
		refuses(t, s, api.ErrFull, id(0, 1, 4))
		refuses(t, s, api.ErrFull, id(0, 99, 2))
		refuses(t, s, api.ErrTwice, id(0, 1, 3))
		adds(t, s, 0, 99, 1)
		adds(t, s, 0, 1, 1)                     // the next one; the gap stays
		refuses(t, s, api.ErrFull, id(0, 1, 5)) // so there is no room yet
		refuses(t, s, api.ErrFull, id(0, 99, 3))
		adds(t, s, 0, 1, 2) // it joins 3
		if s.Gaps() != room-1 {
			t.Fatalf("%d gaps; not %d", s.Gaps(), room-1)
		}
		adds(t, s, 0, 99, 3)
		refuses(t, s, api.ErrFull, id(0, 1, 5))
		adds(t, s, 0, 1, 4, 5, 6)
	}
}

func TestAddToMarksThatWereHandedIn(t *testing.T) {
	s := madeOf(t, 3, mk(1, 1, 2, 4), mk(1, 3, 0, 3), mk(7, 1, 5))
	refuses(t, s, api.ErrTwice, id(1, 1, 2))
	refuses(t, s, api.ErrTwice, id(1, 1, 4))
	adds(t, s, 7, 1, 9)
	refuses(t, s, api.ErrFull, id(7, 1, 8))
	adds(t, s, 1, 1, 3)
	checkSet(t, s, 3, mk(1, 1, 4), mk(1, 3, 0, 3), mk(7, 1, 5, 9))
	adds(t, s, 1, 3, 2)
	refuses(t, s, api.ErrFull, id(1, 3, 4))
	adds(t, s, 1, 3, 1)
	checkSet(t, s, 3, mk(1, 1, 4), mk(1, 3, 3), mk(7, 1, 5, 9))
}

// P14.2: by Origin and Epoch alone

func TestAddOfUnlikeDests(t *testing.T) {
	s := made(t, 5)
	dest := func(dest, counter int) api.Id {
		return api.Id{Origin: 1, Dest: dest, Epoch: 1, Counter: counter}
	}
	ok(t, s.Add(dest(2, 1)))
	ok(t, s.Add(dest(3, 2)))
	ok(t, s.Add(dest(63, 4)))
	checkSet(t, s, 5, mk(1, 1, 2, 4))
	for d := range nodes {
		if d == 1 {
			continue
		}
		for _, c := range []int{1, 2, 4} {
			refuses(t, s, api.ErrTwice, dest(d, c))
			if !s.Has(dest(d, c)) {
				t.Errorf("not there for %d: %d", d, c)
			}
		}
		if s.Has(dest(d, 3)) || s.Has(dest(d, 5)) {
			t.Errorf("there for %d", d)
		}
	}
	ok(t, s.Add(dest(0, 3)))
	checkSet(t, s, 5, mk(1, 1, 4))
}

func TestAddOfUnlikeOriginsAndEpochs(t *testing.T) {
	s := made(t, 5)
	adds(t, s, 1, 2, 1) // such as would be one, if their numbers were run together
	adds(t, s, 2, 1, 1)
	adds(t, s, 1, 1, 1)
	adds(t, s, 11, 2, 1)
	adds(t, s, 1, 12, 1)
	adds(t, s, 0, 257, 1)
	adds(t, s, 0, 1, 1)
	adds(t, s, 0, 65535, 1, 2, 4)
	checkSet(t, s, 5, mk(0, 1, 1), mk(0, 257, 1), mk(0, 65535, 2, 4), mk(1, 1, 1), mk(1, 2, 1), mk(1, 12, 1), mk(2, 1, 1), mk(11, 2, 1))
}

func TestAddOfManyMarks(t *testing.T) {
	s := made(t, 1)
	var want []api.Mark
	for origin := range nodes {
		for epoch := 1; epoch <= 100; epoch++ {
			ok(t, s.Add(id(origin, epoch, 1)))
			want = append(want, mk(origin, epoch, 1))
		}
	}
	checkSet(t, s, 1, want...)
	for origin := range nodes {
		for epoch := 1; epoch <= 100; epoch++ {
			i := id(origin, epoch, 1)
			if e := s.Add(i); e != api.ErrTwice || !s.Has(i) {
				t.Fatalf("%+v: %d, %t", i, e, s.Has(i))
			}
		}
	}
}

func TestAddOfAllEpochs(t *testing.T) {
	s := made(t, 1)
	var want []api.Mark
	for epoch := 1; epoch <= most; epoch++ {
		ok(t, s.Add(id(9, epoch, 1)))
		want = append(want, mk(9, epoch, 1))
	}
	ok(t, s.Add(id(9, 700, 3)))
	for epoch := 1; epoch <= most; epoch++ { // each of them is one gap too many
		answers(t, s.Add(id(9, epoch, 4)), api.ErrFull)
	}
	want[699].More = []int{3}
	checkSet(t, s, 1, want...)
}

// P14.2, of any calls: a set is what the chapter says of it.
func TestAnyCalls(t *testing.T) {
	met := map[api.Errno]int{}
	for seed := range 60 {
		rnd := rand.New(rand.NewSource(int64(seed)))
		room := []int{0, 1, 2, 5, 20, mostGaps}[seed%6]
		s, m := made(t, room), newModel(room)
		origins, epochs, counters := 1+rnd.Intn(3), 1+rnd.Intn(3), 4+rnd.Intn(40)
		for range 200 {
			i := id(rnd.Intn(origins), 1+rnd.Intn(epochs), 1+rnd.Intn(counters))
			if rnd.Intn(20) == 0 {
				i = wrongIds()[rnd.Intn(len(wrongIds()))]
			}
			met[both(t, s, m, i)]++
		}
		checkSet(t, s, room, m.marks()...)
	}
	for _, e := range []api.Errno{api.OK, api.ErrRange, api.ErrForm, api.ErrTwice, api.ErrFull} {
		if met[e] < 10 {
			t.Errorf("%d: met %d times", e, met[e])
		}
	}
}
