package msg

import (
	"bytes"
	"math"
	"math/rand"
	"slices"
	"testing"

	"portage/api"
)

// P13.1: Less

func TestLess(t *testing.T) {
	for _, x := range []struct{ a, b api.Id }{
		{api.Id{Origin: 1, Dest: 2, Epoch: 3, Counter: 4}, api.Id{Origin: 2, Dest: 2, Epoch: 3, Counter: 4}},
		{api.Id{Origin: 1, Dest: 2, Epoch: 3, Counter: 4}, api.Id{Origin: 1, Dest: 3, Epoch: 3, Counter: 4}},
		{api.Id{Origin: 1, Dest: 2, Epoch: 3, Counter: 4}, api.Id{Origin: 1, Dest: 2, Epoch: 4, Counter: 4}},
		{api.Id{Origin: 1, Dest: 2, Epoch: 3, Counter: 4}, api.Id{Origin: 1, Dest: 2, Epoch: 3, Counter: 5}},
		// a number that stands ahead counts more than all behind it
		{api.Id{Origin: 0, Dest: 63, Epoch: 65535, Counter: 65535}, api.Id{Origin: 1, Dest: 0, Epoch: 1, Counter: 1}},
		{api.Id{Origin: 5, Dest: 1, Epoch: 65535, Counter: 65535}, api.Id{Origin: 5, Dest: 2, Epoch: 1, Counter: 1}},
		{api.Id{Origin: 5, Dest: 1, Epoch: 1, Counter: 65535}, api.Id{Origin: 5, Dest: 1, Epoch: 2, Counter: 1}},
		// as numbers, not as texts or as their lowest bytes
		{api.Id{Origin: 9, Dest: 1, Epoch: 1, Counter: 1}, api.Id{Origin: 10, Dest: 1, Epoch: 1, Counter: 1}},
		{api.Id{Origin: 1, Dest: 9, Epoch: 1, Counter: 1}, api.Id{Origin: 1, Dest: 10, Epoch: 1, Counter: 1}},
		{api.Id{Origin: 1, Dest: 2, Epoch: 255, Counter: 1}, api.Id{Origin: 1, Dest: 2, Epoch: 256, Counter: 1}},
		{api.Id{Origin: 1, Dest: 2, Epoch: 1, Counter: 255}, api.Id{Origin: 1, Dest: 2, Epoch: 1, Counter: 256}},
		{api.Id{Origin: 1, Dest: 2, Epoch: 1, Counter: 9}, api.Id{Origin: 1, Dest: 2, Epoch: 1, Counter: 10}},
		// ids that are not right
		{api.Id{Origin: -1}, api.Id{}},
		{api.Id{}, api.Id{Dest: 1}},
		{api.Id{Epoch: -2, Counter: 9}, api.Id{Epoch: -1, Counter: -9}},
		{api.Id{Origin: 5, Dest: 5}, api.Id{Origin: 5, Dest: 6}},
		{api.Id{Origin: 64}, api.Id{Origin: 65}},
		{api.Id{Counter: 65535}, api.Id{Counter: 65536}},
		{api.Id{Counter: 1}, api.Id{Counter: 65536}},
		{api.Id{Epoch: 1}, api.Id{Epoch: 1 << 32}},
		// so far apart that no int has the way
		{api.Id{Origin: math.MinInt}, api.Id{Origin: math.MaxInt}},
		{api.Id{Dest: math.MinInt}, api.Id{Dest: 1}},
		{api.Id{Epoch: -2}, api.Id{Epoch: math.MaxInt}},
		{api.Id{Counter: math.MinInt}, api.Id{Counter: math.MaxInt}},
	} {
		if !Less(x.a, x.b) {
			t.Errorf("%+v is not ahead of %+v", x.a, x.b)
		}
		if Less(x.b, x.a) {
			t.Errorf("%+v is ahead of %+v", x.b, x.a)
		}
		if Less(x.a, x.a) || Less(x.b, x.b) {
			t.Errorf("%+v or %+v is ahead of itself", x.a, x.b)
		}
	}
}

func TestLessOfManyIds(t *testing.T) {
	r := rand.New(rand.NewSource(18))
	all := append(allIds(), rightIds()...)
	for range 200000 {
		a, b := all[r.Intn(len(all))], all[r.Intn(len(all))]
		switch r.Intn(5) { // as two ids at random are mostly told apart by their first number
		case 0:
			b.Origin = a.Origin
		case 1:
			b.Origin, b.Dest = a.Origin, a.Dest
		case 2:
			b.Origin, b.Dest, b.Epoch = a.Origin, a.Dest, a.Epoch
		}
		if got := Less(a, b); got != isAhead(a, b) {
			t.Fatalf("%+v, %+v: %t", a, b, got)
		}
	}
}

// P13.4

// somePairs answers ids of few numbers, so that many of them are unlike in one place alone.
func somePairs() []api.Id {
	var all []api.Id
	for _, origin := range []int{math.MinInt, 0, 1, 63} {
		for _, dest := range []int{-1, 0, 2, 64} {
			for _, epoch := range []int{0, 1, 256} {
				for _, counter := range []int{1, 255, math.MaxInt} {
					all = append(all, api.Id{Origin: origin, Dest: dest, Epoch: epoch, Counter: counter})
				}
			}
		}
	}
	return all
}

func TestOfUnlikeIdsJustOneIsAhead(t *testing.T) {
	all := append(somePairs(), rightIds()...)
	for _, a := range all {
		for _, b := range all {
			if one, other := Less(a, b), Less(b, a); a == b && (one || other) || a != b && one == other {
				t.Fatalf("%+v, %+v: %t %t", a, b, one, other)
			}
		}
	}
}

func TestAheadGoesThroughAThirdOne(t *testing.T) {
	all := somePairs()
	for _, a := range all {
		for _, b := range all {
			if !Less(a, b) {
				continue
			}
			for _, c := range all {
				if Less(b, c) && !Less(a, c) {
					t.Fatalf("%+v, %+v, %+v", a, b, c)
				}
			}
		}
	}
}

func TestBytesAreInTheOrderOfIds(t *testing.T) {
	all := rightIds()
	var put [][]byte
	for _, i := range all {
		p, e := PutId(i)
		if e != api.OK {
			t.Fatalf("%+v: %d", i, e)
		}
		put = append(put, p)
	}
	for x := range all {
		for y := range all {
			if (bytes.Compare(put[x], put[y]) < 0) != Less(all[x], all[y]) {
				t.Fatalf("%+v, %+v: % x, % x", all[x], all[y], put[x], put[y])
			}
		}
	}
}

func TestSortingIdsSortsTheirBytes(t *testing.T) {
	all := rightIds()
	slices.SortFunc(all, func(a, b api.Id) int {
		switch {
		case Less(a, b):
			return -1
		case Less(b, a):
			return 1
		}
		return 0
	})
	var last []byte
	for _, i := range all {
		p, _ := PutId(i)
		if bytes.Compare(last, p) >= 0 {
			t.Errorf("% x behind % x", p, last)
		}
		last = p
	}
}

func TestAnAnswerHangsOnNoOtherCall(t *testing.T) {
	a := api.Id{Origin: 1, Dest: 2, Epoch: 3, Counter: 4}
	b := api.Id{Origin: 63, Dest: 62, Epoch: 65535, Counter: 65535}
	for range 3 {
		for _, i := range []api.Id{a, b, {}, {Origin: 1, Dest: 1, Epoch: 1, Counter: 1}} {
			checkPutId(t, i)
			checkText(t, i)
			checkParse(t, written(i))
			checkGetId(t, laid(i))
			checkPut(t, api.Msg{Id: i, Data: []byte("x")})
			checkGet(t, append(laid(i), 'x'))
		}
		if !Less(a, b) || Less(b, a) {
			t.Error("less")
		}
	}
}
