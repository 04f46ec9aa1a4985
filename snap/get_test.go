package snap

import (
	"fmt"
	"math/rand"
	"slices"
	"testing"

	"portage/api"
)

// P16.2

func TestGetOfTooFewBytes(t *testing.T) {
	none(t, "nil", nil)
	none(t, "no bytes", []byte{})
	for n := range shortest {
		none(t, "noughts", make([]byte, n))
		none(t, "ones", slices.Repeat([]byte{255}, n))
		if n >= 4 { // with a right sum
			none(t, "noughts", summed(make([]byte, n-4)))
			none(t, "of the example", summed([]byte{1, 0, 2, 0, 0, 0, 0, 0}[:n-4]))
		}
	}
	none(t, "noughts without a sum", make([]byte, shortest))
}

// All that the first byte of the shortest bytes may be.
func TestGetOfTheShortest(t *testing.T) {
	for self := range 256 {
		p := summed([]byte{byte(self), 1, 2, 0, 0, 0, 0, 0})
		if self < nodes {
			gets(t, p, api.State{Self: self, Epoch: 258})
		} else {
			none(t, "a self that is none", p)
		}
	}
}

func TestGetOfSome(t *testing.T) {
	gets(t, summed(bytesOfSome()), some())
}

func TestGetOfAWrongSum(t *testing.T) {
	for _, st := range []api.State{{}, {Self: 1, Epoch: 2}, some(), many(9, 9)} {
		p := summed(laid(st))
		gets(t, p, st)
		for at := len(p) - 4; at < len(p); at++ {
			for by := 1; by < 256; by++ {
				wrong := slices.Clone(p)
				wrong[at] ^= byte(by)
				none(t, fmt.Sprintf("the sum's byte %d", at-len(p)), wrong)
			}
		}
		turned := slices.Clone(p)
		slices.Reverse(turned[len(p)-4:])
		none(t, "the sum's lowest byte first", turned)
		none(t, "without a sum", p[:len(p)-4])
		none(t, "of noughts as a sum", append(laid(st), 0, 0, 0, 0))
		none(t, "with the sum twice", append(slices.Clone(p), p[len(p)-4:]...))
		none(t, "with the sum of all that", summed(p))
	}
}

// places answers where in bytesOfSome() how many there are of something stands: in one byte, and in two.
func places() (one, two []int) {
	return []int{3, 15, 23, 33}, []int{13, 42, 49, 60, 67}
}

// Each place of bytesOfSome() is what places says.
func TestPlaces(t *testing.T) {
	p := bytesOfSome()
	one, two := places()
	var got []int
	for _, at := range one {
		got = append(got, int(p[at]))
	}
	for _, at := range two {
		got = append(got, int(p[at])<<8|int(p[at+1]))
	}
	if want := []int{3, 7, 9, 8, 3, 3, 2, 0, 1}; !slices.Equal(got, want) {
		t.Fatalf("%v; not %v", got, want)
	}
}

func TestGetOfHowManyThereAreNot(t *testing.T) {
	one, two := places()
	for _, at := range one {
		for n := range 256 {
			p := bytesOfSome()
			if int(p[at]) == n {
				continue
			}
			p[at] = byte(n)
			none(t, fmt.Sprintf("%d at %d", n, at), summed(p))
		}
	}
	for _, at := range two {
		for n := range 1 << 16 {
			p := bytesOfSome()
			if int(p[at])<<8|int(p[at+1]) == n {
				continue
			}
			p[at], p[at+1] = byte(n>>8), byte(n)
			none(t, fmt.Sprintf("%d at %d", n, at), summed(p))
		}
	}
}

// Of each list one says that there is more, and nothing stands behind it.
func TestGetOfListsWithoutAnEnd(t *testing.T) {
	for _, n := range []int{1, 2, 255} {
		none(t, "Next", summed([]byte{1, 0, 2, byte(n), 0, 0, 0, 0}))
		none(t, "Held", summed([]byte{1, 0, 2, 0, byte(n), byte(n), 0, 0}))
		none(t, "Seen", summed([]byte{1, 0, 2, 0, 0, 0, byte(n), byte(n)}))
		none(t, "More", summed([]byte{1, 0, 2, 0, 0, 0, 0, 1, 2, 0, 1, 0, 1, byte(n), byte(n)}))
	}
}

func TestGetOfOneByteTooFewOrTooManyBehindAList(t *testing.T) {
	right := bytesOfSome()
	for _, end := range []int{13, 42, len(right)} { // of Next, Held, Seen
		none(t, fmt.Sprintf("one too few ahead of %d", end), summed(slices.Delete(slices.Clone(right), end-1, end)))
		for b := range 256 {
			none(t, fmt.Sprintf("one too many at %d", end), summed(slices.Insert(slices.Clone(right), end, byte(b))))
		}
	}
	for at := range right { // wherever it is
		asWanted(t, summed(slices.Delete(slices.Clone(right), at, at+1)))
		for b := range 256 {
			asWanted(t, summed(slices.Insert(slices.Clone(right), at, byte(b))))
		}
	}
}

// Nothing but the sum stands behind the last list, however much it is.
func TestGetOfMoreBehindTheEnd(t *testing.T) {
	for _, st := range rightStates() {
		p := laid(st)
		for _, n := range []int{1, 2, 3, 4, 7, 8, 12} {
			none(t, "noughts behind", summed(append(slices.Clone(p), make([]byte, n)...)))
		}
		whole := summed(p)
		none(t, "the same behind", append(slices.Clone(whole), whole...))
		none(t, "the same behind, with a right sum", summed(append(slices.Clone(p), p...)))
		none(t, "a byte behind the sum", append(slices.Clone(whole), 0))
		none(t, "a byte ahead", append([]byte{0}, whole...))
	}
}

func TestGetOfStatesThatAreNotRight(t *testing.T) {
	gets(t, summed(laid(some())), some())
	for _, s := range append(spoilt(), overfull()...) {
		none(t, s.name, summed(laid(s.of())))
	}
	none(t, "257 messages", summed(laid(many(mostHeld+1, 1))))
	none(t, "65535 messages", summed(laid(many(most, 1))))
	none(t, "257 gaps", summed(laid(api.State{Seen: marks(mk(1, 1, 0, gaps(mostGaps+1)...))})))
	none(t, "257 gaps in two marks", summed(laid(api.State{Seen: marks(mk(1, 1, 0, gaps(mostGaps)...), mk(1, 2, 0, 2))})))
	none(t, "65536 marks, which two bytes do not count", summed(laid(manyMarks(most+1))))
}

func TestGetOfMessagesOfAnyLength(t *testing.T) {
	bytesOf := append([]byte{1, 2, 0, 1, 0, 1}, long(249)...)
	for n := range 256 {
		p := append([]byte{0, 0, 0, 0, 0, 1, byte(n)}, bytesOf[:n]...)
		p = summed(append(p, 0, 0))
		if n < 7 || n > 54 {
			none(t, fmt.Sprintf("a message in %d bytes", n), p)
			continue
		}
		gets(t, p, api.State{Held: []api.Msg{ms(id(1, 2, 1, 1), long(n-6))}})
	}
}

// Each byte of right bytes made each other one, with a right sum.
func TestGetOfBytesOfWhichOneIsAnother(t *testing.T) {
	met := map[bool]int{}
	for at := range bytesOfSome() {
		for b := range 256 {
			p := bytesOfSome()
			p[at] = byte(b)
			met[asWanted(t, summed(p))]++
		}
	}
	if met[true] < 500 || met[false] < 500 {
		t.Error(met)
	}
}

// asWanted asks that Get answers what the chapter's words say of bytes, and Put of it the bytes (P16.3); it answers whether they are a state's.
func asWanted(t *testing.T, p []byte) bool {
	t.Helper()
	st, ok := wanted(p)
	if !ok {
		none(t, "as they come", p)
		return false
	}
	puts(t, st, p)
	return true
}

// mutated answers bytes of which some are others, gone, there twice, or new.
func mutated(rnd *rand.Rand, p []byte) []byte {
	p = slices.Clone(p)
	for range 1 + rnd.Intn(2) {
		at := rnd.Intn(len(p))
		to := min(len(p), at+1+rnd.Intn(4))
		switch rnd.Intn(6) {
		case 0:
			p = append(p[:at], p[to:]...)
		case 1:
			p = slices.Insert(p, at, p[at:to]...)
		case 2:
			p = slices.Insert(p, at, byte(rnd.Intn(256)))
		default:
			p[at] += []byte{1, 1, 255, 2, 64, byte(rnd.Intn(256))}[rnd.Intn(6)]
		}
		if len(p) == 0 {
			return p
		}
	}
	return p
}

func TestGetOfAnyBytesWithTheirSum(t *testing.T) {
	rnd := rand.New(rand.NewSource(2))
	met := map[bool]int{}
	for range 1500 {
		p := laid(someState(t, rnd))
		for range 20 {
			met[asWanted(t, summed(mutated(rnd, p)))]++
		}
	}
	for range 20000 {
		p := make([]byte, rnd.Intn(40))
		for at := range p {
			p[at] = byte(rnd.Intn(3) * rnd.Intn(2))
		}
		met[asWanted(t, summed(p))]++
		none(t, "without a sum", p)
	}
	if met[true] < 1000 || met[false] < 1000 {
		t.Error(met)
	}
}
