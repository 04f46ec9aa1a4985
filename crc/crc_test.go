package crc

import (
	"bytes"
	"hash/crc32"
	mathbits "math/bits"
	"math/rand"
	"testing"
)

var digits = []byte("123456789")

// texts answers bytes of several lengths, none and one among them.
func texts() [][]byte {
	out := [][]byte{nil, {}, {0}, {1}, {0x80}, {0xff}, {0, 0}, {0xff, 0xff}, {0, 0, 0, 0, 0}, digits}
	r := rand.New(rand.NewSource(2))
	for n := range 40 {
		p := make([]byte, n)
		r.Read(p)
		out = append(out, p)
	}
	long := make([]byte, 1000)
	r.Read(long)
	return append(out, long)
}

// upright answers the register behind a byte, reckoned the other way round: from the highest bit on, with the polynomial that ITU writes.
func upright(register uint16, b byte) uint16 {
	up := mathbits.Reverse16(register) ^ uint16(mathbits.Reverse8(b))<<8
	for range 8 {
		if up >= 0x8000 {
			up = up<<1 ^ 0x1021
		} else {
			up <<= 1
		}
	}
	return mathbits.Reverse16(up)
}

func uprightFcs(p []byte) uint16 {
	register := uint16(0xffff)
	for _, b := range p {
		register = upright(register, b)
	}
	return ^register
}

func registerBehind(p []byte) uint16 {
	register := uint16(Begin)
	for _, b := range p {
		register = Step(register, b)
	}
	return register
}

// turn answers p with the bits of pattern turned, its lowest one in place at.
func turn(p []byte, at int, pattern uint64) []byte {
	out := bytes.Clone(p)
	for i := range 64 {
		if pattern>>i&1 == 1 {
			out[(at+i)/8] ^= 1 << ((at + i) % 8)
		}
	}
	return out
}

// P2.1

func TestStep(t *testing.T) {
	for _, c := range []struct {
		register uint16
		b        byte
		want     uint16
	}{
		{0, 0, 0},
		{0, 0x80, 0x8408},
		{0x80, 0, 0x8408},
		{0x80, 0x80, 0},
		{0x100, 0, 1}, // what stands above the lowest byte only moves down
		{0xff00, 0, 0x00ff},
		{0xffff, 0xff, 0x00ff},
		{0, 0x08, 0x8c48}, // a 1 goes out at the fourth move, and at the eighth once more
	} {
		if got := Step(c.register, c.b); got != c.want {
			t.Errorf("Step(%04x, %02x): %04x, want %04x", c.register, c.b, got, c.want)
		}
	}
}

func TestStepOfEveryRegister(t *testing.T) {
	for register := range 1 << 16 {
		for _, b := range []byte{0, 1, 2, 0x7e, 0x80, 0xa5, 0xff, byte(register), byte(register >> 8)} {
			if got, want := Step(uint16(register), b), upright(uint16(register), b); got != want {
				t.Fatalf("Step(%04x, %02x): %04x, want %04x", register, b, got, want)
			}
		}
	}
	for b := range 256 {
		if got, want := Step(0x1234, byte(b)), upright(0x1234, byte(b)); got != want {
			t.Fatalf("Step(1234, %02x): %04x, want %04x", b, got, want)
		}
	}
}

func TestSumsOfKnownBytes(t *testing.T) {
	if got := Fcs(digits); got != 0x906e {
		t.Errorf("Fcs: %04x", got)
	}
	if got := Sum(digits); got != 0xcbf43926 {
		t.Errorf("Sum: %08x", got)
	}
	if got := Fcs([]byte{1}); got != 0xe1f1 {
		t.Errorf("Fcs of 01: %04x", got)
	}
	if got := Sum([]byte("a")); got != 0xe8b7be43 {
		t.Errorf("Sum of a: %08x", got)
	}
}

func TestSumsOfNone(t *testing.T) {
	for _, lists := range [][][]byte{nil, {}, {nil}, {{}}, {nil, {}, nil}} {
		if got := Fcs(lists...); got != 0 {
			t.Errorf("Fcs of %d empty lists: %04x", len(lists), got)
		}
		if got := Sum(lists...); got != 0 {
			t.Errorf("Sum of %d empty lists: %08x", len(lists), got)
		}
	}
}

func TestSumsOfAnyBytes(t *testing.T) {
	for _, p := range texts() {
		if got, want := Fcs(p), uprightFcs(p); got != want {
			t.Errorf("Fcs(%x): %04x, want %04x", p, got, want)
		}
		if got, want := Fcs(p), ^registerBehind(p); got != want {
			t.Errorf("Fcs(%x): %04x, but its steps say %04x", p, got, want)
		}
		if got, want := Sum(p), crc32.ChecksumIEEE(p); got != want {
			t.Errorf("Sum(%x): %08x, want %08x", p, got, want)
		}
	}
}

func TestSumsOfLists(t *testing.T) {
	for _, p := range texts() {
		fcs, sum := Fcs(p), Sum(p)
		for cut := range len(p) + 1 {
			lists := [][]byte{p[:cut], nil, p[cut:], {}}
			if got := Fcs(lists...); got != fcs {
				t.Fatalf("Fcs(%x), cut at %d: %04x, want %04x", p, cut, got, fcs)
			}
			if got := Sum(lists...); got != sum {
				t.Fatalf("Sum(%x), cut at %d: %08x, want %08x", p, cut, got, sum)
			}
		}
		var single [][]byte
		for i := range p {
			single = append(single, p[i:i+1])
		}
		if Fcs(single...) != fcs || Sum(single...) != sum {
			t.Errorf("the sums of %x hang on how it is parted", p)
		}
	}
	if Fcs([]byte("56789"), []byte("1234")) == 0x906e || Sum([]byte("56789"), []byte("1234")) == 0xcbf43926 {
		t.Error("the sums do not hang on the order of the lists")
	}
}

func TestSumsChangeNothing(t *testing.T) {
	one, two := []byte("1234"), []byte("56789")
	lists := [][]byte{one, two}
	Fcs(lists...)
	Sum(lists...)
	Right(one)
	if string(one) != "1234" || string(two) != "56789" || &lists[0][0] != &one[0] || &lists[1][0] != &two[0] {
		t.Errorf("what was handed in was changed: %q %q", one, two)
	}
}

// P2.2

func TestAdd(t *testing.T) {
	for _, c := range []struct{ p, want []byte }{
		{nil, []byte{0, 0}},
		{[]byte{}, []byte{0, 0}},
		{[]byte{1}, []byte{1, 0xf1, 0xe1}}, // the lower byte first
		{digits, append(bytes.Clone(digits), 0x6e, 0x90)},
	} {
		if got := Add(c.p); !bytes.Equal(got, c.want) {
			t.Errorf("Add(%x): %x, want %x", c.p, got, c.want)
		}
	}
	for _, p := range texts() {
		fcs := uprightFcs(p)
		want := append(bytes.Clone(p), byte(fcs), byte(fcs>>8))
		if got := Add(p); !bytes.Equal(got, want) {
			t.Errorf("Add(%x): %x, want %x", p, got, want)
		}
	}
}

func TestAddSharesNothing(t *testing.T) {
	room := []byte{1, 2, 77, 77, 77, 77}
	p := room[:2]
	one, two := Add(p), Add(p)
	if !bytes.Equal(room, []byte{1, 2, 77, 77, 77, 77}) {
		t.Errorf("the room behind the list's end was changed: %v", room)
	}
	want := bytes.Clone(two)
	one[0], one[3], room[1] = 99, 99, 99
	if !bytes.Equal(two, want) || one[1] != 2 {
		t.Errorf("memory is shared: %v %v", one, two)
	}
	none, again := Add(nil), Add(nil)
	none[0] = 99
	if again[0] != 0 {
		t.Error("memory is shared by the sums of none")
	}
}

func TestRight(t *testing.T) {
	for _, c := range []struct {
		p    []byte
		want bool
	}{
		{nil, false},
		{[]byte{}, false},
		{[]byte{0}, false},
		{[]byte{0xff}, false},
		{[]byte{0, 0}, true},
		{[]byte{0, 0, 0, 0, 0}[:2], true},
		{[]byte{0, 1}, false},
		{[]byte{0xff, 0xff}, false},
		{[]byte{1, 0xf1, 0xe1}, true},
		{[]byte{1, 0xe1, 0xf1}, false}, // the higher byte first
		{[]byte{1, 0xf1}, false},
		{[]byte{1, 0x0e, 0x1e}, false}, // a sum of which the bits were not turned
		{[]byte{1, 0xf1, 0xe1, 0}, false},
		{digits, false},
		{append(bytes.Clone(digits), 0x6e, 0x90), true},
	} {
		if got := Right(c.p); got != c.want {
			t.Errorf("Right(%x): %t", c.p, got)
		}
	}
	for b := range 256 {
		if Right([]byte{byte(b)}) {
			t.Errorf("Right of the one byte %02x", b)
		}
	}
}

func TestRightOfAdd(t *testing.T) {
	for _, p := range texts() {
		whole := Add(p)
		if !Right(whole) {
			t.Errorf("%x with its sum is not right", p)
		}
		if !Right(Add(whole)) {
			t.Errorf("%x with its sum, with its sum, is not right", p)
		}
	}
}

func TestRightOfEverySum(t *testing.T) {
	for _, p := range [][]byte{nil, {0}, {0xff}, {1, 2, 3}, digits} {
		want := uprightFcs(p)
		for fcs := range 1 << 16 {
			whole := append(bytes.Clone(p), byte(fcs), byte(fcs>>8))
			if got := Right(whole); got != (uint16(fcs) == want) {
				t.Fatalf("Right(%x): %t", whole, got)
			}
		}
	}
}

// P2.3

func TestRestBehindRightBytes(t *testing.T) {
	if Begin != 0xffff || Rest != 0xf0b8 {
		t.Fatalf("Begin %x, Rest %x", Begin, Rest)
	}
	for _, p := range texts() {
		if got := registerBehind(Add(p)); got != Rest {
			t.Errorf("the register behind %x with its sum: %04x", p, got)
		}
	}
}

func TestRestBehindNoOtherBytes(t *testing.T) {
	for _, p := range texts() {
		if len(p) < 2 {
			continue
		}
		if got := registerBehind(p) == Rest; got != Right(p) {
			t.Errorf("%x: Rest %t, Right %t", p, got, Right(p))
		}
	}
	for n := range 1 << 16 {
		for _, p := range [][]byte{{byte(n), byte(n >> 8)}, {0x5a, byte(n), byte(n >> 8)}} {
			fcs := uprightFcs(p[:len(p)-2])
			sumStands := p[len(p)-2] == byte(fcs) && p[len(p)-1] == byte(fcs>>8)
			if got := registerBehind(p) == Rest; got != sumStands {
				t.Fatalf("%x: Rest %t, but its sum stands there: %t", p, got, sumStands)
			}
		}
	}
}

// P2.4

func TestEveryTurnWithin16Bits(t *testing.T) {
	for _, p := range [][]byte{nil, {0}, {0x7e}, {1, 2, 3, 4}} {
		whole := Add(p)
		for at := range 8 * len(whole) {
			span := min(16, 8*len(whole)-at)
			for pattern := 1; pattern < 1<<span; pattern += 2 {
				if turned := turn(whole, at, uint64(pattern)); Right(turned) {
					t.Fatalf("%x, turned to %x, is right", whole, turned)
				}
			}
		}
	}
}

func TestTurnsWithin16BitsOfLongBytes(t *testing.T) {
	r := rand.New(rand.NewSource(3))
	for _, n := range []int{48, 128, 300} {
		p := make([]byte, n)
		r.Read(p)
		whole := Add(p)
		for at := range 8*len(whole) - 15 {
			for _, pattern := range []uint64{1, 3, 0x8001, 0xffff, uint64(r.Intn(1<<16)) | 1} {
				if Right(turn(whole, at, pattern)) {
					t.Fatalf("%d bytes, turned by %04x at %d, are right", n, pattern, at)
				}
			}
		}
	}
}

// P2.5

func TestTurnsWithin32Bits(t *testing.T) {
	r := rand.New(rand.NewSource(4))
	for _, n := range []int{4, 5, 9, 56, 300} {
		p := make([]byte, n)
		r.Read(p)
		sum := Sum(p)
		for at := range 8 * n {
			span := min(32, 8*n-at)
			patterns := []uint64{1<<span - 1, 0x80000001, 0xedb88320>>5 | 1}
			for i := range span {
				patterns = append(patterns, 1|1<<i, r.Uint64()|1)
			}
			for _, pattern := range patterns {
				pattern &= 1<<span - 1
				if turned := turn(p, at, pattern); Sum(turned) == sum {
					t.Fatalf("%x and %x have the same sum", p, turned)
				}
			}
		}
	}
}

func TestEveryTurnOfTwoBytesHasAnotherSum(t *testing.T) {
	sums := map[uint32]bool{}
	for n := range 1 << 16 {
		sums[Sum([]byte{byte(n), byte(n >> 8)})] = true
	}
	if len(sums) != 1<<16 {
		t.Errorf("%d sums of two bytes", len(sums))
	}
}
