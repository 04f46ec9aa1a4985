package stuff

import (
	"bytes"
	"math/rand"
	"slices"
	"testing"

	"portage/api"
)

// texts answers all bytes strings of up to four of some bytes, and some long ones.
func texts() [][]byte {
	out := [][]byte{nil}
	from := 0
	for range 4 {
		to := len(out)
		for _, p := range out[from:to] {
			for _, b := range []byte{0, 0x5d, 0x5e, Escape, Flag, 0x7f} {
				out = append(out, append(bytes.Clone(p), b))
			}
		}
		from = to
	}
	all := make([]byte, 256)
	for i := range all {
		all[i] = byte(i)
	}
	out = append(out, all, bytes.Repeat([]byte{Flag}, 300), bytes.Repeat([]byte{Escape}, 300))
	r := rand.New(rand.NewSource(3))
	for n := range 60 {
		p := make([]byte, 4*n)
		r.Read(p)
		for i := range p {
			if r.Intn(4) == 0 {
				p[i] = byte(Escape + r.Intn(2))
			}
		}
		out = append(out, p)
	}
	return out
}

func gather(p []byte) [][]byte {
	var out [][]byte
	for part := range Parts(p) {
		out = append(out, part)
	}
	return out
}

func sameLists(a, b [][]byte) bool {
	return slices.EqualFunc(a, b, bytes.Equal)
}

// P3.1

func TestConstants(t *testing.T) {
	if Flag != 0x7e || Escape != 0x7d || Turn != 0x20 {
		t.Errorf("%x %x %x", Flag, Escape, Turn)
	}
}

var pairs = []struct{ plain, stuffed []byte }{
	{nil, nil},
	{[]byte{}, nil},
	{[]byte{0}, []byte{0}},
	{[]byte{1, 2, 3}, []byte{1, 2, 3}},
	{[]byte{0x7e, 1, 0x7d}, []byte{0x7d, 0x5e, 1, 0x7d, 0x5d}},
	{[]byte{0x7e}, []byte{0x7d, 0x5e}},
	{[]byte{0x7d}, []byte{0x7d, 0x5d}},
	{[]byte{0x7d, 0x7e, 9}, []byte{0x7d, 0x5d, 0x7d, 0x5e, 9}},
	{[]byte{9, 0x7e, 0x7e}, []byte{9, 0x7d, 0x5e, 0x7d, 0x5e}},
	{[]byte{0x5e, 0x5d, 0x20}, []byte{0x5e, 0x5d, 0x20}},
	{[]byte{0x7d, 0x5e}, []byte{0x7d, 0x5d, 0x5e}},
	{[]byte{0x7c, 0x7f, 0xfe, 0xfd}, []byte{0x7c, 0x7f, 0xfe, 0xfd}},
}

func TestStuffed(t *testing.T) {
	for _, c := range pairs {
		if q := Stuff(c.plain); !bytes.Equal(q, c.stuffed) {
			t.Errorf("Stuff(% x): % x", c.plain, q)
		}
		if n := Size(c.plain); n != len(c.stuffed) {
			t.Errorf("Size(% x): %d", c.plain, n)
		}
		if q, e := Unstuff(c.stuffed); e != api.OK || !bytes.Equal(q, c.plain) {
			t.Errorf("Unstuff(% x): % x %v", c.stuffed, q, e)
		}
	}
}

func TestEachByteAlone(t *testing.T) {
	for i := range 256 {
		b := byte(i)
		want := []byte{b}
		if b == 0x7e || b == 0x7d {
			want = []byte{0x7d, b ^ 0x20}
		}
		if q := Stuff([]byte{b}); !bytes.Equal(q, want) || Size([]byte{b}) != len(want) {
			t.Errorf("%x: % x", b, q)
		}
	}
}

func TestUnstuffRefusesFlags(t *testing.T) {
	for _, p := range [][]byte{{0x7e}, {0x7e, 1}, {1, 0x7e}, {1, 0x7e, 2}, {0x7d, 0x7e}, {0x7d, 0x5e, 0x7e}, {0x7e, 0x7d, 0x5e}} {
		if q, e := Unstuff(p); e != api.ErrForm || q != nil {
			t.Errorf("% x: % x %v", p, q, e)
		}
	}
}

func TestUnstuffRefusesAnEscapeAtTheEnd(t *testing.T) {
	for _, p := range [][]byte{{0x7d}, {1, 0x7d}, {0x7d, 0x5e, 0x7d}, {0x7d, 0x5d, 0x7d}} {
		if q, e := Unstuff(p); e != api.ErrForm || q != nil {
			t.Errorf("% x: % x %v", p, q, e)
		}
	}
}

func TestUnstuffAheadOfEachByte(t *testing.T) {
	for i := range 256 {
		b := byte(i)
		for _, p := range [][]byte{{0x7d, b}, {1, 0x7d, b}, {0x7d, b, 1}} {
			q, e := Unstuff(p)
			if b == 0x5e || b == 0x5d {
				if e != api.OK || len(q) != len(p)-1 || !bytes.Contains(q, []byte{b ^ 0x20}) {
					t.Errorf("% x: % x %v", p, q, e)
				}
			} else if e != api.ErrForm || q != nil {
				t.Errorf("% x: % x %v", p, q, e)
			}
		}
	}
}

// tryAll answers whether p are the stuffed bytes of any bytes, which are then no more than p.
func tryAll(p []byte, from []byte, left int) bool {
	if bytes.Equal(Stuff(from), p) {
		return true
	}
	if left == 0 {
		return false
	}
	for _, b := range []byte{0, 0x5d, 0x5e, Escape, Flag, 0x7f} {
		if tryAll(p, append(bytes.Clone(from), b), left-1) {
			return true
		}
	}
	return false
}

func TestUnstuffRefusesJustWhatIsNotStuffed(t *testing.T) {
	for _, p := range texts() {
		if len(p) > 3 {
			break
		}
		if _, e := Unstuff(p); (e == api.OK) != tryAll(p, nil, len(p)) {
			t.Errorf("% x: %v", p, e)
		}
	}
}

// P3.2

func TestParts(t *testing.T) {
	for _, c := range []struct {
		p    []byte
		want [][]byte
	}{
		{nil, [][]byte{{}}},
		{[]byte{}, [][]byte{{}}},
		{[]byte{1}, [][]byte{{1}}},
		{[]byte{1, 0x7d, 3}, [][]byte{{1, 0x7d, 3}}},
		{[]byte{0x7e}, [][]byte{{}, {}}},
		{[]byte{0x7e, 0x7e}, [][]byte{{}, {}, {}}},
		{[]byte{1, 0x7e, 0x7e, 2}, [][]byte{{1}, {}, {2}}},
		{[]byte{0x7e, 1}, [][]byte{{}, {1}}},
		{[]byte{1, 0x7e}, [][]byte{{1}, {}}},
		{[]byte{0x7e, 1, 2, 0x7e}, [][]byte{{}, {1, 2}, {}}},
		{[]byte{1, 0x7e, 2, 3, 0x7e, 4}, [][]byte{{1}, {2, 3}, {4}}},
	} {
		if got := gather(c.p); !sameLists(got, c.want) {
			t.Errorf("% x: % x", c.p, got)
		}
	}
	for _, p := range texts() {
		if got := gather(p); !sameLists(got, bytes.Split(p, []byte{Flag})) && len(p) > 0 {
			t.Errorf("% x: % x", p, got)
		}
	}
}

func TestPartsIsNeverNil(t *testing.T) {
	if Parts(nil) == nil || Parts([]byte{}) == nil || Parts([]byte{1}) == nil {
		t.Error("nil")
	}
}

func TestPartsAreLeftAndGoneOverAgain(t *testing.T) {
	p := []byte{1, Flag, 2, Flag, Flag, 3}
	all := Parts(p)
	for left := range 5 {
		n := 0
		// called by hand, since a range tells of no call behind its end but by a panic
		all(func([]byte) bool {
			n++
			return n <= left
		})
		if n != min(left+1, 4) {
			t.Errorf("left behind %d: %d", left, n)
		}
	}
	for range 2 {
		if got := slices.Collect(all); !sameLists(got, [][]byte{{1}, {2}, {}, {3}}) {
			t.Errorf("% x", got)
		}
	}
	n := 0
	for range all {
		for range all {
			n++
		}
	}
	if n != 16 {
		t.Errorf("one within the other: %d", n)
	}
}

func TestPartsAreAsAtTheCall(t *testing.T) {
	p := []byte{1, Flag, 2}
	all := Parts(p)
	p[1], p[0] = 9, Flag
	for range 2 {
		if got := slices.Collect(all); !sameLists(got, [][]byte{{1}, {2}}) {
			t.Errorf("% x", got)
		}
	}
	q := []byte{1, Flag, 2}
	at := 0
	for part := range Parts(q) {
		if at++; !bytes.Equal(part, []byte{byte(at)}) {
			t.Errorf("part %d: % x", at, part)
		}
		q[1], q[2] = 7, 7
	}
}

func TestPartsShareNothing(t *testing.T) {
	p := []byte{1, 2, Flag, 3, 4}
	all := Parts(p)
	var kept [][]byte
	for part := range all {
		kept = append(kept, part)
		part[0] = Flag
		_ = append(part, Flag, Flag, Flag)
	}
	if !bytes.Equal(p, []byte{1, 2, Flag, 3, 4}) {
		t.Errorf("what was handed in: % x", p)
	}
	if !sameLists(kept, [][]byte{{Flag, 2}, {Flag, 4}}) {
		t.Errorf("one of the other's: % x", kept)
	}
	if got := slices.Collect(all); !sameLists(got, [][]byte{{1, 2}, {3, 4}}) {
		t.Errorf("again: % x", got)
	}
}

// P3.3

func TestThereAndBack(t *testing.T) {
	for _, p := range texts() {
		s := Stuff(p)
		if bytes.IndexByte(s, Flag) >= 0 {
			t.Errorf("% x: a flag in % x", p, s)
		}
		if len(s) != Size(p) {
			t.Errorf("% x: %d", p, Size(p))
		}
		if q, e := Unstuff(s); e != api.OK || !bytes.Equal(q, p) {
			t.Errorf("% x: % x %v", p, q, e)
		}
		if q, e := Unstuff(p); e == api.OK && !bytes.Equal(Stuff(q), p) {
			t.Errorf("% x: % x", p, Stuff(q))
		}
	}
}

// P3.4

func TestTogetherAndApart(t *testing.T) {
	for _, p := range texts() {
		whole := Stuff(p)
		for at := range len(p) + 1 {
			if at > 8 && at < len(p)-8 {
				continue
			}
			apart := append(Stuff(p[:at]), Stuff(p[at:])...)
			if !bytes.Equal(apart, whole) || Size(p[:at])+Size(p[at:]) != len(whole) {
				t.Errorf("% x at %d: % x", p, at, apart)
			}
		}
	}
}

// P3.5

func TestPartsWithFlagsBetween(t *testing.T) {
	for _, p := range texts() {
		parts := gather(p)
		if got := bytes.Join(parts, []byte{Flag}); !bytes.Equal(got, p) {
			t.Errorf("% x: % x", p, got)
		}
		if len(parts) != bytes.Count(p, []byte{Flag})+1 {
			t.Errorf("% x: %d parts", p, len(parts))
		}
	}
}

func TestStuffedBytesBetweenFlags(t *testing.T) {
	all := texts()
	var line []byte
	for i, p := range all {
		if i > 0 {
			line = append(line, Flag)
		}
		line = append(line, Stuff(p)...)
	}
	at := 0
	for part := range Parts(line) {
		if q, e := Unstuff(part); e != api.OK || !bytes.Equal(q, all[at]) {
			t.Errorf("part %d: % x %v", at, q, e)
		}
		at++
	}
	if at != len(all) {
		t.Errorf("%d parts", at)
	}
}

// What is handed in is neither changed nor kept, nor what lies in the room behind it.

func TestHandedInStaysAsItIs(t *testing.T) {
	for _, p := range texts() {
		room := append(bytes.Clone(p), 0x11, Flag, Escape, 0x22)
		was := bytes.Clone(room)
		in := room[:len(p)]
		s := Stuff(in)
		u, _ := Unstuff(in)
		parts := gather(in)
		for _, out := range append(parts, s, u) {
			for i := range out {
				out[i] ^= 0xff
			}
			_ = append(out, 1, 2, 3, 4)
		}
		if Size(in); !bytes.Equal(room, was) {
			t.Errorf("% x: % x", was, room)
		}
	}
}
