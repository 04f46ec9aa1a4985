package hdlc

import (
	"bytes"
	"math/rand"
	"slices"
	"testing"

	"portage/api"
	"portage/crc"
	"portage/stuff"
)

const flag = 0x7e

// lists joins lists of bytes, one behind the other.
func lists(p ...[]byte) []byte {
	return bytes.Join(p, nil)
}

// fill answers n bytes that are neither flags nor escapes.
func fill(n int) []byte {
	return bytes.Repeat([]byte{'a'}, n)
}

// inside answers what stands between a content's flags.
func inside(content []byte) []byte {
	return stuff.Stuff(crc.Add(content))
}

// framed answers bytes between two flags.
func framed(p []byte) []byte {
	return lists([]byte{flag}, p, []byte{flag})
}

func sameLists(a, b [][]byte) bool {
	return slices.EqualFunc(a, b, bytes.Equal)
}

func fed(p []byte) (*Decoder, [][]byte) {
	d := New()
	return d, d.Feed(p)
}

// contents answers contents of all lengths, of many kinds of bytes.
func contents() [][]byte {
	r := rand.New(rand.NewSource(4))
	var out [][]byte
	for n := 1; n <= api.MaxFrame; n++ {
		p := make([]byte, n)
		r.Read(p)
		q := bytes.Clone(p)
		for i := range q {
			q[i] = byte(stuff.Escape + r.Intn(2))
		}
		out = append(out, fill(n), bytes.Repeat([]byte{flag}, n), bytes.Repeat([]byte{stuff.Escape}, n), p, q)
	}
	for i := range 256 {
		out = append(out, []byte{byte(i)})
	}
	return out
}

// allTurned answers a content of just MaxFrame bytes of which each, and each of its sum, is turned by stuffing.
func allTurned(t *testing.T) []byte {
	r := rand.New(rand.NewSource(5))
	p := make([]byte, api.MaxFrame)
	for range 1 << 20 {
		for i := range p {
			p[i] = byte(stuff.Escape + r.Intn(2))
		}
		if len(inside(p)) == 260 {
			return p
		}
	}
	t.Fatal("none found")
	return nil
}

// reckoned answers what a decoder tells of all these bytes, what it has met and how many it has gathered, by the parts that flags make.
func reckoned(p []byte) (told [][]byte, s api.Stats, gathered int) {
	parts := bytes.Split(p, []byte{flag})
	last := len(parts) - 1
	if last == 0 {
		return nil, s, -1
	}
	for at, part := range parts[1:] {
		plain, e := stuff.Unstuff(part)
		switch {
		case len(part) > 260:
			s.Long++
		case at+1 == last || len(part) == 0:
		case e != api.OK:
			s.Broken++
		case len(plain) < 3:
			s.Short++
		case !bytes.Equal(crc.Add(plain[:len(plain)-2]), plain):
			s.Bad++
		case len(plain)-2 > 128:
			s.Long++
		default:
			s.Good++
			told = append(told, plain[:len(plain)-2])
		}
	}
	if gathered = len(parts[last]); gathered > 260 {
		gathered = -1
	}
	return told, s, gathered
}

func checkReckoned(t *testing.T, d *Decoder, told [][]byte, all []byte) {
	t.Helper()
	want, s, gathered := reckoned(all)
	if !sameLists(told, want) {
		t.Errorf("% x: told % x, not % x", all, told, want)
	}
	if d.Stats() != s || d.Inside() != gathered {
		t.Errorf("% x: %+v %d, not %+v %d", all, d.Stats(), d.Inside(), s, gathered)
	}
}

// noise answers bytes as they come on a poor line: frames, parts of them, frames with bytes turned, flags, long ones.
func noise(r *rand.Rand) []byte {
	var out []byte
	for range r.Intn(12) {
		content := make([]byte, 1+r.Intn(20))
		r.Read(content)
		if r.Intn(8) == 0 {
			content = bytes.Repeat([]byte{byte(stuff.Escape + r.Intn(2))}, 120+r.Intn(12))
		}
		f := framed(inside(content))
		switch r.Intn(8) {
		case 0:
			f = f[:r.Intn(len(f))]
		case 1:
			f = f[r.Intn(len(f)):]
		case 2:
			f[r.Intn(len(f))] ^= 1 << r.Intn(8)
		case 3:
			f = bytes.Repeat([]byte{flag}, r.Intn(4))
		case 4:
			f = fill(255 + r.Intn(10))
		case 5:
			f = slices.Insert(f, r.Intn(len(f)), byte(stuff.Escape))
		case 6:
			f = f[1:]
		}
		out = append(out, f...)
	}
	return out
}

// P4.1

func TestEncode(t *testing.T) {
	for _, c := range []struct{ content, want []byte }{
		{[]byte{1}, []byte{0x7e, 0x01, 0xf1, 0xe1, 0x7e}},
		{[]byte("123456789"), []byte("\x7e123456789\x6e\x90\x7e")},
		{[]byte{0x7e, 1, 0x7d}, lists([]byte{0x7e, 0x7d, 0x5e, 1, 0x7d, 0x5d}, stuff.Stuff(crc.Add([]byte{0x7e, 1, 0x7d})[3:]), []byte{0x7e})},
	} {
		if p, e := Encode(c.content); e != api.OK || !bytes.Equal(p, c.want) {
			t.Errorf("% x: % x %v", c.content, p, e)
		}
	}
	for _, c := range contents() {
		if p, e := Encode(c); e != api.OK || !bytes.Equal(p, framed(inside(c))) {
			t.Errorf("% x: % x %v", c, p, e)
		}
	}
}

func TestEncodeStuffsTheSum(t *testing.T) {
	met := 0
	for i := range 1 << 16 {
		c := []byte{byte(i), byte(i >> 8)}
		fcs := crc.Fcs(c)
		if low, high := byte(fcs), byte(fcs>>8); low == flag && high == stuff.Escape {
			met++
			want := lists([]byte{flag}, stuff.Stuff(c), []byte{0x7d, 0x5e, 0x7d, 0x5d, flag})
			if p, e := Encode(c); e != api.OK || !bytes.Equal(p, want) {
				t.Errorf("% x: % x %v", c, p, e)
			}
		}
	}
	if met == 0 {
		t.Error("no such sum was met")
	}
}

func TestEncodeRefuses(t *testing.T) {
	for _, c := range [][]byte{nil, {}} {
		if p, e := Encode(c); e != api.ErrForm || p != nil {
			t.Errorf("% x %v", p, e)
		}
	}
	for _, n := range []int{129, 130, 131, 256, 257, 1000, 1 << 16} {
		if p, e := Encode(fill(n)); e != api.ErrLong || p != nil {
			t.Errorf("%d: % x %v", n, p, e)
		}
	}
	for _, n := range []int{1, 127, 128} {
		if p, e := Encode(fill(n)); e != api.OK || p == nil {
			t.Errorf("%d: % x %v", n, p, e)
		}
	}
	if p, e := Encode(allTurned(t)); e != api.OK || len(p) != 262 {
		t.Errorf("%d bytes %v", len(p), e)
	}
}

// P4.2

func TestNewLooksForAFlag(t *testing.T) {
	d := New()
	if d == nil || d.Stats() != (api.Stats{}) || d.Inside() != -1 {
		t.Fatalf("%+v", d)
	}
	for _, p := range [][]byte{nil, {}, {1}, {stuff.Escape}, inside([]byte{1}), fill(1000)} {
		if told := d.Feed(p); told != nil {
			t.Errorf("% x: told % x", p, told)
		}
		if d.Stats() != (api.Stats{}) || d.Inside() != -1 {
			t.Errorf("% x: %+v %d", p, d.Stats(), d.Inside())
		}
	}
	if told := d.Feed([]byte{flag}); told != nil || d.Inside() != 0 || d.Stats() != (api.Stats{}) {
		t.Errorf("told % x; %+v %d", told, d.Stats(), d.Inside())
	}
}

func TestExample(t *testing.T) {
	d, told := fed([]byte{0xff, 0x7e, 0x01, 0xf1, 0xe1, 0x7e, 0x7e, 0x01, 0x7e})
	if !sameLists(told, [][]byte{{1}}) {
		t.Errorf("told % x", told)
	}
	if d.Stats() != (api.Stats{Good: 1, Short: 1}) || d.Inside() != 0 {
		t.Errorf("%+v %d", d.Stats(), d.Inside())
	}
}

// withoutSum answers so many bytes that are none with their sum.
func withoutSum(n int) []byte {
	p := fill(n)
	if n >= 2 && crc.Right(p) {
		p[0] = 'b'
	}
	return p
}

func TestGatheredBytesAreToldApart(t *testing.T) {
	sumIsFine := crc.Add(nil)
	for _, c := range []struct {
		name     string
		gathered []byte
		want     api.Stats
	}{
		{"none", nil, api.Stats{}},
		{"an escape alone", []byte{0x7d}, api.Stats{Broken: 1}},
		{"an escape at the end", lists(inside([]byte{1, 2}), []byte{0x7d}), api.Stats{Broken: 1}},
		{"an escape ahead of another byte", []byte{1, 0x7d, 0x21, 3, 4, 5}, api.Stats{Broken: 1}},
		{"an escape ahead of an escape", []byte{0x7d, 0x7d, 0x5d}, api.Stats{Broken: 1}},
		{"broken, and short", []byte{0x7d, 1}, api.Stats{Broken: 1}},
		{"broken, and longer than a content", lists(fill(140), []byte{0x7d}), api.Stats{Broken: 1}},
		{"broken, as many as can be", lists(fill(259), []byte{0x7d}), api.Stats{Broken: 1}},
		{"one byte", []byte{1}, api.Stats{Short: 1}},
		{"two bytes", []byte{1, 2}, api.Stats{Short: 1}},
		{"two bytes, their sum of none", sumIsFine, api.Stats{Short: 1}},
		{"two bytes that are turned", []byte{0x7d, 0x5e, 0x7d, 0x5d}, api.Stats{Short: 1}},
		{"three bytes", []byte{1, 2, 3}, api.Stats{Bad: 1}},
		{"three bytes, one of them turned", []byte{0x7d, 0x5e, 1, 2}, api.Stats{Bad: 1}},
		{"the sum's bytes the other way round", []byte{0x01, 0xe1, 0xf1}, api.Stats{Bad: 1}},
		{"a bit turned", []byte{0x01, 0xf1, 0xe0}, api.Stats{Bad: 1}},
		{"bad, and long", withoutSum(131), api.Stats{Bad: 1}},
		{"bad, as many as can be", withoutSum(260), api.Stats{Bad: 1}},
		{"one byte and its sum", []byte{0x01, 0xf1, 0xe1}, api.Stats{Good: 1}},
		{"just MaxFrame", inside(fill(128)), api.Stats{Good: 1}},
		{"one more than MaxFrame", inside(fill(129)), api.Stats{Long: 1}},
		{"two more than MaxFrame", inside(fill(130)), api.Stats{Long: 1}},
		{"long, as many as can be", inside(fill(258)), api.Stats{Long: 1}},
		{"one more than can be", inside(fill(259)), api.Stats{Long: 1}},
		{"broken, one more than can be", lists(fill(260), []byte{0x7d}), api.Stats{Long: 1}},
		{"broken from the first on, and more than can be", lists([]byte{0x7d}, fill(260)), api.Stats{Long: 1}},
		{"bad, one more than can be", withoutSum(261), api.Stats{Long: 1}},
		{"many more than can be", fill(3000), api.Stats{Long: 1}},
	} {
		d, told := fed(framed(c.gathered))
		if d.Stats() != c.want || d.Inside() != 0 || len(told) != c.want.Good {
			t.Errorf("%s: %+v %d; told % x", c.name, d.Stats(), d.Inside(), told)
		}
		checkReckoned(t, d, told, framed(c.gathered))
		// that flag begins the next one
		told = d.Feed([]byte{0x01, 0xf1, 0xe1, flag})
		c.want.Good++
		if d.Stats() != c.want || !sameLists(told, [][]byte{{1}}) {
			t.Errorf("%s, and one more: %+v; told % x", c.name, d.Stats(), told)
		}
	}
}

func TestMoreThanCanBeGathered(t *testing.T) {
	d, told := fed(lists([]byte{flag}, fill(260)))
	if told != nil || d.Inside() != 260 || d.Stats() != (api.Stats{}) {
		t.Errorf("260: %+v %d", d.Stats(), d.Inside())
	}
	at := d.Clone()
	if told := at.Feed([]byte{flag}); told != nil || at.Inside() != 0 || at.Stats() != (api.Stats{Bad: 1}) {
		t.Errorf("260 and a flag: %+v %d", at.Stats(), at.Inside())
	}
	d.Feed([]byte{'a'})
	if d.Inside() != -1 || d.Stats() != (api.Stats{Long: 1}) {
		t.Errorf("261: %+v %d", d.Stats(), d.Inside())
	}
	d.Feed(fill(1000))
	if d.Inside() != -1 || d.Stats() != (api.Stats{Long: 1}) {
		t.Errorf("many more: %+v %d", d.Stats(), d.Inside())
	}
	d.Feed([]byte{flag})
	if d.Inside() != 0 || d.Stats() != (api.Stats{Long: 1}) {
		t.Errorf("and a flag: %+v %d", d.Stats(), d.Inside())
	}
	if told := d.Feed([]byte{0x01, 0xf1, 0xe1, flag}); !sameLists(told, [][]byte{{1}}) {
		t.Errorf("and a frame: told % x", told)
	}
	for n := 261; n < 275; n++ {
		if told := d.Feed(fill(n)); told != nil || d.Inside() != -1 || d.Stats() != (api.Stats{Good: 1, Long: n - 259}) {
			t.Errorf("again: %+v %d", d.Stats(), d.Inside())
		}
		d.Feed([]byte{flag})
	}
}

func TestAllTurned(t *testing.T) {
	c := allTurned(t)
	d, told := fed(framed(inside(c)))
	if !sameLists(told, [][]byte{c}) || d.Stats() != (api.Stats{Good: 1}) {
		t.Errorf("told % x; %+v", told, d.Stats())
	}
	d, told = fed(framed(inside(append(c, flag))))
	if told != nil || d.Stats() != (api.Stats{Long: 1}) {
		t.Errorf("one more: told % x; %+v", told, d.Stats())
	}
}

func TestInsideCountsBytesAsTheyCome(t *testing.T) {
	d := New()
	p := lists([]byte{9, 9, flag}, stuff.Stuff([]byte{1, flag, stuff.Escape, 2}), []byte{flag, flag, 5})
	want := []int{-1, -1, 0, 1, 2, 3, 4, 5, 6, 0, 0, 1}
	for i, b := range p {
		if d.Feed([]byte{b}); d.Inside() != want[i] {
			t.Errorf("byte %d: %d", i, d.Inside())
		}
	}
	if d.Feed(nil); d.Inside() != 1 {
		t.Errorf("none: %d", d.Inside())
	}
}

func TestStatsGoOnSinceNew(t *testing.T) {
	d := New()
	p := lists(framed([]byte{1}), inside([]byte{1}), framed([]byte{1, 2, 3}), []byte{0x7d}, framed(fill(300)))
	one := api.Stats{Good: 1, Bad: 1, Short: 1, Long: 1, Broken: 1}
	if d.Feed(p); d.Stats() != one {
		t.Errorf("%+v", d.Stats())
	}
	if d.Feed(p); d.Stats() != (api.Stats{Good: 2, Bad: 2, Short: 2, Long: 2, Broken: 2}) {
		t.Errorf("%+v", d.Stats())
	}
	if New().Stats() != (api.Stats{}) {
		t.Error("a new one")
	}
}

func TestClone(t *testing.T) {
	frame, _ := Encode([]byte{1, flag, 2, stuff.Escape, 3})
	for at := range len(frame) + 1 {
		d, _ := fed(lists(framed([]byte{1}), frame[:at]))
		c := d.Clone()
		if c == nil || c == d || c.Stats() != d.Stats() || c.Inside() != d.Inside() {
			t.Fatalf("at %d: %+v", at, c)
		}
		was, gathered := d.Stats(), d.Inside()
		if told := c.Feed(lists(fill(3), []byte{flag}, framed(inside([]byte{7})))); !bytes.Equal(told[len(told)-1], []byte{7}) {
			t.Errorf("at %d: the clone told % x", at, told)
		}
		if d.Stats() != was || d.Inside() != gathered {
			t.Errorf("at %d: changed by its clone: %+v %d", at, d.Stats(), d.Inside())
		}
		again := d.Clone()
		told := d.Feed(frame[at:])
		if other := again.Feed(frame[at:]); !sameLists(told, other) || again.Stats() != d.Stats() || again.Inside() != d.Inside() {
			t.Errorf("at %d: told % x, the clone % x", at, told, other)
		}
		if at < len(frame) && !sameLists(told, [][]byte{{1, flag, 2, stuff.Escape, 3}}) {
			t.Errorf("at %d: told % x", at, told)
		}
	}
}

func TestClonesShareNoBytes(t *testing.T) {
	// a second clone, and the room behind what is gathered: each goes on by itself, one byte by turns
	d, _ := fed([]byte{flag, 'x'})
	all := []*Decoder{d, d.Clone(), d.Clone()}
	all = append(all, all[1].Clone())
	rest := make([][]byte, len(all))
	for i := range all {
		rest[i] = append(inside([]byte{'x', byte(i), byte(i)})[1:], flag)
	}
	var told [4][][]byte
	for at := range rest[0] {
		for i, c := range all {
			told[i] = append(told[i], c.Feed(rest[i][at:at+1])...)
		}
	}
	for i := range all {
		if !sameLists(told[i], [][]byte{{'x', byte(i), byte(i)}}) {
			t.Errorf("%d told % x", i, told[i])
		}
	}
}

func TestNilDecoder(t *testing.T) {
	var d *Decoder
	if told := d.Feed(framed(inside([]byte{1}))); told != nil {
		t.Errorf("told % x", told)
	}
	if d.Feed(nil) != nil || d.Stats() != (api.Stats{}) || d.Inside() != -1 || d.Clone() != nil {
		t.Errorf("%+v %d", d.Stats(), d.Inside())
	}
}

// P4.3

func TestAFrameIsToldBehindAnything(t *testing.T) {
	content := []byte{4, flag, stuff.Escape, 4}
	frame, _ := Encode(content)
	ahead := [][]byte{nil, {flag}, {stuff.Escape}, {flag, stuff.Escape}, {flag, flag}, {flag, 1}, frame[:len(frame)-1], frame[1:], frame}
	for n := range 270 {
		ahead = append(ahead, fill(n), lists([]byte{flag}, fill(n)), lists([]byte{flag}, fill(n), []byte{stuff.Escape}))
	}
	r := rand.New(rand.NewSource(6))
	for range 300 {
		p := make([]byte, r.Intn(600))
		r.Read(p)
		ahead = append(ahead, p, noise(r))
	}
	for _, p := range ahead {
		for _, cut := range []int{0, len(p) / 2, len(p)} {
			d, _ := fed(p[:cut])
			d.Feed(p[cut:])
			told := d.Feed(frame)
			if len(told) == 0 || !bytes.Equal(told[len(told)-1], content) || d.Inside() != 0 {
				t.Errorf("% x: told % x", p, told)
			}
		}
	}
	for _, c := range contents() {
		frame, _ := Encode(c)
		d, _ := fed(noise(r))
		if told := d.Feed(frame); len(told) == 0 || !bytes.Equal(told[len(told)-1], c) {
			t.Errorf("% x: told % x", c, told)
		}
	}
}

// P4.4

func TestHowBytesArePartedSaysNothing(t *testing.T) {
	r := rand.New(rand.NewSource(7))
	for range 300 {
		p := noise(r)
		whole, told := fed(p)
		checkReckoned(t, whole, told, p)
		single := New()
		var byOne [][]byte
		for i := range p {
			byOne = append(byOne, single.Feed(p[i:i+1])...)
			checkReckoned(t, single, byOne, p[:i+1])
		}
		parted := New()
		var byParts [][]byte
		for at := 0; at < len(p); {
			n := min(r.Intn(40), len(p)-at)
			byParts = append(byParts, parted.Feed(p[at:at+n])...)
			at += n
		}
		checkReckoned(t, parted, byParts, p)
		if t.Failed() {
			return
		}
	}
}

func TestAFramePartedAnywhere(t *testing.T) {
	content := []byte{1, flag, stuff.Escape, 2, flag}
	p := lists(framed(inside(content)), inside(content), []byte{flag})
	for i := range len(p) + 1 {
		for j := i; j <= len(p); j++ {
			d, told := fed(p[:i])
			told = append(told, d.Feed(p[i:j])...)
			told = append(told, d.Feed(p[j:])...)
			if !sameLists(told, [][]byte{content, content}) || d.Stats() != (api.Stats{Good: 2}) || d.Inside() != 0 {
				t.Errorf("%d %d: told % x; %+v", i, j, told, d.Stats())
			}
		}
	}
}

// P4.5

func TestFramesOneBehindTheOther(t *testing.T) {
	all := contents()
	rand.New(rand.NewSource(8)).Shuffle(len(all), func(i, j int) { all[i], all[j] = all[j], all[i] })
	for flags := 1; flags <= 4; flags++ {
		line := []byte{flag}
		for _, c := range all {
			frame, _ := Encode(c)
			line = append(line, frame[1:]...)
			line = append(line, bytes.Repeat([]byte{flag}, flags-1)...)
		}
		d, told := fed(line)
		if !sameLists(told, all) || d.Stats() != (api.Stats{Good: len(all)}) || d.Inside() != 0 {
			t.Errorf("%d flags: %+v %d", flags, d.Stats(), d.Inside())
		}
	}
}

func TestFlagsAlone(t *testing.T) {
	for n := 1; n < 600; n++ {
		if d, told := fed(bytes.Repeat([]byte{flag}, n)); told != nil || d.Stats() != (api.Stats{}) || d.Inside() != 0 {
			t.Errorf("%d: %+v %d", n, d.Stats(), d.Inside())
		}
	}
}

func TestWhatIsToldStandsInTheBytes(t *testing.T) {
	r := rand.New(rand.NewSource(9))
	for range 1000 {
		p := noise(r)
		d, told := fed(p)
		from := 0
		for _, c := range told {
			frame, e := Encode(c)
			at := bytes.Index(p[from:], frame)
			if e != api.OK || at < 0 {
				t.Fatalf("% x: told % x %v", p, c, e)
			}
			from += at + len(frame) - 1
		}
		if len(told) != d.Stats().Good {
			t.Errorf("%d told, %+v", len(told), d.Stats())
		}
	}
}

// What is handed in is neither changed nor kept, and what is answered is new memory.

func TestHandedInStaysAsItIs(t *testing.T) {
	for _, c := range contents() {
		room := append(bytes.Clone(c), 0x11, flag, stuff.Escape, 0x22)
		was := bytes.Clone(room)
		frame, _ := Encode(room[:len(c)])
		for i := range frame {
			frame[i] ^= 0xff
		}
		if _ = append(frame, 1, 2, 3); !bytes.Equal(room, was) {
			t.Errorf("% x: % x", was, room)
		}
	}
}

func TestFedBytesAreNotKept(t *testing.T) {
	content := []byte{1, flag, 2, 3, stuff.Escape}
	frame, _ := Encode(content)
	for at := range len(frame) {
		room := lists(frame, frame)
		d := New()
		d.Feed(room[:at])
		if !bytes.Equal(room, lists(frame, frame)) {
			t.Fatalf("at %d: changed: % x", at, room)
		}
		for i := range room {
			room[i] = flag
		}
		if told := d.Feed(frame[at:]); !sameLists(told, [][]byte{content}) {
			t.Errorf("at %d: told % x", at, told)
		}
	}
}

func TestToldContentsShareNothing(t *testing.T) {
	frame, _ := Encode([]byte{1, 2, 3})
	line := lists(frame, frame, frame)
	d := New()
	told := d.Feed(line)
	later := d.Feed(line)
	for i, c := range told {
		for j := range c {
			c[j] = byte(0x40 + i)
		}
		_ = append(c, flag, flag, flag, flag, flag)
	}
	if !sameLists(told, [][]byte{{0x40, 0x40, 0x40}, {0x41, 0x41, 0x41}, {0x42, 0x42, 0x42}}) {
		t.Errorf("one of the other's: % x", told)
	}
	if !sameLists(later, [][]byte{{1, 2, 3}, {1, 2, 3}, {1, 2, 3}}) || !bytes.Equal(line, lists(frame, frame, frame)) {
		t.Errorf("later ones: % x; handed in: % x", later, line)
	}
	if again := d.Feed(line); !sameLists(again, later) {
		t.Errorf("again: % x", again)
	}
}
