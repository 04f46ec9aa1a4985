package control

import (
	"bytes"
	"math"
	"math/rand"
	"reflect"
	"slices"
	"testing"

	"portage/api"
	"portage/hdlc"
)

func fill(n int) []byte {
	return bytes.Repeat([]byte{'a'}, n)
}

func allKinds() []int {
	return []int{api.CI, api.CRR, api.CRNR, api.CSREJ, api.CSABME, api.CUA, api.CDM}
}

// kept answers c with the fields alone that its kind has.
func kept(c api.Ctl) api.Ctl {
	out := api.Ctl{Kind: c.Kind, P: c.P, Me: c.Me}
	if c.Kind == api.CI {
		out.NS, out.Data = c.NS, c.Data
	}
	if c.Kind <= api.CSREJ {
		out.NR = c.NR
	}
	if c.Kind != api.CSABME {
		out.Peer = c.Peer
	}
	return out
}

// rightOnes answers right controls, each one once: of each kind, with all its fields at their edges, and some at random.
func rightOnes() []api.Ctl {
	r := rand.New(rand.NewSource(5))
	numbers := []int{0, 1, 2, 63, 64, 126, 127}
	incarnations := []int{0, 1, 255, 256, 258, api.MaxNumber - 1, api.MaxNumber}
	var all []api.Ctl
	for _, p := range []bool{false, true} {
		for _, n := range numbers {
			for _, m := range numbers {
				all = append(all, api.Ctl{NS: n, NR: m, P: p, Me: 3, Peer: 4, Data: fill(1)})
			}
		}
		for _, n := range incarnations {
			for _, m := range incarnations {
				all = append(all, api.Ctl{NS: 5, NR: 6, P: p, Me: n, Peer: m, Data: fill(1)})
			}
		}
		for n := 1; n <= 121; n++ {
			all = append(all, api.Ctl{NS: 127, NR: 127, P: p, Me: api.MaxNumber, Peer: api.MaxNumber, Data: bytes.Repeat([]byte{byte(n)}, n)})
		}
	}
	for range 100 {
		data := make([]byte, 1+r.Intn(121))
		r.Read(data)
		all = append(all, api.Ctl{NS: r.Intn(128), NR: r.Intn(128), P: r.Intn(2) == 0, Me: r.Intn(1 << 16), Peer: r.Intn(1 << 16), Data: data})
	}
	var out []api.Ctl
	for _, kind := range allKinds() {
		met := map[string]bool{}
		for _, c := range all {
			c.Kind = kind
			c = kept(c)
			if met[string(reckoned(c))] {
				continue
			}
			met[string(reckoned(c))] = true
			out = append(out, c)
		}
	}
	return out
}

// reckoned answers the bytes of a right control, by the chapter's table.
func reckoned(c api.Ctl) []byte {
	p := 0
	if c.P {
		p = 1
	}
	out := []byte{3}
	add := func(n int) { out = append(out, byte(n)) }
	switch c.Kind {
	case api.CI:
		add(2 * c.NS)
		add(2*c.NR + p)
	case api.CRR:
		add(1)
		add(2*c.NR + p)
	case api.CRNR:
		add(5)
		add(2*c.NR + p)
	case api.CSREJ:
		add(13)
		add(2*c.NR + p)
	case api.CSABME:
		add(111 + 16*p)
	case api.CUA:
		add(99 + 16*p)
	case api.CDM:
		add(15 + 16*p)
	}
	add(c.Me / 256)
	add(c.Me % 256)
	add(c.Peer / 256)
	add(c.Peer % 256)
	return append(out, c.Data...)
}

func same(a, b api.Ctl) bool {
	if len(a.Data) == 0 {
		a.Data = nil
	}
	if len(b.Data) == 0 {
		b.Data = nil
	}
	return reflect.DeepEqual(a, b)
}

func isZero(c api.Ctl) bool {
	return same(c, api.Ctl{})
}

// P5.1

func TestCheckOfRightOnes(t *testing.T) {
	for _, c := range rightOnes() {
		if e := Check(c); e != api.OK {
			t.Errorf("%+v: %d", c, e)
		}
		if len(c.Data) == 0 {
			c.Data = []byte{}
			if e := Check(c); e != api.OK {
				t.Errorf("%+v, with an empty list: %d", c, e)
			}
		}
	}
}

func TestCheckOfZeroFields(t *testing.T) {
	for _, kind := range allKinds() {
		want := api.OK
		if kind == api.CI {
			want = api.ErrForm
		}
		if e := Check(api.Ctl{Kind: kind}); e != want {
			t.Errorf("kind %d: %d", kind, e)
		}
		if e := Check(api.Ctl{Kind: kind, P: true}); e != want {
			t.Errorf("kind %d with P: %d", kind, e)
		}
	}
}

func TestCheckOfNoKind(t *testing.T) {
	for _, kind := range []int{math.MinInt, -1, 0, 8, 9, 255, 256, 257, 1<<32 + 1, math.MaxInt} {
		for _, c := range []api.Ctl{
			{Kind: kind},
			{Kind: kind, NS: 1, NR: 2, P: true, Me: 3, Peer: 4, Data: fill(1)},
			{Kind: kind, Data: fill(122)},
		} {
			if e := Check(c); e != api.ErrRange {
				t.Errorf("%+v: %d", c, e)
			}
		}
	}
}

func TestCheckOfNumbersOutOfRange(t *testing.T) {
	numbers := []int{math.MinInt, -128, -1, 128, 129, 255, 256, 1 << 16, 1 << 32, math.MaxInt}
	incarnations := []int{math.MinInt, -1 << 16, -1, 1 << 16, 1<<16 + 1, 1 << 32, math.MaxInt}
	// whatever else is wrong: of a kind that has not that field, and with data that are none of its
	for _, kind := range allKinds() {
		for _, data := range [][]byte{nil, fill(1), fill(121), fill(122)} {
			for _, n := range numbers {
				for _, c := range []api.Ctl{{NS: n}, {NR: n}, {NS: n, NR: n}, {NS: n, NR: 1, Peer: 1}} {
					c.Kind, c.Data = kind, data
					if e := Check(c); e != api.ErrRange {
						t.Errorf("%+v: %d", c, e)
					}
				}
			}
			for _, n := range incarnations {
				for _, c := range []api.Ctl{{Me: n}, {Peer: n}, {Me: n, Peer: n}, {Peer: n, NS: 1, NR: 1}} {
					c.Kind, c.Data = kind, data
					if e := Check(c); e != api.ErrRange {
						t.Errorf("%+v: %d", c, e)
					}
				}
			}
		}
	}
}

func TestCheckOfFieldsThatAKindHasNot(t *testing.T) {
	fields := []struct {
		name string
		set  func(*api.Ctl)
		has  []int
	}{
		{"NS 1", func(c *api.Ctl) { c.NS = 1 }, []int{api.CI}},
		{"NS 127", func(c *api.Ctl) { c.NS = 127 }, []int{api.CI}},
		{"NR 1", func(c *api.Ctl) { c.NR = 1 }, []int{api.CI, api.CRR, api.CRNR, api.CSREJ}},
		{"NR 127", func(c *api.Ctl) { c.NR = 127 }, []int{api.CI, api.CRR, api.CRNR, api.CSREJ}},
		{"Peer 1", func(c *api.Ctl) { c.Peer = 1 }, []int{api.CI, api.CRR, api.CRNR, api.CSREJ, api.CUA, api.CDM}},
		{"Peer MaxNumber", func(c *api.Ctl) { c.Peer = api.MaxNumber }, []int{api.CI, api.CRR, api.CRNR, api.CSREJ, api.CUA, api.CDM}},
		{"Data", func(c *api.Ctl) { c.Data = []byte{0} }, []int{api.CI}},
		{"more Data", func(c *api.Ctl) { c.Data = fill(121) }, []int{api.CI}},
		{"P", func(c *api.Ctl) { c.P = true }, allKinds()},
		{"Me", func(c *api.Ctl) { c.Me = api.MaxNumber }, allKinds()},
	}
	for _, kind := range allKinds() {
		for _, f := range fields {
			for _, others := range []bool{false, true} {
				c := api.Ctl{Kind: kind, NS: 5, NR: 6, P: true, Me: 7, Peer: 8, Data: fill(3)}
				if !others {
					c = api.Ctl{Kind: kind, Data: fill(3)}
				}
				c = kept(c)
				f.set(&c)
				want := api.ErrForm
				if slices.Contains(f.has, kind) {
					want = api.OK
				}
				if e := Check(c); e != want {
					t.Errorf("kind %d, %s: %d, not %d", kind, f.name, e, want)
				}
			}
		}
	}
}

func TestCheckOfDataByLength(t *testing.T) {
	for _, c := range []struct {
		length int
		ofCI   api.Errno
		ofRest api.Errno
	}{
		{0, api.ErrForm, api.OK},
		{1, api.OK, api.ErrForm},
		{120, api.OK, api.ErrForm},
		{121, api.OK, api.ErrForm},
		{122, api.ErrLong, api.ErrForm}, // ErrForm is named ahead of ErrLong
		{128, api.ErrLong, api.ErrForm},
		{1000, api.ErrLong, api.ErrForm},
		{1 << 17, api.ErrLong, api.ErrForm},
	} {
		for _, kind := range allKinds() {
			want := c.ofRest
			if kind == api.CI {
				want = c.ofCI
			}
			if e := Check(api.Ctl{Kind: kind, Me: 1, Data: fill(c.length)}); e != want {
				t.Errorf("kind %d, %d bytes: %d, not %d", kind, c.length, e, want)
			}
		}
	}
}

func TestSame(t *testing.T) {
	base := api.Ctl{Kind: api.CI, NS: 1, NR: 2, P: true, Me: 3, Peer: 4, Data: []byte("ab")}
	for name, change := range map[string]func(*api.Ctl){
		"Kind":            func(c *api.Ctl) { c.Kind = api.CRR },
		"NS":              func(c *api.Ctl) { c.NS = 2 },
		"NR":              func(c *api.Ctl) { c.NR = 1 },
		"P":               func(c *api.Ctl) { c.P = false },
		"Me":              func(c *api.Ctl) { c.Me = 4 },
		"Peer":            func(c *api.Ctl) { c.Peer = 3 },
		"no Data":         func(c *api.Ctl) { c.Data = nil },
		"a byte fewer":    func(c *api.Ctl) { c.Data = []byte("a") },
		"a byte more":     func(c *api.Ctl) { c.Data = []byte("abc") },
		"another byte":    func(c *api.Ctl) { c.Data = []byte("ac") },
		"the first byte":  func(c *api.Ctl) { c.Data = []byte("bb") },
		"NS and NR":       func(c *api.Ctl) { c.NS, c.NR = 2, 1 },
		"Me and Peer":     func(c *api.Ctl) { c.Me, c.Peer = 4, 3 },
		"NS by 2^8":       func(c *api.Ctl) { c.NS += 1 << 8 },
		"NR by 2^32":      func(c *api.Ctl) { c.NR += 1 << 32 },
		"Me by 2^16":      func(c *api.Ctl) { c.Me += 1 << 16 },
		"Peer, below 0":   func(c *api.Ctl) { c.Peer = -4 },
		"Kind, none":      func(c *api.Ctl) { c.Kind = 0 },
		"Kind, by 2^8":    func(c *api.Ctl) { c.Kind += 1 << 8 },
		"P and all zeros": func(c *api.Ctl) { *c = api.Ctl{P: true} },
	} {
		other := base
		change(&other)
		if Same(base, other) || Same(other, base) {
			t.Errorf("%s: the same", name)
		}
		again := other
		again.Data = bytes.Clone(other.Data)
		if !Same(other, other) || !Same(other, again) || !Same(again, other) {
			t.Errorf("%s: not the same as itself", name)
		}
	}
	if !Same(api.Ctl{Kind: api.CRR}, api.Ctl{Kind: api.CRR, Data: []byte{}}) || !Same(api.Ctl{Data: []byte{}}, api.Ctl{}) {
		t.Error("a list without elements is nil's like")
	}
}

func TestSameOfOneOutOfMany(t *testing.T) {
	all := rightOnes()
	for i, a := range all {
		for j, b := range all {
			if Same(a, b) != (i == j) {
				t.Fatalf("%+v, %+v: %t", a, b, Same(a, b))
			}
		}
	}
}

func TestWord(t *testing.T) {
	for kind, want := range map[int]string{
		api.CI: "i", api.CRR: "rr", api.CRNR: "rnr", api.CSREJ: "srej", api.CSABME: "sabme", api.CUA: "ua", api.CDM: "dm",
		0: "", 8: "", -1: "", 9: "", 256: "", 257: "", 1<<32 + 1: "", math.MaxInt: "", math.MinInt: "",
	} {
		if got := Word(kind); got != want {
			t.Errorf("%d: %q, not %q", kind, got, want)
		}
	}
}

// P5.2

func TestPut(t *testing.T) {
	for _, x := range []struct {
		c    api.Ctl
		want []byte
	}{
		{api.Ctl{Kind: api.CI, NS: 1, NR: 2, P: true, Me: 3, Peer: 4, Data: []byte("a")}, []byte{3, 2, 5, 0, 3, 0, 4, 'a'}},
		{api.Ctl{Kind: api.CSABME, Me: 1}, []byte{3, 0x6f, 0, 1, 0, 0}},
		{api.Ctl{Kind: api.CI, Data: []byte{0}}, []byte{3, 0, 0, 0, 0, 0, 0, 0}},
		{api.Ctl{Kind: api.CI, NS: 127, NR: 127, P: true, Me: 65535, Peer: 65534, Data: []byte("ab")}, []byte{3, 254, 255, 255, 255, 255, 254, 'a', 'b'}},
		{api.Ctl{Kind: api.CRR, NR: 127, Me: 258, Peer: 772}, []byte{3, 1, 254, 1, 2, 3, 4}},
		{api.Ctl{Kind: api.CRR, P: true}, []byte{3, 1, 1, 0, 0, 0, 0}},
		{api.Ctl{Kind: api.CRNR, NR: 64, Me: 258, Peer: 772}, []byte{3, 5, 128, 1, 2, 3, 4}},
		{api.Ctl{Kind: api.CRNR, NR: 64, P: true}, []byte{3, 5, 129, 0, 0, 0, 0}},
		{api.Ctl{Kind: api.CSREJ, NR: 1, Me: 258, Peer: 772}, []byte{3, 13, 2, 1, 2, 3, 4}},
		{api.Ctl{Kind: api.CSREJ, NR: 1, P: true}, []byte{3, 13, 3, 0, 0, 0, 0}},
		{api.Ctl{Kind: api.CSABME, P: true, Me: 65535}, []byte{3, 127, 255, 255, 0, 0}},
		{api.Ctl{Kind: api.CUA, Me: 1, Peer: 7}, []byte{3, 99, 0, 1, 0, 7}},
		{api.Ctl{Kind: api.CUA, P: true, Me: 1, Peer: 7}, []byte{3, 115, 0, 1, 0, 7}},
		{api.Ctl{Kind: api.CDM, Me: 1, Peer: 65535}, []byte{3, 15, 0, 1, 255, 255}},
		{api.Ctl{Kind: api.CDM, P: true, Me: 1, Peer: 65535}, []byte{3, 31, 0, 1, 255, 255}},
	} {
		if p, e := Put(x.c); e != api.OK || !bytes.Equal(p, x.want) {
			t.Errorf("Put(%+v): % x %d, not % x", x.c, p, e, x.want)
		}
		if c, e := Get(x.want); e != api.OK || !same(c, x.c) {
			t.Errorf("Get(% x): %+v %d, not %+v", x.want, c, e, x.c)
		}
	}
}

func TestPutOfRightOnes(t *testing.T) {
	for _, c := range rightOnes() {
		if p, e := Put(c); e != api.OK || !bytes.Equal(p, reckoned(c)) {
			t.Errorf("%+v: % x %d", c, p, e)
		}
	}
}

func TestPutRefusesAsCheckDoes(t *testing.T) {
	met := map[api.Errno]int{}
	numbers := []int{math.MinInt, -1, 0, 1, 127, 128, 255, 65535, 65536, math.MaxInt}
	for kind := -1; kind <= 9; kind++ {
		for _, n := range numbers {
			for _, length := range []int{0, 1, 121, 122, 1 << 16} {
				for _, c := range []api.Ctl{{}, {NS: n}, {NR: n}, {Me: n}, {Peer: n}, {Me: n, Peer: n, P: true}, {NS: n, NR: n}} {
					c.Kind, c.Data = kind, fill(length)
					want := Check(c)
					met[want]++
					p, e := Put(c)
					if e != want || e != api.OK && p != nil || e == api.OK && !bytes.Equal(p, reckoned(c)) {
						t.Errorf("kind %d, %d, %d bytes: % x %d, not %d", kind, n, length, p, e, want)
					}
				}
			}
		}
	}
	for _, e := range []api.Errno{api.OK, api.ErrRange, api.ErrForm, api.ErrLong} {
		if met[e] == 0 {
			t.Errorf("%d was not met", e)
		}
	}
}

func refuses(t *testing.T, p []byte) {
	t.Helper()
	if c, e := Get(p); e != api.ErrForm || !isZero(c) {
		t.Errorf("% x: %+v %d", p, c, e)
	}
}

func TestGetOfBytesThatAreNoControls(t *testing.T) {
	for _, p := range [][]byte{
		nil,
		{},
		{3},
		{3, 0},
		{3, 111},
		{3, 111, 0, 0, 0},
		{2, 111, 0, 0, 0, 0},
		{0, 111, 0, 0, 0, 0},
		{255, 1, 2, 0, 0, 0, 0},
		{1, 2, 5, 0, 3, 0, 4, 'a'},
		{3, 111, 0, 1, 0, 1},     // CSABME has no Peer
		{3, 111, 0, 1, 1, 0},     //
		{3, 127, 0, 1, 255, 255}, // nor with P
		{3, 2, 5, 0, 3, 0, 4},    // CI has Data
		{3, 0, 0, 0, 0, 0},       // and all else
		{3, 17, 0, 0, 0, 0, 0},   // P of the supervision does not stand in the second byte
		{3, 21, 0, 0, 0, 0, 0},   //
		{3, 29, 0, 0, 0, 0, 0},   //
		{3, 9, 0, 0, 0, 0, 0},    // REJ of other books is none here
		{3, 1, 0, 0, 0, 0},       // an RR of six bytes
		{3, 1, 0, 0, 0, 0, 0, 0}, // and of eight
		{3, 99, 0, 0, 0, 0, 0},   // an UA of seven
		{3, 3, 0, 0, 0, 0},       // UI of other books
		{3, 67, 0, 0, 0, 0},      // DISC of other books
		{3, 47, 0, 0, 0, 0},      // SABM of other books
		append([]byte{3, 0, 0, 0, 0, 0, 0}, fill(122)...),
		append([]byte{3, 0, 0, 0, 0, 0, 0}, fill(1000)...),
		append([]byte{3, 111, 0, 0, 0, 0}, fill(1000)...),
		append([]byte{3, 1, 0, 0, 0, 0, 0}, fill(1<<17)...),
	} {
		refuses(t, p)
	}
}

func TestGetOfTooFewAndTooMany(t *testing.T) {
	for _, c := range rightOnes() {
		p := reckoned(c)
		if c.Kind != api.CI {
			for n := range p {
				refuses(t, p[:n])
			}
			for n := 1; n < 4; n++ {
				refuses(t, append(bytes.Clone(p), make([]byte, n)...))
				refuses(t, append(bytes.Clone(p), fill(n)...))
			}
			refuses(t, append(bytes.Clone(p), p...))
			continue
		}
		for n := range 8 {
			refuses(t, p[:n])
		}
		if len(c.Data) == 121 {
			refuses(t, append(bytes.Clone(p), 0))
		}
		if len(c.Data) > 1 {
			c.Data = c.Data[:len(c.Data)-1]
			if got, e := Get(p[:len(p)-1]); e != api.OK || !same(got, c) {
				t.Errorf("% x: %+v %d", p, got, e)
			}
		}
	}
}

// meant answers the control of which p are the bytes, found by going over all that can stand in the first bytes; whether there is one.
func meant(p []byte) (api.Ctl, bool) {
	for _, kind := range allKinds() {
		for _, poll := range []bool{false, true} {
			c := api.Ctl{Kind: kind, P: poll}
			at := 2
			if kind <= api.CSREJ {
				at = 3
			}
			if len(p) < at+4 {
				continue
			}
			if kind <= api.CSREJ {
				c.NR = int(p[2]) / 2
			}
			if kind == api.CI {
				c.NS = int(p[1]) / 2
			}
			c.Me = 256*int(p[at]) + int(p[at+1])
			c.Peer = 256*int(p[at+2]) + int(p[at+3])
			if kind == api.CI && len(p) > 7 && len(p) <= 128 {
				c.Data = p[7:]
			}
			right := (kind != api.CI || len(c.Data) > 0) && (kind != api.CSABME || c.Peer == 0)
			if right && bytes.Equal(reckoned(c), p) {
				return c, true
			}
		}
	}
	return api.Ctl{}, false
}

func checkMeant(t *testing.T, p []byte) bool {
	t.Helper()
	want, ok := meant(p)
	e := api.OK
	if !ok {
		e = api.ErrForm
	}
	if got, f := Get(p); f != e || !same(got, want) {
		t.Errorf("% x: %+v %d, not %+v %d", p, got, f, want, e)
	}
	return ok
}

func TestGetOfAllFirstBytes(t *testing.T) {
	met := 0
	for length := range 10 {
		for first := range 256 {
			for second := range 256 {
				p := append([]byte{byte(first), byte(second)}, 9, 0, 7, 0, 0, 5, 6, 7)[:length]
				if checkMeant(t, p) {
					met++
				}
			}
		}
	}
	// 128 second bytes of CI, once with one byte of Data and once with two; three of the supervision; six of others, two of which have no Peer
	if want := 2*128 + 3 + 4; met != want {
		t.Errorf("%d right ones, not %d", met, want)
	}
}

func TestGetOfAllSecondAndThirdBytes(t *testing.T) {
	for second := range 256 {
		for third := range 256 {
			for length := 6; length <= 8; length++ {
				checkMeant(t, []byte{3, byte(second), byte(third), 1, 0, 0, 0, 'x'}[:length])
			}
		}
	}
}

func TestGetOfAnyBytes(t *testing.T) {
	r := rand.New(rand.NewSource(6))
	for range 20000 {
		p := make([]byte, r.Intn(12))
		r.Read(p)
		if len(p) > 0 && r.Intn(4) > 0 {
			p[0] = 3
		}
		checkMeant(t, p)
	}
	right := rightOnes()
	for range 20000 {
		p := reckoned(right[r.Intn(len(right))])
		p[r.Intn(len(p))] ^= 1 << r.Intn(8)
		checkMeant(t, p)
	}
}

// P5.3

func TestGetOfPut(t *testing.T) {
	for _, c := range rightOnes() {
		p, e := Put(c)
		if e != api.OK {
			t.Fatalf("%+v: %d", c, e)
		}
		got, e := Get(p)
		if e != api.OK || !same(got, c) || !Same(got, c) {
			t.Errorf("%+v: %+v %d", c, got, e)
		}
		if got.Data != nil && len(got.Data) == 0 {
			t.Errorf("%+v: Data is an empty list", c)
		}
		if again, e := Put(got); e != api.OK || !bytes.Equal(again, p) {
			t.Errorf("% x: % x %d", p, again, e)
		}
	}
}

func TestPutOfGet(t *testing.T) {
	r := rand.New(rand.NewSource(7))
	met := 0
	for range 50000 {
		p := make([]byte, 6+r.Intn(4))
		r.Read(p)
		p[0] = 3
		c, e := Get(p)
		if e != api.OK {
			continue
		}
		met++
		if again, e := Put(c); e != api.OK || !bytes.Equal(again, p) {
			t.Errorf("% x: % x %d", p, again, e)
		}
	}
	if met == 0 {
		t.Error("none was met")
	}
}

func TestSameBytesJustIfTheSame(t *testing.T) {
	all := rightOnes()
	var put [][]byte
	for _, c := range all {
		p, _ := Put(c)
		put = append(put, p)
	}
	for i := range all {
		for j := range all {
			if bytes.Equal(put[i], put[j]) != Same(all[i], all[j]) {
				t.Fatalf("%+v, %+v: % x, % x", all[i], all[j], put[i], put[j])
			}
		}
	}
}

// P5.4

func TestEachOneFitsAFrame(t *testing.T) {
	longest := 0
	for _, c := range rightOnes() {
		p, _ := Put(c)
		longest = max(longest, len(p))
		if len(p) == 0 || len(p) > api.MaxFrame {
			t.Errorf("%+v: %d bytes", c, len(p))
		}
		frame, e := hdlc.Encode(p)
		if told := hdlc.New().Feed(frame); e != api.OK || len(told) != 1 || !bytes.Equal(told[0], p) {
			t.Errorf("%+v: % x %d, told % x", c, frame, e, told)
		}
	}
	if longest != api.MaxFrame {
		t.Errorf("the longest one has %d bytes", longest)
	}
}

func TestLowestBitsTellTheClasses(t *testing.T) {
	for _, c := range rightOnes() {
		p, e := Put(c)
		if e != api.OK || len(p) < 2 {
			t.Fatalf("%+v: % x %d", c, p, e)
		}
		switch c.Kind {
		case api.CI:
			if p[1]&1 != 0 {
				t.Errorf("%+v: % x", c, p)
			}
		case api.CRR, api.CRNR, api.CSREJ:
			if p[1]&3 != 1 {
				t.Errorf("%+v: % x", c, p)
			}
		default:
			if p[1]&3 != 3 {
				t.Errorf("%+v: % x", c, p)
			}
		}
	}
}

// What is handed in is neither changed nor kept, and what is answered is new memory.

func TestPutSharesNothing(t *testing.T) {
	for _, length := range []int{1, 2, 120, 121} {
		room := append(fill(length), 1, 2, 3, 4, 5, 6, 7, 8, 9)
		was := bytes.Clone(room)
		c := api.Ctl{Kind: api.CI, Me: 1, Peer: 2, Data: room[:length]}
		one, _ := Put(c)
		two, _ := Put(c)
		want := reckoned(c)
		for i := range one {
			one[i] ^= 0xff
		}
		_ = append(one, 1, 2, 3)
		if !bytes.Equal(room, was) || !bytes.Equal(two, want) {
			t.Errorf("%d bytes: % x; % x", length, room, two)
		}
		clear(room)
		if !bytes.Equal(two, want) {
			t.Errorf("%d bytes, kept: % x", length, two)
		}
	}
}

func TestGetSharesNothing(t *testing.T) {
	for _, length := range []int{1, 2, 120, 121} {
		room := append([]byte{3, 0, 0, 0, 1, 0, 2}, fill(length)...)
		end := len(room)
		room = append(room, 9, 9, 9, 9)
		was := bytes.Clone(room)
		one, _ := Get(room[:end])
		two, _ := Get(room[:end])
		for i := range one.Data {
			one.Data[i] = 'z'
		}
		_ = append(one.Data, 'z', 'z', 'z')
		if !bytes.Equal(room, was) || !bytes.Equal(two.Data, fill(length)) {
			t.Errorf("%d bytes: % x; % x", length, room, two.Data)
		}
		clear(room)
		if !bytes.Equal(two.Data, fill(length)) {
			t.Errorf("%d bytes, kept: % x", length, two.Data)
		}
	}
}

func TestGetReadsNoRoomBehindTheEnd(t *testing.T) {
	room := []byte{3, 2, 5, 0, 3, 0, 4, 'a', 'b'}
	for n := range 8 {
		refuses(t, room[:n])
	}
	room = []byte{3, 1, 5, 0, 3, 0, 4, 'a', 'b'}
	for n := range room {
		if c, e := Get(room[:n]); (e == api.OK) != (n == 7) || n != 7 && !isZero(c) {
			t.Errorf("%d bytes: %+v %d", n, c, e)
		}
	}
}
