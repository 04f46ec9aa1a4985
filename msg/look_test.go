package msg

import (
	"bytes"
	"fmt"
	"math"
	"math/big"
	"math/rand"
	"regexp"
	"slices"
	"testing"

	"portage/api"
)

const (
	nodes  = 64    // MaxNodes
	most   = 65535 // MaxNumber
	paying = 48    // MaxPayload
	naming = 6     // bytes of an id
)

func fill(n int) []byte {
	return bytes.Repeat([]byte{'a'}, n)
}

// some answers so many bytes, others for each seed.
func some(n int, seed int64) []byte {
	p := make([]byte, n)
	rand.New(rand.NewSource(seed)).Read(p)
	return p
}

// wantedOf answers what the chapter asks Check for.
func wantedOf(i api.Id) api.Errno {
	for _, x := range []struct{ n, least, most int }{
		{i.Origin, 0, nodes - 1},
		{i.Dest, 0, nodes - 1},
		{i.Epoch, 1, most},
		{i.Counter, 1, most},
	} {
		if x.n < x.least || x.n > x.most {
			return api.ErrRange
		}
	}
	if i.Origin == i.Dest {
		return api.ErrForm
	}
	return api.OK
}

// wantedOfMsg answers what the chapter asks CheckMsg for.
func wantedOfMsg(m api.Msg) api.Errno {
	if e := wantedOf(m.Id); e != api.OK {
		return e
	}
	if len(m.Data) < 1 {
		return api.ErrForm
	}
	if len(m.Data) > paying {
		return api.ErrLong
	}
	return api.OK
}

// laid answers the lowest bytes of an id's numbers, as an id's bytes have them, be it right or not.
func laid(i api.Id) []byte {
	return []byte{byte(i.Origin), byte(i.Dest), byte(i.Epoch >> 8), byte(i.Epoch), byte(i.Counter >> 8), byte(i.Counter)}
}

// written answers an id's numbers as an id's text has them, be it right or not.
func written(i api.Id) string {
	return fmt.Sprintf("%d>%d:%d.%d", i.Origin, i.Dest, i.Epoch, i.Counter)
}

var oneText = regexp.MustCompile(`\A(0|[1-9][0-9]*)>(0|[1-9][0-9]*):(0|[1-9][0-9]*)\.(0|[1-9][0-9]*)\z`)

// readText answers the id of which s is the text, by the words of the chapter; whether there is one.
func readText(s string) (api.Id, bool) {
	found := oneText.FindStringSubmatch(s)
	if found == nil {
		return api.Id{}, false
	}
	var n [4]int
	for at, digits := range found[1:] {
		number, ok := new(big.Int).SetString(digits, 10)
		if !ok || number.Cmp(big.NewInt(most)) > 0 {
			return api.Id{}, false
		}
		n[at] = int(number.Int64())
	}
	i := api.Id{Origin: n[0], Dest: n[1], Epoch: n[2], Counter: n[3]}
	if wantedOf(i) != api.OK {
		return api.Id{}, false
	}
	return i, true
}

// readBytes answers the id of which p are the bytes, by the words of the chapter; whether there is one.
func readBytes(p []byte) (api.Id, bool) {
	if len(p) != naming {
		return api.Id{}, false
	}
	i := api.Id{Origin: int(p[0]), Dest: int(p[1]), Epoch: 256*int(p[2]) + int(p[3]), Counter: 256*int(p[4]) + int(p[5])}
	if wantedOf(i) != api.OK {
		return api.Id{}, false
	}
	return i, true
}

// isAhead answers whether a is ahead of b, by the words of the chapter.
func isAhead(a, b api.Id) bool {
	if a.Origin != b.Origin {
		return a.Origin < b.Origin
	}
	if a.Dest != b.Dest {
		return a.Dest < b.Dest
	}
	if a.Epoch != b.Epoch {
		return a.Epoch < b.Epoch
	}
	return a.Counter < b.Counter
}

// nodeEdges answers numbers of nodes: at the edges of their range and of Go's, and such as a narrower number would take for right ones.
func nodeEdges() []int {
	return []int{math.MinInt, math.MinInt32, -65536, -256, -64, -1, 0, 1, 2, 31, 62, 63, 64, 65, 127, 128, 255, 256, 257, 65536, 1<<32 + 1, math.MaxInt32, math.MaxInt}
}

// numberEdges answers epochs and counters in the same way.
func numberEdges() []int {
	return []int{math.MinInt, math.MinInt32, -65535, -1, 0, 1, 2, 255, 256, 258, 65534, 65535, 65536, 65537, 131071, 1<<32 + 1, math.MaxInt32, math.MaxInt}
}

// allIds answers ids, right ones and others: each number at each of its edges, beside others in their range and out of it.
func allIds() []api.Id {
	var all []api.Id
	for _, n := range nodeEdges() {
		for _, m := range nodeEdges() {
			all = append(all, api.Id{Origin: n, Dest: m, Epoch: 3, Counter: 4}, api.Id{Origin: n, Dest: m, Epoch: 0, Counter: 4})
		}
	}
	for _, n := range numberEdges() {
		for _, m := range numberEdges() {
			for _, i := range []api.Id{{Origin: 1, Dest: 2}, {Origin: 0, Dest: 63}, {Origin: 63, Dest: 0}, {Origin: 5, Dest: 5}, {Origin: 64, Dest: 64}, {Origin: -1, Dest: 2}} {
				i.Epoch, i.Counter = n, m
				all = append(all, i)
			}
		}
	}
	return all
}

// rightIds answers right ids, no two alike: all pairs of some nodes, epochs and counters at their edges, and some at random.
func rightIds() []api.Id {
	numbers := []int{1, 2, 255, 256, 257, 258, 65280, 65534, 65535}
	met := map[api.Id]bool{}
	var all []api.Id
	add := func(i api.Id) {
		if i.Origin != i.Dest && !met[i] {
			met[i] = true
			all = append(all, i)
		}
	}
	for _, n := range []int{0, 1, 2, 9, 10, 31, 62, 63} {
		for _, m := range []int{0, 1, 2, 9, 10, 31, 62, 63} {
			add(api.Id{Origin: n, Dest: m, Epoch: 1, Counter: 1})
			add(api.Id{Origin: n, Dest: m, Epoch: 65535, Counter: 65535})
		}
	}
	for _, n := range numbers {
		for _, m := range numbers {
			add(api.Id{Origin: 1, Dest: 2, Epoch: n, Counter: m})
			add(api.Id{Origin: 63, Dest: 0, Epoch: n, Counter: m})
		}
	}
	r := rand.New(rand.NewSource(13))
	for range 100 {
		add(api.Id{Origin: r.Intn(nodes), Dest: r.Intn(nodes), Epoch: 1 + r.Intn(most), Counter: 1 + r.Intn(most)})
	}
	return all
}

func sameMsg(a, b api.Msg) bool {
	return a.Id == b.Id && slices.Equal(a.Data, b.Data)
}

func isZero(m api.Msg) bool {
	return m.Id == api.Id{} && len(m.Data) == 0
}

// checkPutId asks for what the chapter says of the bytes of an id.
func checkPutId(t *testing.T, i api.Id) {
	t.Helper()
	want := wantedOf(i)
	var bytesOf []byte
	if want == api.OK {
		bytesOf = laid(i)
	}
	if p, e := PutId(i); e != want || !bytes.Equal(p, bytesOf) {
		t.Errorf("PutId(%+v): % x %d, not % x %d", i, p, e, bytesOf, want)
	}
}

// checkPut asks for what the chapter says of the bytes of a message.
func checkPut(t *testing.T, m api.Msg) {
	t.Helper()
	want := wantedOfMsg(m)
	var bytesOf []byte
	if want == api.OK {
		bytesOf = append(laid(m.Id), m.Data...)
	}
	if p, e := Put(m); e != want || !bytes.Equal(p, bytesOf) {
		t.Errorf("Put(%+v): % x %d, not % x %d", m, p, e, bytesOf, want)
	}
}

// checkText asks for what the chapter says of the text of an id.
func checkText(t *testing.T, i api.Id) {
	t.Helper()
	want := wantedOf(i)
	textOf := ""
	if want == api.OK {
		textOf = written(i)
	}
	if s, e := Text(i); e != want || s != textOf {
		t.Errorf("Text(%+v): %q %d, not %q %d", i, s, e, textOf, want)
	}
}

// checkGetId asks for what the chapter says of bytes that may be an id's; it answers whether they are.
func checkGetId(t *testing.T, p []byte) bool {
	t.Helper()
	want, ok := readBytes(p)
	wantE := api.OK
	if !ok {
		wantE = api.ErrForm
	}
	if i, e := GetId(p); e != wantE || i != want {
		t.Errorf("GetId(% x): %+v %d, not %+v %d", p, i, e, want, wantE)
	}
	return ok
}

// checkGet asks for what the chapter says of bytes that may be a message's; it answers whether they are.
func checkGet(t *testing.T, p []byte) bool {
	t.Helper()
	var want api.Msg
	wantE := api.ErrForm
	if len(p) >= naming+1 && len(p) <= naming+paying {
		if i, ok := readBytes(p[:naming]); ok {
			want, wantE = api.Msg{Id: i, Data: p[naming:]}, api.OK
		}
	}
	if m, e := Get(p); e != wantE || !sameMsg(m, want) {
		t.Errorf("Get(% x): %+v %d, not %+v %d", p, m, e, want, wantE)
	}
	return wantE == api.OK
}

// checkParse asks for what the chapter says of a text that may be an id's; it answers whether it is.
func checkParse(t *testing.T, s string) bool {
	t.Helper()
	want, ok := readText(s)
	wantE := api.OK
	if !ok {
		wantE = api.ErrForm
	}
	if i, e := Parse(s); e != wantE || i != want {
		t.Errorf("Parse(%.60q): %+v %d, not %+v %d", s, i, e, want, wantE)
	}
	return ok
}
