package record

import (
	"bytes"
	"encoding/binary"
	"hash/crc32"
	"math/rand"
	"slices"
	"testing"
)

// rows answers payloads whose records make a row.
func rows() [][][]byte {
	out := [][][]byte{
		nil,
		{{0}},
		{[]byte("a")},
		{[]byte("a"), []byte("b")},
		{[]byte("a"), []byte("a"), []byte("a")},
		{[]byte("one"), make([]byte, 8), []byte("the third one"), {0, 0, 0, 1}},
		{whole([]byte("inner")), []byte("b"), rowOf([]byte("x"), []byte("y"))}, // records that are payloads
		{some(255, 1), some(256, 2), some(257, 3)},
		{bytes.Repeat([]byte{255}, 40), make([]byte, 40)},
	}
	var many [][]byte
	for n := range 60 {
		many = append(many, some(n+1, int64(n)))
	}
	return append(out, many)
}

// noRecords answers bytes that begin with no record.
func noRecords() [][]byte {
	whole := whole([]byte("abc"))
	turned := bytes.Clone(whole)
	turned[9] ^= 1
	return [][]byte{
		nil, {0}, {0, 0, 0, 1}, make([]byte, 7), make([]byte, 8), make([]byte, 30), bytes.Repeat([]byte{255}, 30), []byte("any bytes at all"),
		whole[:1], whole[:4], whole[:8], whole[:9], whole[:10], whole[1:], turned, laid(0, nil), laid(4, []byte("abc")),
	}
}

// P11.2: Scan

func TestTheChaptersExample(t *testing.T) {
	a, _ := Put([]byte("a"))
	got, n := Scan(join(a, a[:8]))
	if !sameLists(got, [][]byte{[]byte("a")}) || n != 9 {
		t.Errorf("%s, %d", got, n)
	}
}

func TestRows(t *testing.T) {
	for _, payloads := range rows() {
		row := rowOf(payloads...)
		checkRow(t, row, payloads...)
		for _, behind := range noRecords() {
			checkRow(t, join(row, behind), payloads...)
		}
	}
}

func TestARecordBehindBytesThatAreNone(t *testing.T) {
	for _, payloads := range rows() {
		for _, between := range noRecords()[1:] {
			checkRow(t, join(rowOf(payloads...), between, whole([]byte("x")), whole([]byte("y"))), payloads...)
			checkRow(t, join(between, rowOf(payloads...)))
		}
	}
}

func TestRowsOfLongRecords(t *testing.T) {
	long := [][]byte{some(most, 1), some(most-1, 2), {7}, some(most, 3)}
	row := rowOf(long...)
	checkRow(t, row, long...)
	checkRow(t, row[:len(row)-1], long[:3]...)
	checkRow(t, join(rowOf(long...), whole(some(most+1, 4)), whole([]byte("x"))), long...)
}

func TestARowOfManyRecords(t *testing.T) {
	var payloads [][]byte
	for n := range 20000 {
		payloads = append(payloads, binary.BigEndian.AppendUint16(nil, uint16(n)))
	}
	checkRow(t, rowOf(payloads...), payloads...)
}

func TestNoRecordIsNilsLike(t *testing.T) {
	for _, row := range noRecords() {
		if p, n := First(row); p != nil || n != 0 {
			t.Errorf("First(%s): %s, %d", short(row), short(p), n)
		}
		if l, n := Scan(row); len(l) != 0 || n != 0 {
			t.Errorf("Scan(%s): %d, %d", short(row), len(l), n)
		}
		for at, p := range Each(row) {
			t.Errorf("Each(%s): %d %s", short(row), at, short(p))
		}
	}
}

// P11.2: Each

func TestEachIsNeverNil(t *testing.T) {
	for _, row := range append(noRecords(), []byte{}, whole([]byte("a"))) {
		if Each(row) == nil {
			t.Errorf("Each(%s) is nil", short(row))
		}
	}
}

func TestEachTellsPlaces(t *testing.T) {
	row := rowOf([]byte("a"), []byte("bcd"), some(256, 1), []byte("e"))
	var places []int
	for at, p := range Each(row) {
		places = append(places, at)
		if got, n := First(row[at:]); !bytes.Equal(got, p) || n != 8+len(p) {
			t.Errorf("at %d: %s", at, short(p))
		}
	}
	if !slices.Equal(places, []int{0, 9, 20, 284}) {
		t.Errorf("%d", places)
	}
}

func TestEachIsLeftAndGoneOverAgain(t *testing.T) {
	payloads := [][]byte{[]byte("a"), []byte("bc"), []byte("def"), []byte("g")}
	all := Each(join(rowOf(payloads...), []byte("none")))
	for left := range 6 {
		var got []told
		// called by hand, since a range tells of no call behind its end but by a panic
		all(func(at int, p []byte) bool {
			got = append(got, told{at, p})
			return len(got) <= left
		})
		if want := placed(0, payloads...)[:min(left+1, 4)]; !sameTold(got, want) {
			t.Errorf("left behind %d: %v", left, got)
		}
	}
	for range 2 {
		n := 0
		for at, p := range all {
			if want := placed(0, payloads...)[n]; at != want.at || !bytes.Equal(p, want.payload) {
				t.Errorf("record %d: %d %s", n, at, p)
			}
			n++
		}
		if n != 4 {
			t.Errorf("%d records", n)
		}
	}
	n := 0
	for range all {
		for range all {
			n++
		}
	}
	if n != 16 {
		t.Errorf("one within the other: %d", n)
	}
}

func TestEachIsAsAtTheCall(t *testing.T) {
	payloads := [][]byte{[]byte("a"), []byte("bc"), []byte("def")}
	row := rowOf(payloads...)
	before := Each(row)
	cut := Each(row[:len(row)-1])
	scribble(row)
	for range 2 {
		var got []told
		for at, p := range before {
			got = append(got, told{at, p})
		}
		if !sameTold(got, placed(0, payloads...)) {
			t.Errorf("%v", got)
		}
	}
	scribble(row)
	got := 0
	for range cut {
		got++
	}
	if got != 2 {
		t.Errorf("cut: %d records", got)
	}
	none := Each(row[:4])
	copy(row[4:], row)
	for at := range none {
		t.Errorf("a record at %d", at)
	}
}

func TestEachWhileTheRowIsChanged(t *testing.T) {
	payloads := [][]byte{[]byte("a"), []byte("bc"), []byte("def"), []byte("g")}
	row := rowOf(payloads...)
	var got []told
	for at, p := range Each(row) {
		got = append(got, told{at, bytes.Clone(p)})
		scribble(row)
		scribble(p)
	}
	if !sameTold(got, placed(0, payloads...)) {
		t.Errorf("%v", got)
	}
}

// What is handed in is neither changed nor kept; what is answered is new memory, and no two lists of it share any.

func TestScanSharesNothing(t *testing.T) {
	for _, payloads := range rows() {
		for _, behind := range noRecords() {
			row := join(rowOf(payloads...), behind)
			room := join(row, whole([]byte("room")))
			was := bytes.Clone(room)
			got, _ := Scan(room[:len(row)])
			again, _ := Scan(room[:len(row)])
			checkSame(t, room, was)
			for _, p := range again {
				scribble(p)
			}
			checkSame(t, room, was)
			checkLists(t, got, payloads)
			scribble(room)
			checkLists(t, got, payloads)
			checkApart(t, got)
		}
	}
}

func TestEachSharesNothing(t *testing.T) {
	payloads := [][]byte{[]byte("a"), []byte("bc"), some(40, 1), []byte("g")}
	row := rowOf(payloads...)
	room := join(row, whole([]byte("room")))
	was := bytes.Clone(room)
	all := Each(room[:len(row)])
	var before [][]byte
	for range 3 {
		var got [][]byte
		for _, p := range all {
			got = append(got, p)
		}
		checkLists(t, got, payloads)
		checkApart(t, append(before, got...))
		for _, p := range got {
			scribble(p)
		}
		checkSame(t, room, was)
		before = append(before, got...)
	}
}

func checkLists(t *testing.T, got, want [][]byte) {
	t.Helper()
	if !sameLists(got, want) {
		t.Fatalf("%d lists; not %d, or others", len(got), len(want))
	}
}

// checkApart scribbles over one list after another, and asks each time that the others are as they were.
func checkApart(t *testing.T, lists [][]byte) {
	t.Helper()
	for i, p := range lists {
		others := slices.Delete(slices.Clone(lists), i, i+1)
		var were [][]byte
		for _, other := range others {
			were = append(were, bytes.Clone(other))
		}
		scribble(p)
		checkLists(t, others, were)
		scribble(p)
		_ = append(p, 1, 2, 3)
		checkLists(t, others, were)
	}
}

// P11.3

func TestRowsOneBehindTheOther(t *testing.T) {
	for _, first := range rows() {
		for _, second := range rows() {
			both := slices.Concat(first, second)
			for _, behind := range noRecords() {
				a, b := rowOf(first...), join(rowOf(second...), behind)
				row := join(a, b)
				checkRow(t, row, both...)
				apartA, sizeA := Scan(a)
				apartB, sizeB := Scan(b)
				got, size := Scan(row)
				if sizeA != len(a) || size != sizeA+sizeB || !sameLists(got, slices.Concat(apartA, apartB)) {
					t.Fatalf("%d and %d records", len(first), len(second))
				}
			}
		}
	}
}

// P11.4

func TestARowCutAtEachPlace(t *testing.T) {
	for _, payloads := range rows() {
		row := rowOf(payloads...)
		n := 0
		for at := range len(row) + 1 {
			if n < len(payloads) && at == len(rowOf(payloads[:n+1]...)) {
				n++
			}
			checkRow(t, row[:at], payloads[:n]...)
			checkRow(t, bytes.Clone(row[:at]), payloads[:n]...)
		}
		if n != len(payloads) {
			t.Fatalf("%d of %d records", n, len(payloads))
		}
	}
}

func TestALongRecordCut(t *testing.T) {
	payloads := [][]byte{[]byte("a"), some(most, 1)}
	row := rowOf(payloads...)
	for _, left := range []int{1, 2, 255, 256, 257, 65535, 65536, 65537, 65540, 65543, 65544} {
		checkRow(t, row[:len(row)-left], payloads[0])
	}
}

// P11.5

// checkTurned asks what P11.5 says of a row in which a byte of the record number n was turned.
func checkTurned(t *testing.T, turned []byte, n int, payloads [][]byte) {
	t.Helper()
	got, size := Scan(turned)
	if len(got) < n || !sameLists(got[:n], payloads[:n]) {
		t.Fatalf("record %d was turned: those ahead are %d, or others", n, len(got))
	}
	ahead := len(rowOf(payloads[:n]...))
	if len(got) == n && size != ahead {
		t.Fatalf("record %d was turned: %d bytes", n, size)
	}
	if len(got) > n && len(got[n]) == len(payloads[n]) {
		t.Fatalf("record %d was turned, and has its length", n)
	}
	if want := modelled(turned); !sameLists(got, want) {
		t.Fatalf("record %d was turned: %d records; not %d", n, len(got), len(want))
	}
}

func TestARowInWhichAByteWasTurned(t *testing.T) {
	for _, payloads := range [][][]byte{
		{[]byte("a")},
		{[]byte("a"), []byte("bcd")},
		{[]byte("first"), make([]byte, 12), whole([]byte("inner")), []byte("z")},
		{{0, 0, 0, 1}, {255}, bytes.Repeat([]byte{255}, 9)},
	} {
		row := rowOf(payloads...)
		for n, record := range placed(0, payloads...) {
			for at := record.at; at < record.at+head+len(record.payload); at++ {
				for turn := 1; turn < 256; turn++ {
					turned := bytes.Clone(row)
					turned[at] ^= byte(turn)
					checkTurned(t, turned, n, payloads)
				}
			}
		}
	}
}

func TestALongRecordInWhichAByteWasTurned(t *testing.T) {
	payloads := [][]byte{[]byte("a"), some(5000, 1), []byte("b")}
	row := rowOf(payloads...)
	begin := len(rowOf(payloads[0]))
	for at := begin; at < begin+head+5000; at += 1 + at/60 {
		for bit := range 8 {
			turned := bytes.Clone(row)
			turned[at] ^= 1 << bit
			checkTurned(t, turned, 1, payloads)
			if at >= begin+4 { // the length stays, so nothing stands there
				checkRow(t, turned, payloads[0])
			}
		}
	}
}

// summedAs answers p with four bytes behind it that give the record of both, with that length, this sum.
func summedAs(length uint32, p []byte, sum uint32) []byte {
	register := ^crc32.ChecksumIEEE(join(binary.BigEndian.AppendUint32(nil, length), p))
	want := ^sum
	for range 4 { // back, by the table's row whose highest byte is the register's
		i := slices.IndexFunc(crc32.IEEETable[:], func(x uint32) bool { return x>>24 == want>>24 })
		want = (want^crc32.IEEETable[i])<<8 | uint32(i)
	}
	return binary.LittleEndian.AppendUint32(bytes.Clone(p), want^register)
}

// One of another length may stand in the place of a record whose length was turned, if the sum is right of it, too.
func TestARecordOfAnotherLength(t *testing.T) {
	for _, c := range []struct{ long, short int }{{5, 1}, {12, 8}, {255, 1}, {300, 44}, {65535, 255}} {
		short := some(c.short, 2)
		sum := binary.BigEndian.Uint32(whole(short)[4:8])
		long := summedAs(uint32(c.long), join(short, some(c.long-c.short-4, 3)), sum)
		row := whole(long)
		behind := []byte("behind")
		checkRow(t, join(row, behind), long)
		binary.BigEndian.PutUint32(row, uint32(c.short))
		if got, n := Scan(row); len(got) == 0 || !bytes.Equal(got[0], short) || n < 8+c.short {
			t.Errorf("%d bytes for %d: %d records, %d bytes", c.short, c.long, len(got), n)
		}
		binary.BigEndian.PutUint32(row, uint32(c.long)) // the other way round: the short one's length was turned
		checkRow(t, join(row, behind), long)
	}
}

// All together

func TestAnyRows(t *testing.T) {
	r := rand.New(rand.NewSource(11))
	for range 3000 {
		var row []byte
		for range r.Intn(6) {
			p := make([]byte, 1+r.Intn(20)*r.Intn(20))
			r.Read(p)
			switch r.Intn(12) {
			case 0:
				row = append(row, p...)
			case 1:
				row = append(row, laid(uint32(r.Intn(3)), p)...)
			default:
				row = append(row, whole(p)...)
			}
		}
		if len(row) > 0 && r.Intn(3) == 0 {
			row[r.Intn(len(row))] ^= byte(r.Intn(256))
		}
		row = row[:len(row)-r.Intn(1+min(len(row), 12))]
		checkRow(t, row, modelled(row)...)
	}
}

func TestAnyShortRows(t *testing.T) {
	r := rand.New(rand.NewSource(12))
	for range 20000 {
		row := make([]byte, r.Intn(14))
		for i := range row {
			row[i] = byte(r.Intn(2) * r.Intn(3))
		}
		checkRow(t, row, modelled(row)...)
	}
}
