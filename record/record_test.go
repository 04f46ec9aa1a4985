package record

import (
	"bytes"
	"encoding/binary"
	"math"
	"testing"

	"portage/api"
)

// P11.1: Put

// The sums here were told by another program.
func TestPutByHand(t *testing.T) {
	checkPut(t, []byte("a"), []byte{0, 0, 0, 1, 0xe5, 0x8c, 0x97, 0x92, 0x61})
	checkPut(t, []byte{0}, []byte{0, 0, 0, 1, 0xdf, 0x39, 0xc6, 0x5c, 0})
	checkPut(t, make([]byte, 256), join([]byte{0, 0, 1, 0, 0x9e, 0xa5, 0xf1, 0x07}, make([]byte, 256)))
	checkPut(t, bytes.Repeat([]byte{255}, most), join([]byte{0, 1, 0, 0, 0x12, 0x09, 0xef, 0x1e}, bytes.Repeat([]byte{255}, most)))
	checkPut(t, []byte("123456789"), []byte{0, 0, 0, 9, 0xde, 0x9c, 0x40, 0xc0, '1', '2', '3', '4', '5', '6', '7', '8', '9'})
}

func TestPut(t *testing.T) {
	for _, n := range []int{1, 2, 3, 4, 7, 8, 9, 127, 128, 254, 255, 256, 257, 511, 512, 32767, 32768, most - 256, most - 1, most} {
		for seed := range int64(3) {
			p := some(n, seed)
			checkPut(t, p, whole(p))
		}
		checkPut(t, make([]byte, n), whole(make([]byte, n)))
	}
	for b := range 256 {
		checkPut(t, []byte{byte(b)}, whole([]byte{byte(b)}))
	}
}

func TestTheLengthOfAPayload(t *testing.T) {
	for _, c := range []struct {
		n    int
		want []byte
	}{
		{1, []byte{0, 0, 0, 1}}, {255, []byte{0, 0, 0, 255}}, {256, []byte{0, 0, 1, 0}}, {258, []byte{0, 0, 1, 2}}, {most - 1, []byte{0, 0, 255, 255}}, {most, []byte{0, 1, 0, 0}},
	} {
		got, e := Put(make([]byte, c.n))
		if e != api.OK || len(got) != 8+c.n || !bytes.Equal(got[:4], c.want) {
			t.Errorf("%d bytes: %s, %d", c.n, short(got), e)
		}
	}
}

func TestPutRefuses(t *testing.T) {
	for _, p := range [][]byte{nil, {}, some(9, 1)[:0]} {
		if got, e := Put(p); got != nil || e != api.ErrForm {
			t.Errorf("no byte: %s, %d", short(got), e)
		}
	}
	for _, n := range []int{most + 1, most + 2, most + 255, most + 256, 2 * most, 2*most + 1, 1 << 20, 1<<24 + 1} {
		if got, e := Put(make([]byte, n)); got != nil || e != api.ErrLong {
			t.Errorf("%d bytes: %s, %d", n, short(got), e)
		}
	}
}

// P11.1: First

// checkNone asks that no record stands at the beginning of a row, whatever stands behind it.
func checkNone(t *testing.T, row []byte) {
	t.Helper()
	checkRow(t, row)
	checkRow(t, row[:len(row):len(row)])
}

func TestFirstOfTooFewBytes(t *testing.T) {
	checkNone(t, nil)
	checkNone(t, []byte{})
	for n := range 9 {
		checkNone(t, make([]byte, n))
		checkNone(t, bytes.Repeat([]byte{255}, n))
		checkNone(t, whole([]byte("a"))[:n])
		checkNone(t, whole([]byte("abc"))[:n])
	}
}

func TestFirstOfAWholeRecord(t *testing.T) {
	for _, n := range []int{1, 2, 8, 9, 255, 256, 257, most - 1, most} {
		p := some(n, 5)
		row := whole(p)
		checkRow(t, row, p)
		checkNone(t, row[:len(row)-1])
		for _, behind := range [][]byte{{0}, {255}, []byte("abcdefg"), make([]byte, 8), make([]byte, 100), some(most+9, 6)} {
			checkRow(t, join(row, behind), p)
		}
		checkRow(t, join(row, row), p, p)
	}
}

// The bytes in the room behind the end of a row are none of the row's.
func TestFirstReadsNoFurtherThanTheRow(t *testing.T) {
	row := whole([]byte("abc"))
	for n := range row {
		checkRow(t, row[:n])
	}
}

func TestFirstOfAnyLength(t *testing.T) {
	lengths := []uint32{0, most, most + 1, most + 2, most + 255, most + 256, 2 * most, 2*most + 1, 1 << 20, 1 << 24, 1<<24 + 1,
		math.MaxInt32 - 9, math.MaxInt32 - 8, math.MaxInt32 - 7, math.MaxInt32 - 1, math.MaxInt32, 1 << 31, 1<<31 + 1, 1<<31 + 5, math.MaxUint32 - 9, math.MaxUint32 - 8, math.MaxUint32 - 7, math.MaxUint32 - 3, math.MaxUint32 - 1, math.MaxUint32}
	for _, length := range lengths {
		for _, n := range []int{0, 1, 2, 5, 8, 255, 256, most - 1} {
			p := some(n, 7)
			checkNone(t, laid(length, p)) // the sum is right of what is there
			checkNone(t, join(laid(length, p), whole([]byte("x"))))
		}
		checkNone(t, binary.BigEndian.AppendUint32(nil, length))
		checkNone(t, join(binary.BigEndian.AppendUint32(nil, length), make([]byte, 3)))
		checkNone(t, join(binary.BigEndian.AppendUint32(nil, length), make([]byte, 300)))
	}
}

// Records that would be right but for their length, which no record has; all their bytes are there.
func TestFirstOfALengthThatNoRecordHas(t *testing.T) {
	checkNone(t, laid(0, nil))
	checkNone(t, join(laid(0, nil), whole([]byte("a"))))
	checkNone(t, bytes.Repeat(laid(0, nil), 3))
	for _, n := range []int{most + 1, most + 2, most + 256, 2 * most, 2*most + 1, 1 << 20, 1<<24 + 1} {
		row := whole(some(n, 8))
		checkNone(t, row)
		checkNone(t, join(row, whole([]byte("a"))))
	}
}

// A length of which just the lower bytes are the payload's.
func TestFirstTakesAllBytesOfALength(t *testing.T) {
	for _, n := range []int{1, 2, 255, 256, 300} {
		p := some(n, 9)
		for bit := range 32 {
			if length := uint32(n) ^ 1<<bit; length > uint32(n) {
				checkNone(t, laid(length, p))
			}
		}
	}
}

func TestFirstOfAnotherSum(t *testing.T) {
	for _, n := range []int{1, 4, 255, 256, 2000} {
		p := some(n, 10)
		for bit := range 32 {
			row := whole(p)
			row[4+bit/8] ^= 1 << (bit % 8)
			checkNone(t, row)
			checkNone(t, join(row, whole([]byte("x"))))
		}
		for _, sum := range [][]byte{{0, 0, 0, 0}, {255, 255, 255, 255}} {
			checkNone(t, join(whole(p)[:4], sum, p))
		}
	}
}

// Sums that are of something else than the length and the payload, or stand the other way round.
func TestFirstOfASumOfSomethingElse(t *testing.T) {
	for _, n := range []int{1, 2, 255, 256} {
		p := some(n, 11)
		right := whole(p)
		length, sum := right[:4], right[4:8]
		ofPayload := laid(0, p)[4:8]
		alone := binary.BigEndian.AppendUint32(nil, binary.LittleEndian.Uint32(sum))
		turned := []byte{^sum[0], ^sum[1], ^sum[2], ^sum[3]}
		for _, other := range [][]byte{ofPayload, alone, turned, whole(length)[4:8], laid(uint32(n), nil)[4:8], laid(uint32(n), join(p, length))[4:8], laid(uint32(n), join(make([]byte, 4), p))[4:8]} {
			if !bytes.Equal(other, sum) {
				checkNone(t, join(length, other, p))
			}
		}
		reversed := []byte{length[3], length[2], length[1], length[0]}
		checkNone(t, join(reversed, whole(p)[4:]))
	}
}

func TestPutThenFirst(t *testing.T) {
	for n := 1; n < 600; n++ {
		p := some(n, int64(n))
		row, e := Put(p)
		if e != api.OK {
			t.Fatal(e)
		}
		checkRow(t, row, p)
	}
}

// What is handed in is neither changed nor kept; what is answered is new memory.

func TestPutSharesNothing(t *testing.T) {
	for _, n := range []int{1, 2, 255, 256, most} {
		room := some(n+20, 12)
		was := bytes.Clone(room)
		got, _ := Put(room[:n])
		again, _ := Put(room[:n])
		checkSame(t, room, was)
		scribble(again)
		checkSame(t, room, was)
		checkSame(t, got, whole(was[:n]))
		scribble(room)
		checkSame(t, got, whole(was[:n]))
	}
}

func TestPutRefusedChangesNothing(t *testing.T) {
	for _, n := range []int{0, most + 1} {
		room := some(n+20, 13)
		was := bytes.Clone(room)
		Put(room[:n])
		if !bytes.Equal(room, was) {
			t.Errorf("%d bytes: changed", n)
		}
	}
}

func TestFirstSharesNothing(t *testing.T) {
	for _, p := range [][]byte{{1}, []byte("abc"), some(300, 14)} {
		for _, behind := range [][]byte{nil, whole([]byte("behind")), []byte("none")} {
			row := join(whole(p), behind)
			room := join(row, []byte("room"))
			was := bytes.Clone(room)
			got, _ := First(room[:len(row)])
			again, _ := First(room[:len(row)])
			checkSame(t, room, was)
			scribble(again)
			checkSame(t, room, was)
			checkSame(t, got, p)
			scribble(room)
			checkSame(t, got, p)
		}
	}
}
