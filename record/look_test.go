package record

import (
	"bytes"
	"encoding/binary"
	"hash/crc32"
	"math/rand"
	"slices"
	"testing"

	"portage/api"
)

const (
	most = 65536 // MaxRecord
	head = 8     // of the length and the sum
)

// laid answers bytes as a record's are: this length, the sum of the length and the payload, the payload.
func laid(length uint32, payload []byte) []byte {
	out := binary.BigEndian.AppendUint32(nil, length)
	sum := crc32.ChecksumIEEE(append(bytes.Clone(out), payload...))
	return append(binary.BigEndian.AppendUint32(out, sum), payload...)
}

// whole answers the bytes of the record of a payload.
func whole(payload []byte) []byte {
	return laid(uint32(len(payload)), payload)
}

// rowOf answers the records of these payloads, one behind the other.
func rowOf(payloads ...[]byte) []byte {
	var out []byte
	for _, p := range payloads {
		out = append(out, whole(p)...)
	}
	return out
}

// some answers so many bytes, others for each seed.
func some(n int, seed int64) []byte {
	p := make([]byte, n)
	rand.New(rand.NewSource(seed)).Read(p)
	return p
}

// join answers all lists in one, in new memory.
func join(lists ...[]byte) []byte {
	return slices.Concat(lists...)
}

// told is a record as a row has it.
type told struct {
	at      int
	payload []byte
}

// placed answers the records of these payloads, as a row has them from the place at on.
func placed(at int, payloads ...[]byte) []told {
	var out []told
	for _, p := range payloads {
		out = append(out, told{at, p})
		at += head + len(p)
	}
	return out
}

func gather(row []byte) []told {
	var out []told
	for at, p := range Each(row) {
		out = append(out, told{at, p})
	}
	return out
}

func sameTold(a, b []told) bool {
	return slices.EqualFunc(a, b, func(x, y told) bool { return x.at == y.at && bytes.Equal(x.payload, y.payload) })
}

func sameLists(a, b [][]byte) bool {
	return slices.EqualFunc(a, b, bytes.Equal)
}

// checkRow asks First, Scan and Each whether a row has the records of just these payloads.
func checkRow(t *testing.T, row []byte, payloads ...[]byte) {
	t.Helper()
	var first []byte
	firstSize := 0
	if len(payloads) > 0 {
		first, firstSize = payloads[0], head+len(payloads[0])
	}
	if p, n := First(row); !bytes.Equal(p, first) || n != firstSize || n == 0 && p != nil {
		t.Fatalf("First(%s): %s, %d; not %s, %d", short(row), short(p), n, short(first), firstSize)
	}
	size := 0
	for _, p := range payloads {
		size += head + len(p)
	}
	if got, n := Scan(row); !sameLists(got, payloads) || n != size {
		t.Fatalf("Scan(%s): %d payloads, %d bytes; not %d, %d", short(row), len(got), n, len(payloads), size)
	}
	if got := gather(row); !sameTold(got, placed(0, payloads...)) {
		t.Fatalf("Each(%s): %d records; not %d", short(row), len(got), len(payloads))
	}
}

func checkPut(t *testing.T, payload, want []byte) {
	t.Helper()
	if got, e := Put(payload); e != api.OK || !bytes.Equal(got, want) {
		t.Fatalf("Put(%s): %s, %d; not %s", short(payload), short(got), e, short(want))
	}
}

// modelled answers the payloads of a row's records by the words of the chapter, the row gone through from its beginning on.
func modelled(row []byte) [][]byte {
	var out [][]byte
	r := bytes.NewReader(row)
	for {
		var length, sum uint32
		if binary.Read(r, binary.BigEndian, &length) != nil || binary.Read(r, binary.BigEndian, &sum) != nil {
			return out
		}
		if length < 1 || length > most {
			return out
		}
		p := make([]byte, length)
		if n, _ := r.Read(p); n < int(length) || !bytes.Equal(whole(p)[4:8], binary.BigEndian.AppendUint32(nil, sum)) {
			return out
		}
		out = append(out, p)
	}
}

func checkSame(t *testing.T, got, want []byte) {
	t.Helper()
	if !bytes.Equal(got, want) {
		t.Fatalf("%s; not %s", short(got), short(want))
	}
}

// scribble turns the bytes of p, and those in the room behind it.
func scribble(p []byte) {
	p = p[:cap(p)]
	for i := range p {
		p[i] ^= 0xff
	}
}

// short answers a text of bytes for a reader.
func short(p []byte) string {
	const signs = "0123456789abcdef"
	var out []byte
	for i, b := range p {
		if i == 40 {
			return string(out) + ".."
		}
		out = append(out, signs[b>>4], signs[b&15])
	}
	return string(out)
}
