// Package bits is layer 1: numbers in bytes, the highest byte first, and fields of bits.
package bits

import (
	"portage/api"
)

const (
	numberBytes = 8
	numberBits  = 64
)

// Put answers b's bytes and, behind them, size bytes of n.
func Put(b []byte, n uint64, size int) ([]byte, api.Errno) {
	if !sizeInBytes(size) {
		return nil, api.ErrRange
	}
	out := make([]byte, len(b)+size)
	copy(out, b)
	at := len(out)
shift:
	for {
		switch {
		case n == 0: // the bytes above are noughts already
			break shift
		case at == len(b):
			return nil, api.ErrLong
		}
		at--
		out[at] = byte(n)
		n >>= 8
	}
	return out, api.OK
}

// Get answers the number of the size bytes of p from at on.
func Get(p []byte, at, size int) (uint64, api.Errno) {
	if !sizeInBytes(size) || at < 0 {
		return 0, api.ErrRange
	}
	if len(p)-at < size { // at+size could go round
		return 0, api.ErrForm
	}
	var n uint64
	for _, b := range p[at : at+size] {
		n = n<<8 | uint64(b)
	}
	return n, api.OK
}

// Field answers the number of n's bits in a field.
func Field(n uint64, at, size int) (uint64, api.Errno) {
	if !rightField(at, size) {
		return 0, api.ErrRange
	}
	return n >> at & ones(size), api.OK
}

// Set answers n with v in a field.
func Set(n uint64, at, size int, v uint64) (uint64, api.Errno) {
	if !rightField(at, size) {
		return 0, api.ErrRange
	}
	if v > ones(size) {
		return 0, api.ErrLong
	}
	return n&^(ones(size)<<at) | v<<at, api.OK
}

// Mirror answers the number whose size bits are n's, the other way round.
func Mirror(n uint64, size int) (uint64, api.Errno) {
	if !sizeInBits(size) {
		return 0, api.ErrRange
	}
	if n > ones(size) {
		return 0, api.ErrLong
	}
	var out uint64
	for i := range size {
		out = out<<1 | n>>i&1
	}
	return out, api.OK
}

// Count answers how many bits of n are 1.
func Count(n uint64) int {
	count := 0
	for i := range numberBits {
		count += int(n >> i & 1)
	}
	return count
}

func sizeInBytes(size int) bool {
	return size >= 1 && size <= numberBytes
}

func sizeInBits(size int) bool {
	return size >= 1 && size <= numberBits
}

func rightField(at, size int) bool {
	return sizeInBits(size) && at >= 0 && at <= numberBits-size // at+size could go round
}

// ones answers the number whose lowest size bits (1 to 64) are 1, the others 0.
func ones(size int) uint64 {
	return ^uint64(0) >> (numberBits - size)
}
