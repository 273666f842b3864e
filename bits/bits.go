// Package bits: some of a text's bits.
package bits

import "escritoire/api"

// Get is the number that n bits are, from bit at on: Big: the first one is the greatest, and each byte's greatest comes first; Little: the first one is the least, and each byte's least comes first. ErrArg: the order is none; ErrRange: there aren't so many, or they are more than 64.
func Get(s string, at, n, order int) (_ uint64, _ error) {
	if err := wrong(s, at, n, order); err != nil {
		return 0, err
	}
	var v uint64
	for i := range n {
		k := at + i
		bit := s[k/8] >> inByte(k, order) & 1
		v |= uint64(bit) << inNumber(i, n, order)
	}
	return v, nil
}

// Put is a text whose n bits from bit at on are a number's low ones. Get's errors.
func Put(s string, at, n, order int, v uint64) (_ string, _ error) {
	if err := wrong(s, at, n, order); err != nil {
		return "", err
	}
	b := []byte(s)
	for i := range n {
		k := at + i
		bit := byte(v >> inNumber(i, n, order) & 1)
		left := inByte(k, order)
		b[k/8] = b[k/8]&^(1<<left) | bit<<left
	}
	return string(b), nil
}

// Count is how many bits are 1.
func Count(s string) (_ int) {
	ones := 0
	for i := range len(s) {
		for k := range 8 {
			ones += int(s[i] >> k & 1)
		}
	}
	return ones
}

// Turn is a text whose bytes have their bits the other way round.
func Turn(s string) (_ string) {
	b := make([]byte, len(s))
	for i := range len(s) {
		b[i] = turned(s[i])
	}
	return string(b)
}

// Rotate is a text whose bits (each byte's greatest first) are n farther to the left, round about.
func Rotate(s string, n int) (_ string) {
	size := len(s)
	if size == 0 {
		return ""
	}
	// What is left over has n's sign: it is brought to 0 or above, whatever n is.
	n = (n%(8*size) + 8*size) % (8 * size)
	whole, part := n/8, n%8
	b := make([]byte, size)
	for i := range size {
		first, second := s[(i+whole)%size], s[(i+whole+1)%size]
		b[i] = first<<part | second>>(8-part)
	}
	return string(b)
}

// wrong is what is wrong with n bits of s from bit at on, in that order: nil, if nothing is.
func wrong(s string, at, n, order int) error {
	if order != api.Little && order != api.Big {
		return api.ErrArg
	}
	// n is taken off the length: at + n might wrap round.
	if n < 0 || n > 64 || at < 0 || at > 8*len(s)-n {
		return api.ErrRange
	}
	return nil
}

// inByte is how far to the left bit k of a text stands in its byte.
func inByte(k, order int) int {
	if order == api.Big {
		return 7 - k%8
	}
	return k % 8
}

// inNumber is how far to the left the bit that comes as number i of n stands in the number that they are.
func inNumber(i, n, order int) int {
	if order == api.Big {
		return n - 1 - i
	}
	return i
}

// turned is a byte whose bits stand the other way round.
func turned(c byte) byte {
	var t byte
	for k := range 8 {
		t = t<<1 | c>>k&1
	}
	return t
}
