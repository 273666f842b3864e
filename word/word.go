// Package word: numbers as bytes.
package word

import "escritoire/api"

// Put is a number as bytes: its low ones. ErrArg: it may not have so many bytes, or such an order.
func Put(n uint64, width, order int) (_ string, _ error) {
	if !whole(width) || !known(order) {
		return "", api.ErrArg
	}
	b := make([]byte, width)
	for i := range width {
		b[place(i, width, order)] = byte(n >> (8 * i))
	}
	return string(b), nil
}

// Get is the number that begins at a byte. ErrArg; ErrRange: there aren't so many bytes.
func Get(s string, at, width, order int) (_ uint64, _ error) {
	if !whole(width) || !known(order) {
		return 0, api.ErrArg
	}
	// width is taken off the length: at + width might wrap round.
	if at < 0 || at > len(s)-width {
		return 0, api.ErrRange
	}
	var n uint64
	for i := range width {
		n |= uint64(s[at+place(i, width, order)]) << (8 * i)
	}
	return n, nil
}

// Signed is a number of so many bytes, whose greatest bit is its sign.
func Signed(n uint64, width int) (_ int) {
	if !some(width) {
		return 0
	}
	above := 64 - 8*width
	// A shift of a signed number to the right spreads its sign.
	return int(int64(n<<above) >> above)
}

// Unsigned is a number of so many bytes, without a sign.
func Unsigned(n uint64, width int) (_ uint64) {
	if !some(width) {
		return 0
	}
	above := 64 - 8*width
	return n << above >> above
}

// Fits says whether a number is one of so many bytes, with a sign, or without (numbers of 8 bytes: from 0 on).
func Fits(n, width int, signed bool) (_ bool) {
	// Signed and Unsigned answer 0 of any other width, which would fit 0.
	if !some(width) {
		return false
	}
	if signed {
		return Signed(uint64(n), width) == n
	}
	return n >= 0 && Unsigned(uint64(n), width) == uint64(n)
}

// Swap is a number of so many bytes, in the other order.
func Swap(n uint64, width int) (_ uint64, _ error) {
	s, err := Put(n, width, api.Little)
	if err != nil {
		return 0, err
	}
	return Get(s, 0, width, api.Big)
}

// whole: may a number be put, and got, as so many bytes?
func whole(width int) bool {
	return width == 1 || width == 2 || width == 4 || width == 8
}

// some: may a number be told by so many bytes?
func some(width int) bool {
	return width >= 1 && width <= 8
}

// known: is it an order of bytes?
func known(order int) bool {
	return order == api.Little || order == api.Big
}

// place is where, of width bytes, the one of weight i (the least: 0) stands.
func place(i, width, order int) int {
	if order == api.Big {
		return width - 1 - i
	}
	return i
}
