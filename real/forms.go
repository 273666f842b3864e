package real

import "escritoire/api"

// form is how many bits the reals of one width have, and of these the exponent and the fraction.
type form struct{ width, exp, frac int }

var forms = [2]form{{32, 8, 23}, {64, 11, 52}}

// formOf is the form of the reals of so many bits. ErrArg: there is none.
func formOf(width int) (form, error) {
	for _, f := range forms {
		if f.width == width {
			return f, nil
		}
	}
	return form{}, api.ErrArg
}

// lastExp is the greatest exponent: all of its bits are 1.
func (f form) lastExp() int {
	return 1<<f.exp - 1
}

// lastFrac is the greatest fraction.
func (f form) lastFrac() uint64 {
	return 1<<f.frac - 1
}

// middle is the exponent of 1.
func (f form) middle() int {
	return f.lastExp() / 2
}

// apart is the three that bits are.
func (f form) apart(b uint64) api.Real {
	return api.Real{
		Neg:  b>>(f.width-1)&1 == 1,
		Exp:  int(b>>f.frac) & f.lastExp(),
		Frac: b & f.lastFrac(),
	}
}

// join is the bits of three that have not too many.
func (f form) join(r api.Real) uint64 {
	b := uint64(r.Exp)<<f.frac | r.Frac
	if r.Neg {
		b |= 1 << (f.width - 1)
	}
	return b
}

// class is which kind of a real the three are.
func (f form) class(r api.Real) int {
	switch {
	case r.Exp == f.lastExp() && r.Frac != 0:
		return api.NaN
	case r.Exp == f.lastExp():
		return api.Infinite
	case r.Exp != 0:
		return api.Normal
	case r.Frac != 0:
		return api.Tiny
	}
	return api.Zero
}

// key is where bits stand in the order of the reals that they are.
func (f form) key(b uint64) int {
	r := f.apart(b)
	neg := r.Neg
	r.Neg = false
	n := int(f.join(r))
	if neg {
		return -1 - n
	}
	return n
}

// atKey is the bits that stand there.
func (f form) atKey(k int) uint64 {
	if k < 0 {
		return f.join(api.Real{Neg: true}) | uint64(-1-k)
	}
	return uint64(k)
}

// beside is the bits of the real whose key is by (1 or -1) farther.
func beside(b uint64, width, by int) (uint64, error) {
	f, err := formOf(width)
	if err != nil {
		return 0, err
	}
	r := f.apart(b)
	kind := f.class(r)
	if kind == api.NaN || kind == api.Infinite && r.Neg == (by < 0) {
		return 0, api.ErrRange
	}
	return f.atKey(f.key(b) + by), nil
}

// raised is what is tiny as a form with more exponents has it: its first 1 is told by the exponent (which may fall below 0) and left out of the fraction.
func (f form) raised(r api.Real) api.Real {
	r.Exp = 1
	for r.Frac <= f.lastFrac() {
		r.Frac <<= 1
		r.Exp--
	}
	r.Frac &= f.lastFrac()
	return r
}

// narrowed is the bits, but the sign, of the short real that is nearest to a finite long one. What is too great is beyond the infinite one.
func narrowed(r api.Real) uint64 {
	short, long := forms[0], forms[1]
	n := r.Frac
	if r.Exp != 0 {
		n |= long.lastFrac() + 1
	}
	exp := max(r.Exp, 1) - long.middle() + short.middle()
	lost := long.frac - short.frac
	if exp < 1 {
		// What is tiny has the exponent of the least normal one, and loses a bit more for each one below it.
		return nearest(n, lost+1-exp)
	}
	// The 1 ahead of the fraction, and what rounding carries over, count on in the exponent.
	return uint64(exp-1)<<short.frac + nearest(n, lost)
}

// nearest is n (below 2^53) without its low bits, so many of them (at least 1): the nearest number, of two the even one.
func nearest(n uint64, lost int) uint64 {
	// Beyond 63 bits nothing is left, as with 63.
	lost = min(lost, 63)
	half := uint64(1) << (lost - 1)
	kept, rest := n>>lost, n&(2*half-1)
	if rest > half || rest == half && kept%2 == 1 {
		kept++
	}
	return kept
}
