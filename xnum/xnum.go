// Package xnum is numbers of six places. See ../../shared/doc/02-xnum.md.
package xnum

import (
	"cmp"

	"stencil/api"
)

// Add, Sub, Mul, Div, Mod and Neg reckon.
func Add(a, b api.Num) api.Num {
	switch {
	case isNaN(a) || isNaN(b):
		return notANumber()
	case isInfinite(a) && isInfinite(b) && a.Kind != b.Kind:
		return notANumber()
	case isInfinite(a):
		return infinite(isBelow(a))
	case isInfinite(b):
		return infinite(isBelow(b))
	}
	// Two right numbers come to at most 2 * MaxNum, which an int64 holds.
	sum := a.V + b.V
	return signed(sum < 0, sizeOf(sum))
}

func Sub(a, b api.Num) api.Num { return Add(a, Neg(b)) }

func Mul(a, b api.Num) api.Num {
	below := isBelow(a) != isBelow(b)
	switch {
	case isNaN(a) || isNaN(b):
		return notANumber()
	case isInfinite(a) && isZero(b), isZero(a) && isInfinite(b):
		return notANumber()
	case isInfinite(a) || isInfinite(b):
		return infinite(below)
	}
	parts := quotient(product(sizeOf(a.V), sizeOf(b.V)), api.Places)
	return signed(below, parts[0])
}

func Div(a, b api.Num) api.Num {
	below := isBelow(a) != isBelow(b)
	switch {
	case isNaN(a) || isNaN(b):
		return notANumber()
	case isInfinite(a) && isInfinite(b), isZero(a) && isZero(b):
		return notANumber()
	case isInfinite(a) || isZero(b):
		return infinite(below)
	case isInfinite(b):
		return api.Num{}
	}
	parts := quotient(product(sizeOf(a.V), api.Places), sizeOf(b.V))
	return signed(below, parts[0])
}

func Mod(a, b api.Num) api.Num {
	switch {
	case isNaN(a) || isNaN(b) || isInfinite(a) || isZero(b):
		return notANumber()
	case isInfinite(b):
		return a
	}
	parts := quotient([2]uint64{0, sizeOf(a.V)}, sizeOf(b.V))
	return signed(isBelow(a), parts[1])
}

func Neg(a api.Num) api.Num {
	switch {
	case isNaN(a):
		return notANumber()
	case isInfinite(a):
		return infinite(!isBelow(a))
	}
	return api.Num{V: -a.V}
}

// Floor, Ceiling, Round are whole numbers; Int is a whole number.
func Floor(a api.Num) api.Num {
	if a.Kind != api.Fin {
		return a
	}
	rest := a.V % api.Places
	if rest < 0 {
		rest += api.Places
	}
	return api.Num{V: a.V - rest}
}

func Ceiling(a api.Num) api.Num {
	if a.Kind != api.Fin {
		return a
	}
	return Neg(Floor(Neg(a)))
}

func Round(a api.Num) api.Num {
	if a.Kind != api.Fin {
		return a
	}
	return Floor(api.Num{V: a.V + api.Places/2})
}

func Int(n int) api.Num {
	const most = api.MaxNum / api.Places
	whole := int64(n)
	if whole < -most || whole > most {
		return infinite(whole < 0)
	}
	return api.Num{V: whole * api.Places}
}

// Compare is below 0, 0, above 0; false: they can't be compared. Less orders all of them.
func Compare(a, b api.Num) (int, bool) {
	if isNaN(a) || isNaN(b) {
		return 0, false
	}
	if isInfinite(a) || isInfinite(b) {
		return cmp.Compare(rankOf(a), rankOf(b)), true
	}
	return cmp.Compare(a.V, b.V), true
}

func Less(a, b api.Num) bool {
	if isNaN(a) || isNaN(b) {
		return isNaN(a) && !isNaN(b)
	}
	order, _ := Compare(a, b)
	return order < 0
}

// Right tells whether a number is right.
func Right(a api.Num) bool {
	switch a.Kind {
	case api.Fin:
		return -api.MaxNum <= a.V && a.V <= api.MaxNum
	case api.NaN, api.PlusInf, api.MinusInf:
		return a.V == 0
	}
	return false
}

func isNaN(a api.Num) bool { return a.Kind == api.NaN }

func isInfinite(a api.Num) bool { return a.Kind == api.PlusInf || a.Kind == api.MinusInf }

func isZero(a api.Num) bool { return a.Kind == api.Fin && a.V == 0 }

func isBelow(a api.Num) bool {
	return a.Kind == api.MinusInf || a.Kind == api.Fin && a.V < 0
}

func rankOf(a api.Num) int {
	switch a.Kind {
	case api.PlusInf:
		return 1
	case api.MinusInf:
		return -1
	}
	return 0
}

func notANumber() api.Num { return api.Num{Kind: api.NaN} }

func infinite(below bool) api.Num {
	if below {
		return api.Num{Kind: api.MinusInf}
	}
	return api.Num{Kind: api.PlusInf}
}

// signed is the number of a sign and a size in millionths, infinite if it is too great.
func signed(below bool, size uint64) api.Num {
	if size > api.MaxNum {
		return infinite(below)
	}
	if below {
		return api.Num{V: -int64(size)}
	}
	return api.Num{V: int64(size)}
}

// sizeOf is unsigned, so that the least int64 has a size too.
func sizeOf(v int64) uint64 {
	if v < 0 {
		return -uint64(v)
	}
	return uint64(v)
}
