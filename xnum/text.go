package xnum

import (
	"strconv"
	"strings"

	"stencil/api"
	"stencil/xchar"
)

// places is how many digits stand behind the point.
const places = 6

// Parse is what a text says; Text a number as a text.
func Parse(s string) api.Num {
	s, below := strings.CutPrefix(strings.TrimFunc(s, xchar.IsBlank), "-")
	whole, rest, _ := strings.Cut(s, ".")
	if whole == "" && rest == "" || !areDigits(whole) || !areDigits(rest) {
		return notANumber()
	}
	rest = rest[:min(len(rest), places)]
	return signed(below, readDigits(whole+padRight(rest, places)))
}

func areDigits(s string) bool {
	for _, r := range s {
		if r < '0' || r > '9' {
			return false
		}
	}
	return true
}

// readDigits stops as soon as the number is too great: there may be any number of digits.
func readDigits(s string) uint64 {
	n := uint64(0)
	for _, r := range s {
		n = n*10 + uint64(r-'0')
		if n > api.MaxNum {
			break
		}
	}
	return n
}

func Text(a api.Num) string {
	switch a.Kind {
	case api.NaN:
		return "NaN"
	case api.PlusInf:
		return "Infinity"
	case api.MinusInf:
		return "-Infinity"
	}
	parts := quotient([2]uint64{0, sizeOf(a.V)}, api.Places)
	text := strconv.FormatUint(parts[0], 10)
	if rest := placesOf(parts[1]); rest != "" {
		text += "." + rest
	}
	if isBelow(a) {
		return "-" + text
	}
	return text
}

// placesOf is what stands behind the point for so many millionths, without noughts at the end.
func placesOf(millionths uint64) string {
	return strings.TrimRight(padLeft(strconv.FormatUint(millionths, 10), places), "0")
}

func padLeft(s string, least int) string {
	return strings.Repeat("0", max(least-len(s), 0)) + s
}

func padRight(s string, least int) string {
	return s + strings.Repeat("0", max(least-len(s), 0))
}
