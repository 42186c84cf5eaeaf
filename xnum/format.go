package xnum

import (
	"strconv"
	"strings"
	"unicode/utf8"

	"stencil/api"
)

// layout is what one half of a picture says.
type layout struct {
	head, tail string
	whole      int // how many digits stand ahead of the point at least
	least      int // how many stand behind it at least
	most       int // and at most
	group      int // how many stand between two commas; 0: there are none
}

// Format is a number by a picture.
func Format(a api.Num, picture string) (string, api.Errno) {
	above, below, ok := readPicture(picture)
	if !ok {
		return "", api.ErrMark
	}
	if isNaN(a) {
		return "NaN", api.OK
	}
	ends := above
	if isBelow(a) {
		ends = below
	}
	return ends.head + above.writeSize(a) + ends.tail, api.OK
}

// readPicture is the layout of numbers not below 0, and that of those below.
func readPicture(s string) (above, below layout, ok bool) {
	// A head and a tail are of characters: bytes that are none make no picture.
	if !utf8.ValidString(s) {
		return layout{}, layout{}, false
	}
	first, second, two := strings.Cut(s, ";")
	above, ok = readLayout(first)
	if !ok {
		return layout{}, layout{}, false
	}
	if !two {
		return above, layout{head: "-" + above.head, tail: above.tail}, true
	}
	below, ok = readLayout(second)
	if !ok {
		return layout{}, layout{}, false
	}
	return above, below, true
}

func readLayout(s string) (layout, bool) {
	from := strings.IndexAny(s, "#0,.;%")
	if from < 0 {
		return layout{}, false
	}
	tail := strings.TrimLeft(s[from:], "#0,.")
	body := s[from : len(s)-len(tail)]
	whole, rest, _ := strings.Cut(body, ".")
	if !isTail(tail) || !isWhole(whole) || !isRest(rest) || !strings.ContainsAny(body, "#0") {
		return layout{}, false
	}
	return layout{
		head:  s[:from],
		tail:  tail,
		whole: strings.Count(whole, "0"),
		least: strings.Count(rest, "0"),
		most:  len(rest),
		group: groupOf(whole),
	}, true
}

func isTail(s string) bool {
	return !strings.ContainsAny(s, "#0,.;") && strings.Count(s, "%") <= 1
}

// isWhole asks whether signs may stand ahead of the point; isRest whether they may behind it.
func isWhole(s string) bool {
	signs := strings.ReplaceAll(s, ",", "")
	return !strings.Contains(signs, "0#") && !strings.Contains(s, ",,") &&
		!strings.HasPrefix(s, ",") && !strings.HasSuffix(s, ",")
}

func isRest(s string) bool {
	return !strings.ContainsAny(s, ",.") && !strings.Contains(s, "#0")
}

func groupOf(whole string) int {
	last := strings.LastIndex(whole, ",")
	if last < 0 {
		return 0
	}
	return len(whole) - last - 1
}

// writeSize is what stands between the head and the tail.
func (l layout) writeSize(a api.Num) string {
	times := uint64(1)
	if strings.Contains(l.tail, "%") {
		times = 100
	}
	size := sizeOf(a.V)
	if isInfinite(a) || size > api.MaxNum/times {
		return "Infinity"
	}
	parts := quotient([2]uint64{0, roundTo(size*times, l.most)}, api.Places)
	text := l.writeWhole(parts[0])
	if rest := padRight(placesOf(parts[1]), l.least); rest != "" {
		text += "." + rest
	}
	return text
}

// roundTo rounds a size to some places; those behind the sixth are noughts anyway.
func roundTo(size uint64, most int) uint64 {
	unit := uint64(1)
	for range places - most {
		unit *= 10
	}
	return (size + unit/2) / unit * unit
}

func (l layout) writeWhole(n uint64) string {
	digits := ""
	if n > 0 {
		digits = strconv.FormatUint(n, 10)
	}
	return partDigits(padLeft(digits, l.whole), l.group)
}

// partDigits puts a comma ahead of each group but the first, counted from the end.
func partDigits(digits string, group int) string {
	if group == 0 {
		return digits
	}
	var text []byte
	for at, r := range digits {
		if at > 0 && (len(digits)-at)%group == 0 {
			text = append(text, ',')
		}
		text = append(text, byte(r))
	}
	return string(text)
}
