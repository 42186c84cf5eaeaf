package xsort

import (
	"strconv"
	"strings"

	"stencil/api"
)

const (
	mostRoman = 3999
	mostRead  = 1000000000
	letters   = 26
	// The numbers that are read have no more letters, or Roman signs, than these.
	longestLetters = 7
	longestRoman   = 15
)

// Format is a number in a format: 1, 01, a, A, i, I.
func Format(n int, format string) (string, api.Errno) {
	write, ok := writer(format)
	switch {
	case !ok:
		return "", api.ErrMark
	case n < 1:
		return "", api.ErrRange
	}
	return write(n), api.OK
}

// writer is how numbers from 1 on are written in a format; false, if it is none.
func writer(format string) (func(int) string, bool) {
	switch format {
	case "a":
		return Letters, true
	case "A":
		return func(n int) string { return strings.ToUpper(Letters(n)) }, true
	case "i":
		return func(n int) string { return strings.ToLower(romanOrDigits(n)) }, true
	case "I":
		return romanOrDigits, true
	}
	if strings.TrimLeft(format, "0") != "1" {
		goto none
	}
	return func(n int) string { return digits(n, len(format)) }, true
none:
	return nil, false
}

func digits(n, least int) string {
	s := strconv.Itoa(n)
	return strings.Repeat("0", max(least-len(s), 0)) + s
}

func romanOrDigits(n int) string {
	if n > mostRoman {
		return digits(n, 1)
	}
	return Roman(n)
}

// romanParts are the signs of Roman numbers, and what they come to, the greatest ones first; two signs where the first one is taken from the other one.
func romanParts() (signs [13]string, worths [13]int) {
	signs = [13]string{"M", "CM", "D", "CD", "C", "XC", "L", "XL", "X", "IX", "V", "IV", "I"}
	worths = [13]int{1000, 900, 500, 400, 100, 90, 50, 40, 10, 9, 5, 4, 1}
	return signs, worths
}

// Roman and Letters are numbers in these; Read what a text in a format says.
func Roman(n int) string {
	if n < 1 || n > mostRoman {
		return ""
	}
	s := ""
	signs, worths := romanParts()
	for i := range len(signs) {
		s += strings.Repeat(signs[i], n/worths[i])
		n %= worths[i]
	}
	return s
}

func Letters(n int) string {
	s := ""
	for n > 0 {
		// No letter is a nought, so that each place counts from 1.
		n--
		s = string(rune('a'+n%letters)) + s
		n /= letters
	}
	return s
}

func Read(s, format string) (int, api.Errno) {
	write, ok := writer(format)
	if !ok {
		return 0, api.ErrMark
	}
	// A text is what is written of one number at most: of the one that it says, by whatever signs.
	for _, n := range [...]int{saidByDigits(s), saidByLetters(s), saidByRoman(s)} {
		if 1 <= n && n <= mostRead && write(n) == s {
			return n, api.OK
		}
	}
	return 0, api.ErrForm
}

// saidByDigits, saidByLetters and saidByRoman are the numbers of which a text may be written, in small letters or capitals; 0, if there is none.
func saidByDigits(s string) int {
	n, err := strconv.Atoi(s)
	if err != nil {
		return 0
	}
	return n
}

func saidByLetters(s string) int {
	if len(s) > longestLetters {
		return 0
	}
	n := 0
	for _, c := range strings.ToLower(s) {
		if c < 'a' || c > 'z' {
			return 0
		}
		n = n*letters + int(c-'a') + 1
	}
	return n
}

func saidByRoman(s string) int {
	if len(s) > longestRoman {
		return 0
	}
	n, left := 0, strings.ToUpper(s)
	signs, worths := romanParts()
	for i := range len(signs) {
		for strings.HasPrefix(left, signs[i]) {
			n, left = n+worths[i], left[len(signs[i]):]
		}
	}
	if left != "" {
		return 0
	}
	return n
}
