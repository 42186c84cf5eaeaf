package xsheet

import (
	"strings"

	"stencil/api"
)

// Text is a text's template: its parts, one text and one expression in turn.
func Text(s string) ([]string, api.Errno) {
	var parts []string
	var text strings.Builder
	for {
		at := strings.IndexAny(s, "{}")
		if at < 0 {
			return append(parts, text.String()+s), api.OK
		}
		text.WriteString(s[:at])
		sign, behind := s[at:at+1], s[at+1:]
		if rest, twice := strings.CutPrefix(behind, sign); twice {
			text.WriteString(sign)
			s = rest
			continue
		}
		inner, rest, ok := cutExpression(behind)
		if sign == "}" || !ok {
			return nil, api.ErrWord
		}
		parts = append(parts, text.String(), inner)
		text.Reset()
		s = rest
	}
}

// cutExpression is what stands ahead of the } that ends an expression, and what stands behind it.
func cutExpression(s string) (inner, rest string, ok bool) {
	quote := rune(0)
	for at, c := range s {
		switch {
		case quote != 0:
			if c == quote {
				quote = 0
			}
		case c == '"' || c == '\'':
			quote = c
		case c == '{':
			return "", "", false
		case c == '}':
			return s[:at], s[at+1:], at > 0
		}
	}
	return "", "", false
}
