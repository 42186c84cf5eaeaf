package xout

import (
	"strings"

	"stencil/api"
)

// Void tells whether an element of html has no end; Raw whether its text stands as it is; Short whether an attribute may stand without its text.
func Void(name string) bool {
	switch small(name) {
	case "area", "base", "br", "col", "embed", "hr", "img", "input", "link", "meta", "source", "track", "wbr":
		return true
	}
	return false
}

func Raw(name string) bool {
	switch small(name) {
	case "script", "style":
		return true
	}
	return false
}

func Short(name string) bool {
	switch small(name) {
	case "checked", "compact", "declare", "defer", "disabled", "ismap", "multiple", "nohref", "noresize", "noshade", "nowrap", "readonly", "selected":
		return true
	}
	return false
}

// small has a to z for A to Z alone: the library takes some other letters, as the sign of Kelvin, for these too.
func small(name string) string {
	return strings.Map(func(c rune) rune {
		if 'A' <= c && c <= 'Z' {
			return c - 'A' + 'a'
		}
		return c
	}, name)
}

// isHtml tells whether the tokens of a tree can be written as html, which has no sign for all that XML has one for.
func isHtml(l []api.Token) bool {
	for s := range spots(l) {
		if s.isLost() {
			return false
		}
	}
	return true
}

// isLost tells whether a token would be read as something else in html.
func (s spot) isLost() bool {
	switch s.Kind {
	case api.Element:
		filled := s.behind.Kind != api.End
		return filled && (Void(s.Name) || Raw(s.Name) && s.behind.Kind != api.Text)
	case api.Text:
		return s.isRaw() && (s.behind.Kind != api.End || strings.Contains(s.Text, "</"))
	case api.Pi:
		return strings.Contains(s.Text, ">")
	}
	return false
}

// isRaw tells whether a text stands first in a raw element; none stands there elsewhere.
func (s spot) isRaw() bool {
	return s.ahead.Kind == api.Element && Raw(s.ahead.Name)
}
