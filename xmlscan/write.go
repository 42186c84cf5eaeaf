package xmlscan

import (
	"slices"
	"strings"

	"stencil/api"
	"stencil/xchar"
)

// Write is tokens as a text.
func Write(l ...api.Token) (string, api.Errno) {
	if !isDocument(l) {
		return "", api.ErrForm
	}
	if pastLimits(l) {
		return "", api.ErrLimit
	}
	var text strings.Builder
	for _, t := range l {
		writeToken(&text, t)
	}
	if text.Len() > api.MaxText {
		return "", api.ErrLimit
	}
	return text.String(), api.OK
}

func isDocument(l []api.Token) bool {
	var open []string
	rooted, last := false, api.NoKind
	for _, t := range l {
		top := len(open) == 0
		switch {
		case !isToken(t):
			return false
		case t.Kind == api.Element && top && rooted:
			return false
		case t.Kind == api.Element:
			rooted = true
			open = append(open, t.Name)
		case t.Kind == api.End && (top || open[len(open)-1] != t.Name):
			return false
		case t.Kind == api.End:
			open = open[:len(open)-1]
		case t.Kind == api.Text && (top || last == api.Text):
			return false
		}
		last = t.Kind
	}
	return rooted && len(open) == 0
}

// isToken tells whether a token may stand in some document. What its kind does not use is empty, as else it would not be read again.
func isToken(t api.Token) bool {
	named, attributed, worded := t.Name != "", len(t.Attrs) > 0, t.Text != ""
	switch t.Kind {
	case api.Element:
		return !worded && isQName(t.Name) && areAttributes(t.Attrs)
	case api.End:
		return !worded && !attributed && isQName(t.Name)
	case api.Text:
		return !named && !attributed && worded && xchar.IsText(t.Text)
	case api.Comment:
		return !named && !attributed && isComment(t.Text)
	case api.Pi:
		return !attributed && isTarget(t.Name) && isInstruction(t.Text)
	}
	return false
}

func isQName(s string) bool {
	_, _, ok := xchar.Split(s)
	return ok
}

func areAttributes(l []api.Pair) bool {
	places := map[string]int{}
	for i, a := range l {
		if _, twice := places[a.Name]; twice || !isQName(a.Name) || !xchar.IsText(a.Value) {
			return false
		}
		places[a.Name] = i
	}
	return true
}

func isComment(s string) bool {
	return xchar.IsText(s) && !strings.Contains(s, "--") && !strings.HasSuffix(s, "-")
}

func isInstruction(s string) bool {
	return xchar.IsText(s) && !strings.Contains(s, "?>") && strings.TrimLeftFunc(s, xchar.IsBlank) == s
}

func pastLimits(l []api.Token) bool {
	deep, deepest := 0, 0
	for _, t := range l {
		switch t.Kind {
		case api.Element:
			deep++
			deepest = max(deepest, deep)
		case api.End:
			deep--
		}
	}
	crowded := func(t api.Token) bool { return len(t.Attrs) > api.MaxAttrs }
	return len(l) > api.MaxNodes || deepest > api.MaxDeep || slices.ContainsFunc(l, crowded)
}

func writeToken(text *strings.Builder, t api.Token) {
	switch t.Kind {
	case api.Element:
		text.WriteString("<" + t.Name)
		for _, a := range t.Attrs {
			text.WriteString(" " + a.Name + `="` + Quote(a.Value) + `"`)
		}
		text.WriteString(">")
	case api.End:
		text.WriteString("</" + t.Name + ">")
	case api.Text:
		text.WriteString(Escape(t.Text))
	case api.Comment:
		text.WriteString("<!--" + t.Text + "-->")
	case api.Pi:
		text.WriteString("<?" + t.Name)
		if t.Text != "" {
			text.WriteString(" " + t.Text)
		}
		text.WriteString("?>")
	}
}

// Escape is a text as it stands in an element; Quote as it stands in an attribute.
func Escape(s string) string {
	return replaced(s, func(c rune) string {
		if c == '>' {
			return "&gt;"
		}
		return instead(c)
	})
}

func Quote(s string) string {
	return replaced(s, func(c rune) string {
		switch c {
		case '"':
			return "&quot;"
		case '\t':
			return "&#9;"
		case '\n':
			return "&#10;"
		}
		return instead(c)
	})
}

// instead is what stands for a character in elements and attributes alike; empty, if it may stand for itself.
func instead(c rune) string {
	switch c {
	case '&':
		return "&amp;"
	case '<':
		return "&lt;"
	case '\r':
		return "&#13;"
	}
	return ""
}

// replaced is a text with other texts for those of its characters that have one; these are of one byte each.
func replaced(s string, other func(rune) string) string {
	var text strings.Builder
	from := 0
	for at, c := range s {
		if said := other(c); said != "" {
			text.WriteString(s[from:at] + said)
			from = at + 1
		}
	}
	text.WriteString(s[from:])
	return text.String()
}
