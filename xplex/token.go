package xplex

import (
	"strings"

	"stencil/api"
	"stencil/xchar"
)

// place is what may stand somewhere: names and * hang on it.
type place int

const (
	operandPlace  place = iota // they are a test, a function, a type or an axis
	operatorPlace              // they are an operator
)

// placeBehind is the place behind the tokens that were read.
func placeBehind(l []api.Lex) place {
	if len(l) == 0 {
		return operandPlace
	}
	last := l[len(l)-1]
	switch last.Kind {
	case api.LexOperator:
		return operandPlace
	case api.LexSign:
		switch last.Text {
		case "@", "::", "(", "[", ",":
			return operandPlace
		}
	}
	return operatorPlace
}

// signs stand with those of two bytes first, as the longest token counts; * is read as names are.
var signs = [...]api.Lex{
	{Kind: api.LexOperator, Text: "//"},
	{Kind: api.LexOperator, Text: "!="},
	{Kind: api.LexOperator, Text: "<="},
	{Kind: api.LexOperator, Text: ">="},
	{Kind: api.LexSign, Text: "::"},
	{Kind: api.LexSign, Text: ".."},
	{Kind: api.LexOperator, Text: "/"},
	{Kind: api.LexOperator, Text: "|"},
	{Kind: api.LexOperator, Text: "+"},
	{Kind: api.LexOperator, Text: "-"},
	{Kind: api.LexOperator, Text: "="},
	{Kind: api.LexOperator, Text: "<"},
	{Kind: api.LexOperator, Text: ">"},
	{Kind: api.LexSign, Text: "("},
	{Kind: api.LexSign, Text: ")"},
	{Kind: api.LexSign, Text: "["},
	{Kind: api.LexSign, Text: "]"},
	{Kind: api.LexSign, Text: "."},
	{Kind: api.LexSign, Text: "@"},
	{Kind: api.LexSign, Text: ","},
}

// tokenAhead is the token that a text begins with, and how many bytes it takes: 0, if none can stand there.
func tokenAhead(s string, where place) (api.Lex, int) {
	if number := numberAhead(s); number != "" {
		return api.Lex{Kind: api.LexNumber, Text: number}, len(number)
	}
	if text, ok := stringAhead(s); ok {
		return api.Lex{Kind: api.LexString, Text: text}, len(text) + 2
	}
	if name, ok := variableAhead(s); ok {
		return api.Lex{Kind: api.LexVariable, Text: name}, len(name) + 1
	}
	if word := wordAhead(s); word != "" {
		return wordToken(word, s[len(word):], where)
	}
	for _, x := range signs {
		if strings.HasPrefix(s, x.Text) {
			return x, len(x.Text)
		}
	}
	return api.Lex{}, 0
}

// wordToken is what a name, or *, is at a place, with what stands behind it.
func wordToken(word, behind string, where place) (api.Lex, int) {
	behind = behind[pastBlanks(behind, 0):]
	kind := api.LexName
	switch {
	case where == operatorPlace && !isOperator(word):
		goto none
	case where == operatorPlace:
		kind = api.LexOperator
	case strings.HasPrefix(behind, "(") && isType(word):
		kind = api.LexType
	case strings.HasPrefix(behind, "(") && isQName(word):
		kind = api.LexFunction
	case strings.HasPrefix(behind, "::") && xchar.IsName(word):
		kind = api.LexAxis
	}
	return api.Lex{Kind: kind, Text: word}, len(word)
none:
	return api.Lex{}, 0
}

func isOperator(word string) bool {
	switch word {
	case "and", "or", "mod", "div", "*":
		return true
	}
	return false
}

func isType(word string) bool {
	switch word {
	case "comment", "text", "processing-instruction", "node":
		return true
	}
	return false
}

func isQName(word string) bool {
	_, _, ok := xchar.Split(word)
	return ok
}

// numberAhead is the longest number that a text begins with; empty, if there is none. A . is its part just ahead of a digit.
func numberAhead(s string) string {
	whole := digitsAhead(s)
	behind, point := strings.CutPrefix(s[len(whole):], ".")
	places := digitsAhead(behind)
	if !point || places == "" {
		return whole
	}
	return s[:len(whole)+1+len(places)]
}

func digitsAhead(s string) string {
	for at, r := range s {
		if r < '0' || r > '9' {
			return s[:at]
		}
	}
	return s
}

// stringAhead is what stands within the string that a text begins with.
func stringAhead(s string) (string, bool) {
	for _, sign := range [...]string{`"`, `'`} {
		if behind, ok := strings.CutPrefix(s, sign); ok {
			text, _, ended := strings.Cut(behind, sign)
			return text, ended
		}
	}
	return "", false
}

// variableAhead is the name of the variable that a text begins with.
func variableAhead(s string) (string, bool) {
	behind, ok := strings.CutPrefix(s, "$")
	name := qnameAhead(behind)
	return name, ok && name != ""
}

// wordAhead is *, or the longest QName, or name with :* behind it, that a text begins with.
func wordAhead(s string) string {
	if strings.HasPrefix(s, "*") {
		return "*"
	}
	name := qnameAhead(s)
	if xchar.IsName(name) && strings.HasPrefix(s[len(name):], ":*") {
		return name + ":*"
	}
	return name
}

func qnameAhead(s string) string {
	prefix := nameAhead(s)
	behind, colon := strings.CutPrefix(s[len(prefix):], ":")
	local := nameAhead(behind)
	if prefix == "" || !colon || local == "" {
		return prefix
	}
	return prefix + ":" + local
}

func nameAhead(s string) string {
	for at, r := range s {
		if at == 0 && !xchar.Begins(r) || !xchar.GoesOn(r) {
			return s[:at]
		}
	}
	return s
}
