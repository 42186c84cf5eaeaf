package xparse

import "stencil/api"

// noExpression is what tokens that are none are given up with.
type noExpression struct{}

func giveUp() {
	panic(noExpression{})
}

// tokens are those of an expression that are left to be read.
type tokens struct {
	left []api.Lex
}

func (t *tokens) sees(kind api.LexKind) bool {
	return len(t.left) > 0 && t.left[0].Kind == kind
}

// takeAny is the text of the next token, if it is of a kind.
func (t *tokens) takeAny(kind api.LexKind) (string, bool) {
	if !t.sees(kind) {
		return "", false
	}
	text := t.left[0].Text
	t.left = t.left[1:]
	return text, true
}

// take asks for the text too: a string may say what a sign does.
func (t *tokens) take(kind api.LexKind, text string) bool {
	if !t.sees(kind) || t.left[0].Text != text {
		return false
	}
	t.left = t.left[1:]
	return true
}

func (t *tokens) sign(text string) bool {
	return t.take(api.LexSign, text)
}

func (t *tokens) operator(text string) bool {
	return t.take(api.LexOperator, text)
}

// need is a sign without which there is no expression.
func (t *tokens) need(text string) {
	if !t.sign(text) {
		giveUp()
	}
}

// beginsStep tells whether the next token may begin a step.
func (t *tokens) beginsStep() bool {
	if t.sees(api.LexSign) {
		switch t.left[0].Text {
		case ".", "..", "@":
			return true
		}
	}
	return t.sees(api.LexName) || t.sees(api.LexType) || t.sees(api.LexAxis)
}
