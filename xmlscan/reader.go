package xmlscan

import (
	"strings"

	"stencil/api"
	"stencil/xchar"
)

// reader goes through a text of characters that may be, up to its end or to what is wrong.
type reader struct {
	text     string
	at       int
	entities map[string]entity
	spent    int // what entities came to, in bytes
	open     []string
	tokens   []api.Token
	run      []byte // the text behind the last tag, comment or processing instruction
	runFrom  int
	wrong    api.Errno
	place    int
}

func (r *reader) fail(e api.Errno, place int) bool {
	r.wrong, r.place = e, place
	return false
}

// tell adds a token that has been read; place is where it begins.
func (r *reader) tell(t api.Token, place int) bool {
	if len(r.run) > 0 {
		r.tokens = append(r.tokens, api.Token{Kind: api.Text, Text: string(r.run)})
		r.run = r.run[:0]
	}
	r.runFrom = r.at
	if len(r.tokens) == api.MaxNodes {
		return r.fail(api.ErrLimit, place)
	}
	r.tokens = append(r.tokens, t)
	return true
}

// roomForRun is asked as soon as text is there, as its place lies ahead of all that follows in it.
func (r *reader) roomForRun() bool {
	if len(r.run) > 0 && len(r.tokens) == api.MaxNodes {
		return r.fail(api.ErrLimit, r.runFrom)
	}
	return true
}

func (r *reader) rest() string {
	return r.text[r.at:]
}

func (r *reader) sees(sign string) bool {
	return strings.HasPrefix(r.rest(), sign)
}

func (r *reader) take(sign string) bool {
	if !r.sees(sign) {
		return false
	}
	r.at += len(sign)
	return true
}

// takeTo is what stands ahead of the next sign, which is taken too.
func (r *reader) takeTo(sign string) (string, bool) {
	ahead, _, ok := strings.Cut(r.rest(), sign)
	if ok {
		r.at += len(ahead) + len(sign)
	}
	return ahead, ok
}

// blanks passes by blanks, and tells whether there were some.
func (r *reader) blanks() bool {
	before := len(r.rest())
	r.at += before - len(strings.TrimLeftFunc(r.rest(), xchar.IsBlank))
	return len(r.rest()) < before
}

// name is the longest name that stands here; empty, if there is none.
func (r *reader) name() string {
	name := nameAhead(r.rest())
	r.at += len(name)
	return name
}

// qname likewise; a : that no name follows is left where it is, as it may follow no QName.
func (r *reader) qname() string {
	name := nameAhead(r.rest())
	behind := r.rest()[len(name):]
	if name != "" && strings.HasPrefix(behind, ":") {
		if local := nameAhead(behind[1:]); local != "" {
			name += ":" + local
		}
	}
	r.at += len(name)
	return name
}

func nameAhead(s string) string {
	for at, c := range s {
		if at == 0 && !xchar.Begins(c) || !xchar.GoesOn(c) {
			return s[:at]
		}
	}
	return s
}

// quote takes the sign that a text in " or ' begins with.
func (r *reader) quote() (string, bool) {
	for _, sign := range [...]string{`"`, `'`} {
		if r.take(sign) {
			return sign, true
		}
	}
	return "", false
}

func (r *reader) quoted() (string, bool) {
	sign, ok := r.quote()
	if !ok {
		return "", false
	}
	return r.takeTo(sign)
}

// equals takes = with blanks around.
func (r *reader) equals() bool {
	r.blanks()
	if !r.take("=") {
		return false
	}
	r.blanks()
	return true
}
