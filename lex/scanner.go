package lex

import (
	"strings"

	"intaglio/api"
)

// scanner goes over a line from byte to byte.
type scanner struct {
	line string

	// The byte that is next: its place, itself, its kind. At the line's end it is 0, which may stand nowhere but in a note.
	at   int
	next byte
	kind kind
}

// look sees what is next.
func (s *scanner) look() {
	s.next, s.kind = 0, end
	if s.at < len(s.line) {
		s.next = s.line[s.at]
		s.kind = kindOf(s.next)
	}
}

// step goes on by a byte.
func (s *scanner) step() {
	s.at++
	s.look()
}

// tokens takes the tokens up to the line's end.
func (s *scanner) tokens() ([]api.Token, api.Spot) {
	var (
		l    []api.Token
		t    api.Token
		from int // where the Text begins, if it stands in the line as it is
		ok   bool
	)
between:
	t, from = api.Token{At: s.at}, s.at
	switch s.kind {
	case end, semicolon:
		return l, api.Spot{}
	case blank:
		s.step()
		goto between
	case letter:
		t.Kind = api.TokWord
		goto run
	case percent:
		t.Kind = api.TokId
		s.step()
		from = s.at
		goto run
	case minus:
		s.step()
		fallthrough
	case digit:
		t.Kind = api.TokNumber
		goto run
	case quote:
		t.Kind = api.TokString
		if t.Text, ok = s.quoted(); ok {
			goto taken
		}
		return nil, api.Spot{Err: api.ErrString, At: t.At}
	case equal:
		t.Kind = api.TokEqual
		s.step()
		goto whole
	default:
		return nil, api.Spot{Err: api.ErrSign, At: t.At}
	}
run:
	if inRun(s.kind) {
		s.step()
		goto run
	}
whole:
	// A piece of the line would keep all of it as long as the token is kept.
	t.Text = strings.Clone(s.line[from:s.at])
	if !mayBe(t) {
		return nil, api.Spot{Err: api.ErrNumber, At: t.At}
	}
taken:
	l = append(l, t)
	goto between
}

// quoted takes the quoted text that begins with the quote that is next, and answers what it stands for.
func (s *scanner) quoted() (string, bool) {
	var b strings.Builder
	var c byte
more:
	s.step()
	c = s.next
	switch {
	case s.kind == quote:
		s.step()
		return b.String(), true
	case s.kind == backslash:
		goto escaped
	case !printable(c):
		return "", false
	}
stands:
	b.WriteByte(c)
	goto more
escaped:
	s.step()
	c = s.next
	switch {
	case s.kind == quote || s.kind == backslash:
		goto stands
	case c != 'x':
		return "", false
	}
	c = 0
	for range 2 {
		s.step()
		value := digitValue(s.next)
		if value >= 16 {
			return "", false
		}
		c = c<<4 | byte(value)
	}
	goto stands
}
