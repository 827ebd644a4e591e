package print

import (
	"strings"

	"intaglio/api"
	"intaglio/lex"
)

// page is a text that grows line by line.
type page struct {
	strings.Builder
}

// line adds a line of tokens. Those of a module of good shape may all be written, so that there is no error to tell.
func (p *page) line(l ...api.Token) {
	s, _ := lex.Write(l)
	p.WriteString(s)
	p.WriteByte('\n')
}

// textOf is the text of a module of good shape.
func textOf(m api.Module) string {
	var p page
	p.line(word("module"), number(m.Generator), number(m.Bound))
	for _, i := range m.Insts {
		p.line(instTokens(i)...)
	}
	return p.String()
}
