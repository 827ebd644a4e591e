package lex

// kind is what a byte is to the scanner.
type kind uint8

const (
	end   kind = iota // no byte: the line's end
	stray             // a byte that begins no token
	blank
	letter
	digit
	percent
	minus
	quote
	backslash
	equal
	semicolon
)

// kindOf tells what a byte is.
func kindOf(c byte) kind {
	switch {
	case c == '_' || 'A' <= c && c <= 'Z' || 'a' <= c && c <= 'z':
		return letter
	case '0' <= c && c <= '9':
		return digit
	}
	switch c {
	case '\t', '\r', ' ':
		return blank
	case '%':
		return percent
	case '-':
		return minus
	case '"':
		return quote
	case '\\':
		return backslash
	case '=':
		return equal
	case ';':
		return semicolon
	}
	return stray
}

// inRun says whether a byte of that kind belongs to a run.
func inRun(k kind) bool { return k == letter || k == digit }

// printable says whether a byte stands as it is in a quoted text; " and \ do so behind a \ alone.
func printable(c byte) bool { return ' ' <= c && c <= '~' }
