package lex

import (
	"math/big"
	"regexp"
	"slices"
	"strconv"
	"strings"
	"testing"

	"intaglio/api"
)

// word, id, num, str, equals: tokens, by the places at which they begin.
func word(s string, at int) api.Token { return api.Token{Kind: api.TokWord, Text: s, At: at} }

func id(s string, at int) api.Token { return api.Token{Kind: api.TokId, Text: s, At: at} }

func num(s string, at int) api.Token { return api.Token{Kind: api.TokNumber, Text: s, At: at} }

func str(s string, at int) api.Token { return api.Token{Kind: api.TokString, Text: s, At: at} }

func equals(at int) api.Token { return api.Token{Kind: api.TokEqual, Text: "=", At: at} }

// spot is a fault at a place.
func spot(e api.Errno, at int) api.Spot { return api.Spot{Err: e, At: at} }

// numbered is a line with its number.
type numbered struct {
	number int
	line   string
}

// linesOf are all that Lines tells.
func linesOf(text string) []numbered {
	var l []numbered
	for n, s := range Lines(text) {
		l = append(l, numbered{n, s})
	}
	return l
}

// holdTokens says whether Tokens of a line are these, or that fault.
func holdTokens(t *testing.T, line string, want []api.Token, fault api.Spot) {
	t.Helper()
	if l, s := Tokens(line); s != fault || !slices.Equal(l, want) {
		t.Errorf("Tokens(%q): %v, %v; not %v, %v", line, l, s, want, fault)
	}
}

// What the chapter says, said once more by patterns. They stand in no function, so that they are made once.
var (
	blanksHere = regexp.MustCompile(`^[\t\r ]*`)
	wordHere   = regexp.MustCompile(`^[A-Za-z_][A-Za-z_0-9]*`)
	idHere     = regexp.MustCompile(`^%[A-Za-z_0-9]*`)
	numberHere = regexp.MustCompile(`^(?:[0-9]|-)[A-Za-z_0-9]*`)
	stringHere = regexp.MustCompile(`^"(?:[ !#-\[\]-~]|\\["\\]|\\x[0-9a-fA-F][0-9a-fA-F])*"`)
	escapeHere = regexp.MustCompile(`\\(?:["\\]|x..)`)
	plainWhole = regexp.MustCompile(`^(?:0|[1-9][0-9]*)$`)
	hexWhole   = regexp.MustCompile(`^0x[0-9a-fA-F]{1,8}$`)
	wordWhole  = regexp.MustCompile(`^[A-Za-z_][A-Za-z_0-9]*$`)
)

// saidPlain is what a plain number says; nil, if a text is none.
func saidPlain(s string) *big.Int {
	if !plainWhole.MatchString(s) {
		return nil
	}
	n, _ := new(big.Int).SetString(s, 10)
	if n.BitLen() > 32 {
		return nil
	}
	return n
}

// saidNumber is what a number's text says; nil, if a text is none.
func saidNumber(s string) *big.Int {
	if hexWhole.MatchString(s) {
		n, _ := new(big.Int).SetString(s[2:], 16)
		return n
	}
	if !strings.HasPrefix(s, "-") {
		return saidPlain(s)
	}
	n := saidPlain(s[1:])
	if n == nil || n.Sign() == 0 || n.Cmp(big.NewInt(1<<31)) > 0 {
		return nil
	}
	return n.Sub(big.NewInt(1<<32), n)
}

// saidText is what a quoted text stands for.
func saidText(s string) string {
	return escapeHere.ReplaceAllStringFunc(s[1:len(s)-1], func(e string) string {
		if e[1] != 'x' {
			return e[1:]
		}
		n, _ := strconv.ParseUint(e[2:], 16, 8)
		return string([]byte{byte(n)})
	})
}

// saidTokens are a line's tokens, by the patterns.
func saidTokens(line string) ([]api.Token, api.Spot) {
	var l []api.Token
	for at := 0; ; {
		at += len(blanksHere.FindString(line[at:]))
		left := line[at:]
		if left == "" || left[0] == ';' {
			return l, api.Spot{}
		}
		if left[0] == '=' {
			l = append(l, equals(at))
			at++
		} else if s := wordHere.FindString(left); s != "" {
			l = append(l, word(s, at))
			at += len(s)
		} else if s := idHere.FindString(left); s != "" {
			if saidPlain(s[1:]) == nil {
				return nil, spot(api.ErrNumber, at)
			}
			l = append(l, id(s[1:], at))
			at += len(s)
		} else if s := numberHere.FindString(left); s != "" {
			if saidNumber(s) == nil {
				return nil, spot(api.ErrNumber, at)
			}
			l = append(l, num(s, at))
			at += len(s)
		} else if s := stringHere.FindString(left); s != "" {
			l = append(l, str(saidText(s), at))
			at += len(s)
		} else if left[0] == '"' {
			return nil, spot(api.ErrString, at)
		} else {
			return nil, spot(api.ErrSign, at)
		}
	}
}

// saidMayBe says whether a token may be written, by the patterns.
func saidMayBe(t api.Token) bool {
	switch t.Kind {
	case api.TokWord:
		return wordWhole.MatchString(t.Text)
	case api.TokId:
		return saidPlain(t.Text) != nil
	case api.TokNumber:
		return saidNumber(t.Text) != nil
	case api.TokEqual:
		return t.Text == "="
	}
	return t.Kind == api.TokString
}

// everyRow goes over all texts of these pieces, up to so many of them.
func everyRow(pieces []string, most int, each func(s string)) {
	var grow func(s string, more int)
	grow = func(s string, more int) {
		each(s)
		if more > 0 {
			for _, p := range pieces {
				grow(s+p, more-1)
			}
		}
	}
	grow("", most)
}

// everyByte is a text of all 256 bytes.
func everyByte() string {
	var b []byte
	for c := range 256 {
		b = append(b, byte(c))
	}
	return string(b)
}

// hexOf is a byte as \x and two digits.
func hexOf(c int, digits string) string {
	return `\x` + string([]byte{digits[c>>4], digits[c&15]})
}

// The digits to the base 16, small and great.
const (
	smallDigits = "0123456789abcdef"
	greatDigits = "0123456789ABCDEF"
)

// dice are numbers that look like chance, and are the same at every run.
type dice uint64

// below is a number below n.
func (d *dice) below(n int) int {
	*d = *d*6364136223846793005 + 1442695040888963407
	return int(uint64(*d)>>33) % n
}

// text is a text of up to so many bytes, of any kind.
func (d *dice) text(most int) string {
	b := make([]byte, d.below(most+1))
	for i := range b {
		b[i] = byte(d.below(256))
	}
	return string(b)
}

// of is one of several texts.
func (d *dice) of(l ...string) string { return l[d.below(len(l))] }

// token is a token of any kind that may be, at 0.
func (d *dice) token() api.Token {
	n := d.below(1 << 31)
	n >>= d.below(31)
	plain := strconv.Itoa(n)
	switch d.below(5) {
	case 0:
		return word(d.of("Op", "_", "a", "Z", "x")+d.of("", "IAdd", "_0_", "9", plain), 0)
	case 1:
		return id(plain, 0)
	case 2:
		return num(d.of(plain, "0", "4294967295", "-2147483648", "-"+strconv.Itoa(n+1), "0x"+strconv.FormatInt(int64(n), 16), "0x0000fFfF"), 0)
	case 3:
		return str(d.text(12), 0)
	}
	return equals(0)
}

// row is a row of tokens that may be, each at 0.
func (d *dice) row(most int) []api.Token {
	l := make([]api.Token, d.below(most+1))
	for i := range l {
		l[i] = d.token()
	}
	return l
}

// line is a line of what may stand in one, and of what may not, if wrong says so, with or without blanks between.
func (d *dice) line(wrong bool) string {
	var b strings.Builder
	for range d.below(9) {
		t := d.token()
		switch {
		case t.Kind == api.TokString:
			b.WriteString(`"` + d.of("", "a;%=", "-7", "' '", "~") + d.of("", `\\`, `\"`, `\x0a`, `\xFf`) + d.of("", "b", ";") + `"`)
		case t.Kind == api.TokId:
			b.WriteString("%" + t.Text)
		default:
			b.WriteString(t.Text)
		}
		b.WriteString(d.of(" ", "", "\t", "\r", " \t\r "))
		if wrong && d.below(4) == 0 {
			b.WriteString(d.of("\n", ".", "'", `\`, "%", "-", `"`, `"\x4"`, "%x", "007", "0x", "\x80", "é", "-0", "4294967296"))
		}
	}
	return b.String() + d.of("", "", "; note", `;"`, ";;\x00\xff", "; %x")
}
