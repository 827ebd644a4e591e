package lex

import (
	"slices"
	"strings"
	"testing"

	"intaglio/api"
)

// alike says whether tokens are of one Kind and Text.
func alike(a, b api.Token) bool { return a.Kind == b.Kind && a.Text == b.Text }

// P6.4: the chapter's example, and other texts.
func TestQuote(t *testing.T) {
	for s, want := range map[string]string{
		"a\"\\\né":       `"a\"\\\x0a\xc3\xa9"`,
		"":               `""`,
		"a":              `"a"`,
		"main":           `"main"`,
		" ":              `" "`,
		"~":              `"~"`,
		"\x1f\x20":       `"\x1f "`,
		"\x7e\x7f":       `"~\x7f"`,
		"\x00":           `"\x00"`,
		"\t\r\n":         `"\x09\x0d\x0a"`,
		"\xff\x80":       `"\xff\x80"`,
		"\xab\xcd\xef":   `"\xab\xcd\xef"`,
		`"`:              `"\""`,
		`""`:             `"\"\""`,
		`\`:              `"\\"`,
		`\x41`:           `"\\x41"`,
		`\"`:             `"\\\""`,
		"a;b=%1 -7":      `"a;b=%1 -7"`,
		"'":              `"'"`,
		"\u2028":         `"\xe2\x80\xa8"`,
		"a\x00b\x00":     `"a\x00b\x00"`,
		"\xc3":           `"\xc3"`,
		"OpName %3 \"\"": `"OpName %3 \"\""`,
	} {
		if q := Quote(s); q != want {
			t.Errorf("%q: %s", s, q)
		}
	}
}

// P6.4: each of the 256 bytes, alone and among others.
func TestQuoteEveryByte(t *testing.T) {
	for c := range 256 {
		s := string([]byte{byte(c)})
		want := hexOf(c, smallDigits)
		switch {
		case c == '"' || c == '\\':
			want = `\` + s
		case 32 <= c && c <= 126:
			want = s
		}
		if q := Quote(s); q != `"`+want+`"` {
			t.Errorf("%d: %s", c, q)
		}
		if q := Quote("a" + s + s + "b"); q != `"a`+want+want+`b"` {
			t.Errorf("%d, twice: %s", c, q)
		}
	}
}

// P6.6: Tokens of Quote is one token, at 0, whose Text is the text.
func TestQuoteIsOneToken(t *testing.T) {
	hold := func(s string) {
		if l, e := Tokens(Quote(s)); e != (api.Spot{}) || !slices.Equal(l, []api.Token{str(s, 0)}) {
			t.Fatalf("%q: %v, %v", s, l, e)
		}
	}
	hold(everyByte())
	everyRow([]string{"\"", "\\", "x", "4", "\n", "é", ";", "\x00"}, 5, hold)
	d := dice(64)
	for range 5000 {
		hold(d.text(60))
	}
	hold(strings.Repeat("\x00\"a", 1<<20))
}

// P6.5: lines of tokens.
func TestWrite(t *testing.T) {
	for _, c := range []struct {
		l    []api.Token
		want string
	}{
		{nil, ""},
		{[]api.Token{}, ""},
		{[]api.Token{word("a", 0), id("7", 0), equals(0)}, "a %7 ="},
		{[]api.Token{word("a", 0)}, "a"},
		{[]api.Token{word("_9", 0)}, "_9"},
		{[]api.Token{word("OpIAdd", 0), word("Z", 0)}, "OpIAdd Z"},
		{[]api.Token{id("0", 0)}, "%0"},
		{[]api.Token{id("4294967295", 0), id("1", 0)}, "%4294967295 %1"},
		{[]api.Token{num("0", 0), num("-1", 0), num("0xfF", 0)}, "0 -1 0xfF"},
		{[]api.Token{num("-2147483648", 0)}, "-2147483648"},
		{[]api.Token{num("0x00000007", 0)}, "0x00000007"},
		{[]api.Token{str("", 0)}, `""`},
		{[]api.Token{str("", 0), str("a\"\n", 0), str("é", 0)}, `"" "a\"\x0a" "\xc3\xa9"`},
		{[]api.Token{str(";", 0), str("%", 0)}, `";" "%"`},
		{[]api.Token{equals(0)}, "="},
		{[]api.Token{equals(0), equals(0)}, "= ="},
		{[]api.Token{id("3", 0), equals(0), word("OpString", 0), str("a b", 0)}, `%3 = OpString "a b"`},
		{[]api.Token{word("a", 9), id("7", -1), equals(1 << 62), num("7", -1<<63)}, "a %7 = 7"},
	} {
		if s, e := Write(c.l); s != c.want || e != api.OK {
			t.Errorf("%v: %q, %d", c.l, s, e)
		}
	}
}

// P6.5: tokens whose Text may not be, and kinds that there are not; R2: no line beside the error.
func TestWriteRefuses(t *testing.T) {
	wrong := map[uint8][]string{
		api.TokWord:   {"", "7", "7a", "0x1", "-1", "%1", "=", " ", "a ", " a", "a b", "a;", ";", "a=", "a\n", "\n", "a.b", "a-b", "a\x00", "é", "aé", "\"a\"", "a\"", "a\\"},
		api.TokId:     {"", "a", "_", "%7", "%", "0x7", "00", "07", "-1", "-", "+1", "7 ", " 7", "7a", "7_", "4294967296", "99999999999", "=", "7\n", "\xb7", "7;", "\"7\""},
		api.TokNumber: {"", "a", "_1", "-", "-0", "-01", "00", "007", "+1", "0x", "0xg", "0X1", "0x123456789", "-0x1", "4294967296", "-2147483649", "1 ", " 1", "- 1", "1a", "1.0", "1\n", "%1", "=", "1;", "1 1"},
		api.TokEqual:  {"", "==", " =", "= ", "a", ":=", "7", "\"=\"", "=\n", "%"},
	}
	for kind := range 256 {
		if kind < api.TokWord || kind > api.TokEqual {
			wrong[uint8(kind)] = []string{"", "a", "7", "="}
		}
	}
	for kind, texts := range wrong {
		for _, text := range texts {
			x := api.Token{Kind: kind, Text: text}
			for _, l := range [][]api.Token{{x}, {word("a", 0), x}, {x, word("a", 0)}, {x, x}, {str("b", 0), x, num("1", 0)}} {
				if s, e := Write(l); s != "" || e != api.ErrArg {
					t.Errorf("%v: %q, %d", l, s, e)
				}
			}
		}
	}
}

// P6.5: tokens of each kind with texts by chance and with each byte, held against the patterns.
func TestWriteOfEveryText(t *testing.T) {
	hold := func(text string) {
		for kind := range uint8(8) {
			x := api.Token{Kind: kind, Text: text, At: 5}
			want, fault := text, api.OK
			switch {
			case !saidMayBe(x):
				want, fault = "", api.ErrArg
			case kind == api.TokId:
				want = "%" + text
			case kind == api.TokString:
				want = Quote(text)
			}
			if s, e := Write([]api.Token{x}); s != want || e != fault {
				t.Fatalf("%v: %q, %d; not %q, %d", x, s, e, want, fault)
			}
		}
	}
	for c := range 256 {
		s := string([]byte{byte(c)})
		for _, more := range []string{"", "a", "1", "-1"} {
			hold(s + more)
			hold(more + s)
			hold(more + s + "1")
		}
	}
	everyRow([]string{"a", "x", "0", "1", "F", "_", "-", "%", "=", " ", "4294967295"}, 4, hold)
}

// P6.6: Tokens of what Write answers are the tokens, by Kind and Text, each at its place.
func TestWriteTakenAgain(t *testing.T) {
	d := dice(65)
	for range 20000 {
		l := d.row(9)
		line, e := Write(l)
		if e != api.OK {
			t.Fatalf("%v: %d", l, e)
		}
		// Where each one stands is how long the line of those ahead of it is, and the blank.
		want := slices.Clone(l)
		for i := 1; i < len(l); i++ {
			ahead, _ := Write(l[:i])
			want[i].At = len(ahead) + 1
		}
		if again, s := Tokens(line); s != (api.Spot{}) || !slices.Equal(again, want) {
			t.Fatalf("%q: %v, %v; not %v", line, again, s, want)
		}
	}
}

// P6.5, R3: what is handed in is not changed, the room behind its end neither.
func TestWriteChangesNothing(t *testing.T) {
	room := []api.Token{word("a", 3), str("b\n", 1), id("7", 2), num("x", 9), {Kind: 77, Text: "d", At: 4}}
	want := slices.Clone(room)
	if s, e := Write(room[:3]); s != `a "b\x0a" %7` || e != api.OK {
		t.Errorf("%q, %d", s, e)
	}
	if s, e := Write(room); s != "" || e != api.ErrArg {
		t.Errorf("%q, %d", s, e)
	}
	if !slices.Equal(room, want) {
		t.Errorf("%v", room)
	}
}

// P6.5, R1: very many tokens, and a very long one.
func TestWriteLarge(t *testing.T) {
	many := slices.Repeat([]api.Token{equals(0)}, 1<<20)
	if s, e := Write(many); len(s) != 2<<20-1 || e != api.OK {
		t.Errorf("%d bytes, %d", len(s), e)
	}
	if s, e := Write(append(many, word("", 0))); s != "" || e != api.ErrArg {
		t.Errorf("%d bytes, %d", len(s), e)
	}
	long := strings.Repeat("a", api.MaxText)
	if s, e := Write([]api.Token{word(long, 0), str(long, 0)}); len(s) != 2*api.MaxText+3 || e != api.OK {
		t.Errorf("%d bytes, %d", len(s), e)
	}
}
