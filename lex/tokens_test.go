package lex

import (
	"slices"
	"strings"
	"testing"

	"intaglio/api"
)

// P6.2: the chapter's examples.
func TestTokensExamples(t *testing.T) {
	for _, c := range []struct {
		line string
		want []api.Token
		s    api.Spot
	}{
		{"%5 = OpIAdd %1 -1 ; sum", []api.Token{id("5", 0), equals(3), word("OpIAdd", 5), id("1", 12), num("-1", 15)}, api.Spot{}},
		{`"a\"\x41"7=_x`, []api.Token{str(`a"A`, 0), num("7", 9), equals(10), word("_x", 11)}, api.Spot{}},
		{"a%", nil, spot(api.ErrNumber, 1)},
		{"a %x", nil, spot(api.ErrNumber, 2)},
		{"%01", nil, spot(api.ErrNumber, 0)},
		{"1x", nil, spot(api.ErrNumber, 0)},
		{"a -", nil, spot(api.ErrNumber, 2)},
		{`"a`, nil, spot(api.ErrString, 0)},
		{`"\n"`, nil, spot(api.ErrString, 0)},
		{"a\x01", nil, spot(api.ErrSign, 1)},
		{"a.b", nil, spot(api.ErrSign, 1)},
		{`; "`, nil, api.Spot{}},
	} {
		holdTokens(t, c.line, c.want, c.s)
	}
}

// P6.2: lines without a fault.
func TestTokens(t *testing.T) {
	for line, want := range map[string][]api.Token{
		"":                nil,
		" ":               nil,
		"\t\r \r\t":       nil,
		";":               nil,
		" ; a":            nil,
		";;":              nil,
		";\x00\xff\n%x\"": nil,
		"a":               {word("a", 0)},
		"  a":             {word("a", 2)},
		"\ta\r":           {word("a", 1)},
		"a b":             {word("a", 0), word("b", 2)},
		"a\tb\rc d":       {word("a", 0), word("b", 2), word("c", 4), word("d", 6)},
		"a;b":             {word("a", 0)},
		"a ;b":            {word("a", 0)},
		"_":               {word("_", 0)},
		"_0":              {word("_0", 0)},
		"AZaz09__":        {word("AZaz09__", 0)},
		"x0x1":            {word("x0x1", 0)},
		"%0":              {id("0", 0)},
		"%7;8":            {id("7", 0)},
		"%4294967295":     {id("4294967295", 0)},
		"%1%2%3":          {id("1", 0), id("2", 2), id("3", 4)},
		"0":               {num("0", 0)},
		"4294967295":      {num("4294967295", 0)},
		"-1":              {num("-1", 0)},
		"-2147483648":     {num("-2147483648", 0)},
		"0x0":             {num("0x0", 0)},
		"0xabCDef09":      {num("0xabCDef09", 0)},
		"1-1-2":           {num("1", 0), num("-1", 1), num("-2", 3)},
		"=":               {equals(0)},
		"==":              {equals(0), equals(1)},
		"=;=":             {equals(0)},
		"%1=a":            {id("1", 0), equals(2), word("a", 3)},
		"a-1":             {word("a", 0), num("-1", 1)},
		"a%1":             {word("a", 0), id("1", 1)},
		"a=7":             {word("a", 0), equals(1), num("7", 2)},
		"7%7=7":           {num("7", 0), id("7", 1), equals(3), num("7", 4)},
		"%5-1":            {id("5", 0), num("-1", 2)},
		"0xf-1":           {num("0xf", 0), num("-1", 3)},
	} {
		holdTokens(t, line, want, api.Spot{})
	}
}

// P6.2: quoted texts.
func TestTokensQuoted(t *testing.T) {
	for line, want := range map[string][]api.Token{
		`""`:                 {str("", 0)},
		`" "`:                {str(" ", 0)},
		`"a"`:                {str("a", 0)},
		`"~!#"`:              {str("~!#", 0)},
		`"'[]^"`:             {str("'[]^", 0)},
		`"a;b"`:              {str("a;b", 0)},
		`";";"`:              {str(";", 0)},
		`"=%-7"`:             {str("=%-7", 0)},
		`"\""`:               {str(`"`, 0)},
		`"\\"`:               {str(`\`, 0)},
		`"\\\\"`:             {str(`\\`, 0)},
		`"\\\""`:             {str(`\"`, 0)},
		`"\\n"`:              {str(`\n`, 0)},
		`"\\x41"`:            {str(`\x41`, 0)},
		`"\x00"`:             {str("\x00", 0)},
		`"\x0a\x0A"`:         {str("\n\n", 0)},
		`"\xff\xFF\xfF"`:     {str("\xff\xff\xff", 0)},
		`"\x411"`:            {str("A1", 0)},
		`"\x22\x5c"`:         {str(`"\`, 0)},
		`"\x5cx41"`:          {str(`\x41`, 0)},
		`"\xc3\xa9"`:         {str("é", 0)},
		`""""`:               {str("", 0), str("", 2)},
		`"a"b"c"`:            {str("a", 0), word("b", 3), str("c", 4)},
		`x"a"7`:              {word("x", 0), str("a", 1), num("7", 4)},
		`%1"a"%2`:            {id("1", 0), str("a", 2), id("2", 5)},
		`="="=`:              {equals(0), str("=", 1), equals(4)},
		`"a" "b"`:            {str("a", 0), str("b", 4)},
		`OpName %3 "a\"" ;"`: {word("OpName", 0), id("3", 7), str(`a"`, 10)},
	} {
		holdTokens(t, line, want, api.Spot{})
	}
}

// P6.2: every byte as it is in a quoted text, at its beginning, within and at its end.
func TestTokensEveryByteInQuotes(t *testing.T) {
	for c := range 256 {
		s := string([]byte{byte(c)})
		for _, text := range []string{s, s + "a", "a" + s, "a" + s + "a"} {
			line := "=" + `"` + text + `"`
			switch {
			case c == '"' || c == '\\':
				continue // they stand behind a \ alone: below
			case 32 <= c && c <= 126:
				holdTokens(t, line, []api.Token{equals(0), str(text, 1)}, api.Spot{})
			default:
				holdTokens(t, line, nil, spot(api.ErrString, 1))
			}
		}
	}
	for _, c := range []string{`"`, `\`} {
		holdTokens(t, `="`+c+`"`, nil, spot(api.ErrString, map[string]int{`"`: 3, `\`: 1}[c]))
	}
}

// P6.2: every byte behind a \, and every byte as \x and two digits, small and great.
func TestTokensEveryByteBehindBackslash(t *testing.T) {
	for c := range 256 {
		s := string([]byte{byte(c)})
		if c == '"' || c == '\\' {
			holdTokens(t, `"a\`+s+`b"`, []api.Token{str("a"+s+"b", 0)}, api.Spot{})
		} else if c != 'x' {
			holdTokens(t, `"a\`+s+`b"`, nil, spot(api.ErrString, 0))
			holdTokens(t, `"a\`+s+`41"`, nil, spot(api.ErrString, 0))
		}
		for _, digits := range []string{smallDigits, greatDigits} {
			holdTokens(t, `"a`+hexOf(c, digits)+`b"`, []api.Token{str("a"+s+"b", 0)}, api.Spot{})
		}
		if !strings.Contains(smallDigits+greatDigits, s) {
			holdTokens(t, `"\x`+s+`1"`, nil, spot(api.ErrString, 0))
			holdTokens(t, `"\x1`+s+`"`, nil, spot(api.ErrString, 0))
		}
	}
}

// P6.2: each of the 256 bytes at a token's beginning, alone and behind others.
func TestTokensEveryByteBegins(t *testing.T) {
	for c := range 256 {
		s := string([]byte{byte(c)})
		var want []api.Token
		var fault api.Spot
		switch {
		case c == 9 || c == 13 || c == 32 || c == ';':
		case 'A' <= c && c <= 'Z' || 'a' <= c && c <= 'z' || c == '_':
			want = []api.Token{word(s, 0)}
		case '0' <= c && c <= '9':
			want = []api.Token{num(s, 0)}
		case c == '=':
			want = []api.Token{equals(0)}
		case c == '%' || c == '-':
			fault = spot(api.ErrNumber, 0)
		case c == '"':
			fault = spot(api.ErrString, 0)
		default:
			fault = spot(api.ErrSign, 0)
		}
		holdTokens(t, s, want, fault)
		for _, front := range []string{" ", "\t\t", "\r"} {
			there := slices.Clone(want)
			for i := range there {
				there[i].At += len(front)
			}
			place := fault
			if place.Err != api.OK {
				place.At += len(front)
			}
			holdTokens(t, front+s, there, place)
		}
		holdTokens(t, ";"+s, nil, api.Spot{})
	}
}

// P6.2: lines with a fault, and where it is told.
func TestTokensRefuses(t *testing.T) {
	for line, fault := range map[string]api.Spot{
		// A % without a plain number behind it.
		"%":               spot(api.ErrNumber, 0),
		"% 5":             spot(api.ErrNumber, 0),
		"a %;5":           spot(api.ErrNumber, 2),
		"%%5":             spot(api.ErrNumber, 0),
		"%-5":             spot(api.ErrNumber, 0),
		"%=":              spot(api.ErrNumber, 0),
		`%"5"`:            spot(api.ErrNumber, 0),
		"%a":              spot(api.ErrNumber, 0),
		"%_":              spot(api.ErrNumber, 0),
		"%5a":             spot(api.ErrNumber, 0),
		"%5_":             spot(api.ErrNumber, 0),
		"%00":             spot(api.ErrNumber, 0),
		"%0x1":            spot(api.ErrNumber, 0),
		"%4294967296":     spot(api.ErrNumber, 0),
		"=%99999999999":   spot(api.ErrNumber, 1),
		"%1 %2 %x %y":     spot(api.ErrNumber, 6),
		"%\xff":           spot(api.ErrNumber, 0),
		"%.":              spot(api.ErrNumber, 0),
		"7 4294967296":    spot(api.ErrNumber, 2),
		"a -0":            spot(api.ErrNumber, 2),
		"-2147483649":     spot(api.ErrNumber, 0),
		"= 0x":            spot(api.ErrNumber, 2),
		"0x123456789":     spot(api.ErrNumber, 0),
		"0xg":             spot(api.ErrNumber, 0),
		"0x_":             spot(api.ErrNumber, 0),
		"0X1":             spot(api.ErrNumber, 0),
		"00":              spot(api.ErrNumber, 0),
		"007":             spot(api.ErrNumber, 0),
		"-01":             spot(api.ErrNumber, 0),
		"7_":              spot(api.ErrNumber, 0),
		"7a":              spot(api.ErrNumber, 0),
		"-a":              spot(api.ErrNumber, 0),
		"-_":              spot(api.ErrNumber, 0),
		"-0x1":            spot(api.ErrNumber, 0),
		"- 1":             spot(api.ErrNumber, 0),
		"--1":             spot(api.ErrNumber, 0),
		"1--1":            spot(api.ErrNumber, 1),
		"-%1":             spot(api.ErrNumber, 0),
		"-;1":             spot(api.ErrNumber, 0),
		"-=":              spot(api.ErrNumber, 0),
		"a-":              spot(api.ErrNumber, 1),
		"a-b":             spot(api.ErrNumber, 1),
		"=-":              spot(api.ErrNumber, 1),
		`"`:               spot(api.ErrString, 0),
		`a "`:             spot(api.ErrString, 2),
		`"a;b`:            spot(api.ErrString, 0),
		`"a" "`:           spot(api.ErrString, 4),
		`"a"b"`:           spot(api.ErrString, 4),
		`"""`:             spot(api.ErrString, 2),
		`"\`:              spot(api.ErrString, 0),
		`"\"`:             spot(api.ErrString, 0),
		`"\\\"`:           spot(api.ErrString, 0),
		`"\ "`:            spot(api.ErrString, 0),
		`"\a"`:            spot(api.ErrString, 0),
		`"\t"`:            spot(api.ErrString, 0),
		`"\'"`:            spot(api.ErrString, 0),
		`"\0"`:            spot(api.ErrString, 0),
		`"\101"`:          spot(api.ErrString, 0),
		`"\u0041"`:        spot(api.ErrString, 0),
		`"\X41"`:          spot(api.ErrString, 0),
		`"\x"`:            spot(api.ErrString, 0),
		`"\x`:             spot(api.ErrString, 0),
		`"\x4"`:           spot(api.ErrString, 0),
		`"\x4`:            spot(api.ErrString, 0),
		`"\x41`:           spot(api.ErrString, 0),
		`"\xg1"`:          spot(api.ErrString, 0),
		`"\x1g"`:          spot(api.ErrString, 0),
		`"\x 1"`:          spot(api.ErrString, 0),
		`"\x-1"`:          spot(api.ErrString, 0),
		`"\x0x41"`:        spot(api.ErrString, 0),
		"\"\t\"":          spot(api.ErrString, 0),
		"\"\r\"":          spot(api.ErrString, 0),
		"\"a\nb\"":        spot(api.ErrString, 0),
		"\"é\"":           spot(api.ErrString, 0),
		"\"\x7f\"":        spot(api.ErrString, 0),
		"\"\x00\"":        spot(api.ErrString, 0),
		"a\n":             spot(api.ErrSign, 1),
		"\n":              spot(api.ErrSign, 0),
		"\v":              spot(api.ErrSign, 0),
		"\f":              spot(api.ErrSign, 0),
		"\x00":            spot(api.ErrSign, 0),
		"a \x7f":          spot(api.ErrSign, 2),
		"é":               spot(api.ErrSign, 0),
		"aé":              spot(api.ErrSign, 1),
		"\u00a0":          spot(api.ErrSign, 0),
		"+1":              spot(api.ErrSign, 0),
		"1+1":             spot(api.ErrSign, 1),
		"1.5":             spot(api.ErrSign, 1),
		"'a'":             spot(api.ErrSign, 0),
		`\`:               spot(api.ErrSign, 0),
		`a\"b"`:           spot(api.ErrSign, 1),
		"// a":            spot(api.ErrSign, 0),
		"#a":              spot(api.ErrSign, 0),
		"a:":              spot(api.ErrSign, 1),
		"$1":              spot(api.ErrSign, 0),
		"%1 = OpLabel %x": spot(api.ErrNumber, 13),
	} {
		holdTokens(t, line, nil, fault)
	}
}

// P6.2: of several faults the one that stands first, whatever stands behind it.
func TestTokensFirstFault(t *testing.T) {
	faults := []struct {
		text string
		e    api.Errno
	}{{"%x", api.ErrNumber}, {"007", api.ErrNumber}, {"-", api.ErrNumber}, {".", api.ErrSign}, {"\x01", api.ErrSign}, {`"\n`, api.ErrString}, {"\"\t", api.ErrString}, {`"\x1"`, api.ErrString}}
	for _, first := range faults {
		for _, second := range faults {
			for _, front := range []string{"", "a = ", `"b" `, "7="} {
				holdTokens(t, front+first.text+" "+second.text, nil, spot(first.e, len(front)))
			}
		}
	}
}

// P6.2: every line of some pieces up to a length, held against the patterns.
func TestTokensOfEveryLine(t *testing.T) {
	hold := func(s string) {
		want, fault := saidTokens(s)
		if l, e := Tokens(s); e != fault || !slices.Equal(l, want) {
			t.Fatalf("%q: %v, %v; not %v, %v", s, l, e, want, fault)
		}
	}
	everyRow([]string{"a", "x", "0", "1", "_", "%", "-", "\"", "\\", "=", ";", " ", "\n", ".", "\xc3"}, 4, hold)
	everyRow([]string{"\"", "\\", "x", "4", "B", " "}, 7, hold)
	everyRow([]string{"%", "-", "0", "9", "x", "4294967295", "\t"}, 6, hold)
	d := dice(62)
	for range 20000 {
		hold(d.line(false))
		hold(d.line(true))
		hold(d.text(8))
	}
}

// P6.6: Tokens of a line made by chance, written, and taken again are the same tokens.
func TestTokensWrittenAgain(t *testing.T) {
	d := dice(66)
	many := 0
	for range 20000 {
		line := d.line(false)
		l, s := Tokens(line)
		if s.Err != api.OK {
			continue // 1 and 2 right behind one another are 12, which may be too much
		}
		w, e := Write(l)
		again, s := Tokens(w)
		if e != api.OK || s.Err != api.OK || !slices.EqualFunc(l, again, alike) {
			t.Fatalf("%q, written %q (%d): %v, not %v (%v)", line, w, e, again, l, s)
		}
		many += len(l)
	}
	if many < 20000 {
		t.Errorf("only %d tokens", many)
	}
}

// R3: what is answered is new memory: lists of two calls share none, and what a caller does to one changes nothing.
func TestTokensAnew(t *testing.T) {
	const line = `%5 = OpName "a" 7 -1`
	l, _ := Tokens(line)
	want := slices.Clone(l)
	again, _ := Tokens(line)
	room := again[:cap(again)]
	for i := range room {
		room[i] = word("other", 99)
	}
	if !slices.Equal(l, want) {
		t.Errorf("%v", l)
	}
	holdTokens(t, line, want, api.Spot{})
}

// P6.2, R1: lines of as many bytes as a module's text may have, and lines of very many tokens.
func TestTokensOfLargeLines(t *testing.T) {
	const many = 1 << 20
	long := func(s string) string { return strings.Repeat(s, api.MaxText/len(s)) }
	for _, c := range []struct {
		line string
		many int
		s    api.Spot
	}{
		{long("a"), 1, api.Spot{}},
		{long(" "), 0, api.Spot{}},
		{long(";"), 0, api.Spot{}},
		{long(" ") + "=", 1, api.Spot{}},
		{long(" ") + ".", 0, spot(api.ErrSign, api.MaxText)},
		{long("1"), 0, spot(api.ErrNumber, 0)},
		{"%" + long("a"), 0, spot(api.ErrNumber, 0)},
		{`"` + long(`\x00`) + `"`, 1, api.Spot{}},
		{`"` + long(`\"`), 0, spot(api.ErrString, 0)},
		{strings.Repeat("=", many), many, api.Spot{}},
		{strings.Repeat("%1", many), many, api.Spot{}},
		{strings.Repeat(`""`, many), many, api.Spot{}},
		{strings.Repeat("-1", many), many, api.Spot{}},
		{strings.Repeat("=", many) + ".", 0, spot(api.ErrSign, many)},
	} {
		if l, s := Tokens(c.line); len(l) != c.many || s != c.s {
			t.Errorf("%q..: %d tokens, %v", c.line[:4], len(l), s)
		}
	}
}
