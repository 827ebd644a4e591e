package lex

import (
	"slices"
	"strings"
	"testing"
	"unsafe"

	"intaglio/api"
)

// P6.1: the chapter's examples, and other texts.
func TestLines(t *testing.T) {
	for _, c := range []struct {
		text string
		want []string
	}{
		{"a\n\nb", []string{"a", "", "b"}},
		{"a\n", []string{"a"}},
		{"\n", []string{""}},
		{"", nil},
		{"a", []string{"a"}},
		{"a\nb", []string{"a", "b"}},
		{"a\nb\n", []string{"a", "b"}},
		{"\na", []string{"", "a"}},
		{"\n\n", []string{"", ""}},
		{"a\n\n", []string{"a", ""}},
		{"\n\n\nz\n\n", []string{"", "", "", "z", ""}},
		{"a\r\nb\r", []string{"a\r", "b\r"}},
		{"\r", []string{"\r"}},
		{" \n\t\n", []string{" ", "\t"}},
		{"a\vb\fc\x00d\u2028e\u0085f\x85", []string{"a\vb\fc\x00d\u2028e\u0085f\x85"}},
		{"\"a\nb\"", []string{"\"a", "b\""}},
		{";a\nb", []string{";a", "b"}},
		{"\xff\n\xc3\n\xa9", []string{"\xff", "\xc3", "\xa9"}},
		{"module 9 5\n%1 = OpTypeBool\n", []string{"module 9 5", "%1 = OpTypeBool"}},
	} {
		var want []numbered
		for i, s := range c.want {
			want = append(want, numbered{i + 1, s})
		}
		if l := linesOf(c.text); !slices.Equal(l, want) {
			t.Errorf("%q: %v", c.text, l)
		}
	}
}

// P6.1: all texts of some bytes up to a length, held against what stands between the bytes 10.
func TestLinesOfEveryText(t *testing.T) {
	everyRow([]string{"\n", "a", "\r", "\x00"}, 7, func(s string) {
		want := strings.Split(s, "\n")
		if want[len(want)-1] == "" {
			want = want[:len(want)-1]
		}
		l := linesOf(s)
		same := len(l) == len(want)
		for i := range l {
			same = same && l[i] == numbered{i + 1, want[i]}
		}
		if !same {
			t.Fatalf("%q: %v", s, l)
		}
	})
}

// P6.6: the lines, each with a byte 10 behind it, are the text, with one behind it, if it ends with none and is not empty.
func TestLinesAreTheText(t *testing.T) {
	back := func(s string) string {
		var b strings.Builder
		for _, l := range linesOf(s) {
			b.WriteString(l.line + "\n")
		}
		return b.String()
	}
	hold := func(s string) {
		want := s
		if s != "" && !strings.HasSuffix(s, "\n") {
			want += "\n"
		}
		if got := back(s); got != want {
			t.Fatalf("%q: %q", s, got)
		}
	}
	everyRow([]string{"\n", "ab", "\r", "\n\n"}, 6, hold)
	d := dice(61)
	for range 2000 {
		hold(strings.ReplaceAll(d.text(40), d.of("a", "\x07", "\xff"), "\n"))
	}
	hold(everyByte())
}

// P6.1, R6: an iterator may be left early, at any line, and gone through again, also while it is gone through.
func TestLinesLeftAndAgain(t *testing.T) {
	const text = "a\n\nb\nc"
	want := linesOf(text)
	lines := Lines(text)
	for stop := range len(want) + 1 {
		var l []numbered
		for n, s := range lines {
			if len(l) == stop {
				break
			}
			l = append(l, numbered{n, s})
		}
		if !slices.Equal(l, want[:stop]) {
			t.Errorf("left behind %d: %v", stop, l)
		}
	}
	var l []numbered
	for n, s := range lines {
		l = append(l, numbered{n, s})
		var inner []numbered
		for n, s := range lines {
			inner = append(inner, numbered{n, s})
		}
		if !slices.Equal(inner, want) {
			t.Errorf("within: %v", inner)
		}
	}
	if !slices.Equal(l, want) {
		t.Errorf("around: %v", l)
	}
}

// R5: an iterator may be gone through by several goroutines at one time.
func TestLinesByMany(t *testing.T) {
	text := strings.Repeat("a\nbb\n\n", 500)
	lines, want := Lines(text), linesOf(text)
	ends := make(chan bool)
	for range 8 {
		go func() {
			var l []numbered
			for n, s := range lines {
				l = append(l, numbered{n, s})
			}
			ends <- slices.Equal(l, want)
		}()
	}
	for range 8 {
		if !<-ends {
			t.Error("other lines")
		}
	}
}

// P6.1, R1: texts of as many bytes as a module's text may have.
func TestLinesOfLargeTexts(t *testing.T) {
	for _, c := range []struct {
		text string
		many int
	}{
		{strings.Repeat("\n", api.MaxText), api.MaxText},
		{strings.Repeat("a", api.MaxText), 1},
		{strings.Repeat("a\n", api.MaxText/2), api.MaxText / 2},
	} {
		many, last := 0, 0
		for n := range Lines(c.text) {
			many++
			last = n
		}
		if many != c.many || last != c.many {
			t.Errorf("%d lines, the last %d, not %d", many, last, c.many)
		}
	}
}

// shares says whether a text is a piece of another one's memory.
func shares(s, of string) bool {
	if s == "" || of == "" {
		return false
	}
	from := uintptr(unsafe.Pointer(unsafe.StringData(s)))
	room := uintptr(unsafe.Pointer(unsafe.StringData(of)))
	return room <= from && from < room+uintptr(len(of))
}

// R3: what is answered is new memory.
func TestAnswersShareNothing(t *testing.T) {
	text := strings.Repeat("abc %12 -7 \"d\" =\n", 2)
	for n, line := range Lines(text) {
		if shares(line, text) {
			t.Errorf("the line %d is a piece of the text", n)
		}
		l, _ := Tokens(line)
		for _, x := range l {
			if shares(x.Text, line) {
				t.Errorf("%v is a piece of the line", x)
			}
		}
		for _, x := range l {
			if s, _ := Write([]api.Token{x}); shares(s, x.Text) {
				t.Errorf("the line of %v is a piece of its Text", x)
			}
		}
	}
	line := strings.Repeat("a", 9)
	for _, again := range linesOf(line) {
		if shares(again.line, line) {
			t.Error("the one line is the text itself")
		}
	}
}
