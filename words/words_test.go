package words

import (
	"bytes"
	"slices"
	"strings"
	"testing"

	"intaglio/api"
)

// P1.1: Split.
func TestSplit(t *testing.T) {
	for _, c := range []struct {
		name string
		b    []byte
		w    []uint32
		e    api.Errno
	}{
		{"a word", []byte{3, 2, 0x23, 7}, []uint32{0x07230203}, api.OK},
		{"two words", []byte{1, 2, 3, 4, 0xfc, 0xfd, 0xfe, 0xff}, []uint32{0x04030201, 0xfffefdfc}, api.OK},
		{"nil", nil, nil, api.OK},
		{"no bytes", []byte{}, nil, api.OK},
		{"one byte", []byte{1}, nil, api.ErrLength},
		{"two bytes", []byte{1, 2}, nil, api.ErrLength},
		{"three bytes", []byte{1, 2, 3}, nil, api.ErrLength},
		{"five bytes", []byte{1, 2, 3, 4, 5}, nil, api.ErrLength},
		{"one byte below the limit", make([]byte, 4*api.MaxWords-1), nil, api.ErrLength},
		{"one byte above the limit", make([]byte, 4*api.MaxWords+1), nil, api.ErrLarge},
		{"one word above the limit", make([]byte, 4*api.MaxWords+4), nil, api.ErrLarge},
	} {
		if w, e := Split(c.b); !slices.Equal(w, c.w) || e != c.e {
			t.Errorf("%s: %x, %d", c.name, w, e)
		}
	}
}

// P1.1: Split of as many bytes as there may be.
func TestSplitAtLimit(t *testing.T) {
	b := make([]byte, 4*api.MaxWords)
	b[len(b)-1] = 0x80
	w, e := Split(b)
	if e != api.OK || len(w) != api.MaxWords || w[0] != 0 || w[len(w)-1] != 0x80000000 {
		t.Errorf("%d words, %d", len(w), e)
	}
}

// P1.1: Join.
func TestJoin(t *testing.T) {
	for _, c := range []struct {
		w []uint32
		b []byte
	}{
		{[]uint32{0x07230203}, []byte{3, 2, 0x23, 7}},
		{[]uint32{0x04030201, 0xfffefdfc}, []byte{1, 2, 3, 4, 0xfc, 0xfd, 0xfe, 0xff}},
		{nil, nil},
		{[]uint32{}, nil},
	} {
		if b := Join(c.w); !bytes.Equal(b, c.b) {
			t.Errorf("Join(%x) = %x", c.w, b)
		}
	}
	many := make([]uint32, api.MaxWords+1)
	many[api.MaxWords] = 0x01020304
	if b := Join(many); len(b) != 4*len(many) || !bytes.HasSuffix(b, []byte{4, 3, 2, 1}) {
		t.Errorf("Join of %d words: %d bytes", len(many), len(b))
	}
}

// P1.1: Turned.
func TestTurned(t *testing.T) {
	for _, c := range [][2]uint32{{0x07230203, 0x03022307}, {0, 0}, {1, 0x01000000}, {0x0000ff00, 0x00ff0000}, {0xffffffff, 0xffffffff}} {
		if x := Turned(c[0]); x != c[1] {
			t.Errorf("Turned(%x) = %x", c[0], x)
		}
	}
}

// P1.2: Text.
func TestText(t *testing.T) {
	for _, c := range []struct {
		name string
		w    []uint32
		s    string
		n    int
		e    api.Errno
	}{
		{"ends at a word's end", []uint32{0x6e69616d, 0}, "main", 2, api.OK},
		{"ends within a word", []uint32{0x616d, 7}, "ma", 1, api.OK},
		{"ends with a word's last byte", []uint32{0x00636261}, "abc", 1, api.OK},
		{"no bytes", []uint32{0, 0x61616161}, "", 1, api.OK},
		{"the first end counts", []uint32{0x61, 0x62, 0}, "a", 1, api.OK},
		{"what stands behind is not looked at", []uint32{0x6e69616d, 0x73, 0xffffffff, 0x61616161}, "mains", 2, api.OK},
		{"bytes that are no letters", []uint32{0x8001ff80, 0x00000080}, "\x80\xff\x01\x80\x80", 2, api.OK},
		{"no words", nil, "", 0, api.ErrText},
		{"no byte 0", []uint32{0x61616161}, "", 0, api.ErrText},
		{"no byte 0 in two words", []uint32{0x61616161, 0x01010101}, "", 0, api.ErrText},
		{"a byte behind at 1", []uint32{0x00006100}, "", 0, api.ErrPad},
		{"a byte behind at 2", []uint32{0x00010000}, "", 0, api.ErrPad},
		{"a byte behind at 3", []uint32{0x61006161}, "", 0, api.ErrPad},
		{"a byte behind in the second word", []uint32{0x61616161, 0x80000061}, "", 0, api.ErrPad},
		{"a byte behind, and no more words that end", []uint32{0x01000061, 0x61616161}, "", 0, api.ErrPad},
	} {
		if s, n, e := Text(c.w); s != c.s || n != c.n || e != c.e {
			t.Errorf("%s: %q, %d, %d", c.name, s, n, e)
		}
	}
}

// P1.3: OfText.
func TestOfText(t *testing.T) {
	for _, c := range []struct {
		s string
		w []uint32
		e api.Errno
	}{
		{"main", []uint32{0x6e69616d, 0}, api.OK},
		{"", []uint32{0}, api.OK},
		{"abc", []uint32{0x00636261}, api.OK},
		{"abcde", []uint32{0x64636261, 0x65}, api.OK},
		{"\xff\x80\xc3\xa4", []uint32{0xa4c380ff, 0}, api.OK},
		{"\x00", nil, api.ErrNul},
		{"a\x00", nil, api.ErrNul},
		{"\x00abcd", nil, api.ErrNul},
		{"abcd\x00abc", nil, api.ErrNul},
	} {
		if w, e := OfText(c.s); !slices.Equal(w, c.w) || e != c.e {
			t.Errorf("OfText(%q) = %x, %d", c.s, w, e)
		}
	}
}

// P1.3: a text of as many words as there may be, and one more.
func TestOfTextAtLimit(t *testing.T) {
	most := strings.Repeat("a", 4*api.MaxCount-1)
	if w, e := OfText(most); e != api.OK || len(w) != api.MaxCount || Room(most) != api.MaxCount || w[len(w)-1] != 0x00616161 {
		t.Errorf("Room at MaxCount: %d words, %d", len(w), e)
	}
	more := most + "a"
	if w, e := OfText(more); e != api.ErrLarge || len(w) != 0 || Room(more) != api.MaxCount+1 {
		t.Errorf("Room above MaxCount: %d words, %d", len(w), e)
	}
	if w, e := OfText(more + "\x00"); e != api.ErrNul || len(w) != 0 {
		t.Errorf("a byte 0 goes ahead of the limit: %d words, %d", len(w), e)
	}
}

// P1.3: Room, whatever bytes there are.
func TestRoom(t *testing.T) {
	for s, n := range map[string]int{"": 1, "a": 1, "abc": 1, "abcd": 2, "abcdefg": 2, "abcdefgh": 3, "\x00": 1, "\x00\x00\x00\x00": 2, "\xff\xff\xff\xff": 2} {
		if Room(s) != n {
			t.Errorf("Room(%q) = %d", s, Room(s))
		}
	}
}

// P1.5: Split and Join undo each other, and so does Turned itself.
func TestThereAndBack(t *testing.T) {
	b := []byte{}
	for i := range 64 {
		w, e := Split(b)
		if e != api.OK || len(w) != i || !bytes.Equal(Join(w), b) {
			t.Fatalf("Join of Split of %x: %x, %d", b, w, e)
		}
		for range 4 {
			b = append(b, byte(len(b)*37+11))
		}
	}
	w := make([]uint32, api.MaxWords)
	for i := range w {
		w[i] = uint32(i) * 0x9e3779b1
		if Turned(Turned(w[i])) != w[i] {
			t.Fatalf("Turned of Turned of %x", w[i])
		}
	}
	if again, e := Split(Join(w)); e != api.OK || !slices.Equal(again, w) {
		t.Errorf("Split of Join: %d words, %d", len(again), e)
	}
}

// P1.5: a text is found again, whatever stands behind it.
func TestTextThereAndBack(t *testing.T) {
	for n := range 40 {
		b := make([]byte, n)
		for i := range b {
			b[i] = byte(1 + (i*89+n*7)%255)
		}
		s := string(b)
		w, e := OfText(s)
		if e != api.OK || len(w) != Room(s) {
			t.Fatalf("OfText(%q) = %x, %d", s, w, e)
		}
		for _, behind := range [][]uint32{nil, {0}, {1}, {0xffffffff, 0}, {0x00010000}} {
			if got, k, e := Text(append(slices.Clone(w), behind...)); got != s || k != Room(s) || e != api.OK {
				t.Errorf("Text of OfText(%q) and %x: %q, %d, %d", s, behind, got, k, e)
			}
		}
	}
}

// R3: what is handed in is not changed, the room behind its end neither, and what is answered is new memory.
func TestMemoryIsApart(t *testing.T) {
	b := []byte{1, 2, 3, 4, 5, 6, 7, 8}
	w1, _ := Split(b[:4])
	w2, _ := Split(b[:4])
	_ = append(w1, 99)
	w1[0] = 99
	if !bytes.Equal(b, []byte{1, 2, 3, 4, 5, 6, 7, 8}) || w2[0] != 0x04030201 {
		t.Errorf("Split: %x, %x", b, w2)
	}
	w := []uint32{0x61, 0x62, 0x63}
	b1, b2 := Join(w[:1]), Join(w[:1])
	_ = append(b1, 99, 99, 99, 99)
	b1[0] = 99
	if _, _, e := Text(w[:1]); e != api.OK {
		t.Errorf("Text: %d", e)
	}
	if !slices.Equal(w, []uint32{0x61, 0x62, 0x63}) || !bytes.Equal(b2, []byte{0x61, 0, 0, 0}) {
		t.Errorf("Join, Text: %x, %x", w, b2)
	}
	t1, _ := OfText("abc")
	t2, _ := OfText("abc")
	t1[0] = 99
	if t2[0] != 0x00636261 {
		t.Errorf("OfText: %x", t2)
	}
}
