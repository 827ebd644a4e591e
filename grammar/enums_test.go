package grammar

import (
	"iter"
	"math"
	"slices"
	"strings"
	"testing"
)

// collect goes through an iterator of enumerants, to the end or until so many were told.
func collect(all iter.Seq2[uint32, string], most int) []enumerant {
	var l []enumerant
	for n, name := range all {
		l = append(l, enumerant{n, name})
		if len(l) == most {
			break
		}
	}
	return l
}

// allBytes is each byte once.
func allBytes() []byte {
	l := make([]byte, 256)
	for i := range l {
		l[i] = byte(i)
	}
	return l
}

// nameIn is the name of a number in a letter's part of the table.
func nameIn(l []enumerant, n uint32) (string, bool) {
	for _, e := range l {
		if e.n == n {
			return e.name, true
		}
	}
	return "", false
}

// numberIn is the number of a name in a letter's part of the table.
func numberIn(l []enumerant, name string) (uint32, bool) {
	for _, e := range l {
		if e.name == name {
			return e.n, true
		}
	}
	return 0, false
}

// P3.4: Enum, by the chapter's words.
func TestEnumExamples(t *testing.T) {
	for _, c := range []struct {
		letter byte
		n      uint32
		name   string
		ok     bool
	}{
		{'c', 7, "Function", true},
		{'c', 2, "", false},
		{'c', 0, "", false},
		{'m', 1, "GLSL450", true},
		{'m', 0, "Simple", true},
		{'d', 30, "Location", true},
		{'d', 3, "", false},
		{'i', 0, "", false},
		{'n', 0, "", false},
		{'s', 0, "", false},
		{0, 0, "", false},
		{'C', 7, "", false},
		{'c', math.MaxUint32, "", false},
		{'c', 1<<31 + 7, "", false},
	} {
		if name, ok := Enum(c.letter, c.n); name != c.name || ok != c.ok {
			t.Errorf("Enum(%q, %d) = %s, %t", c.letter, c.n, name, ok)
		}
	}
}

// P3.4: Enum, of each letter and many numbers; R2: no bytes beside false.
func TestEnum(t *testing.T) {
	numbers := []uint32{1 << 8, 1<<8 + 1, 1 << 16, 1<<16 + 7, 1 << 31, math.MaxInt32, math.MaxUint32}
	for n := range uint32(200) {
		numbers = append(numbers, n)
	}
	for _, letter := range allBytes() {
		for _, n := range numbers {
			want, is := nameIn(enumerants()[letter], n)
			if name, ok := Enum(letter, n); name != want || ok != is {
				t.Errorf("Enum(%q, %d) = %s, %t", letter, n, name, ok)
			}
		}
	}
}

// P3.4: EnumNamed, by the chapter's words, and of names that are none.
func TestEnumNamedExamples(t *testing.T) {
	for _, c := range []struct {
		letter byte
		name   string
		n      uint32
		ok     bool
	}{
		{'d', "Flat", 14, true},
		{'c', "Flat", 0, false},
		{'d', "flat", 0, false},
		{'d', "Fla", 0, false},
		{'d', "Flat ", 0, false},
		{'d', "14:Flat", 0, false},
		{'d', "14", 0, false},
		{'d', "", 0, false},
		{'m', "GLSL450", 1, true},
		{'m', "GLSL", 0, false},
		{'l', "GLSL", 2, true},
		{'l', "GLSL450", 0, false},
		{'f', "None", 0, true},
		{'f', "Flatten", 0, false},
		{'i', "None", 0, false},
		{0, "None", 0, false},
		{0, "", 0, false},
	} {
		if n, ok := EnumNamed(c.letter, c.name); n != c.n || ok != c.ok {
			t.Errorf("EnumNamed(%q, %q) = %d, %t", c.letter, c.name, n, ok)
		}
	}
}

// P3.4: EnumNamed, of each letter and all names of all letters, and of names near them; R2: 0 beside false.
func TestEnumNamed(t *testing.T) {
	names := []string{"", ";", ":", "0:", "0", "\x00", strings.Repeat("None", 1<<16)}
	for _, l := range enumerants() {
		for _, e := range l {
			s := e.name
			names = append(names, s, strings.ToLower(s), strings.ToUpper(s), s[1:], s[:len(s)-1], s+"s", "s"+s, s+";", s+"\x00", ":"+s, " "+s, s+s)
		}
	}
	for _, letter := range allBytes() {
		for _, s := range names {
			want, is := numberIn(enumerants()[letter], s)
			if n, ok := EnumNamed(letter, s); n != want || ok != is {
				t.Errorf("EnumNamed(%q, %q) = %d, %t", letter, s, n, ok)
			}
		}
	}
}

// P3.4: Enums, of each letter, rising by the numbers.
func TestEnums(t *testing.T) {
	if n := len(enumerants()); n != 11 {
		t.Fatalf("%d letters in the table", n)
	}
	for _, letter := range allBytes() {
		l := collect(Enums(letter), -1)
		if !slices.Equal(l, enumerants()[letter]) {
			t.Errorf("Enums(%q): %v", letter, l)
		}
		if !slices.IsSortedFunc(l, func(a, b enumerant) int { return int(a.n) - int(b.n) }) {
			t.Errorf("Enums(%q): not rising: %v", letter, l)
		}
	}
}

// P3.4, R6: Enums, left early, gone through again, and gone through within itself.
func TestEnumsAgain(t *testing.T) {
	for letter, want := range enumerants() {
		all := Enums(letter)
		for _, most := range []int{1, -1, 1, len(want), -1} {
			n := most
			if most < 0 {
				n = len(want)
			}
			if l := collect(all, most); !slices.Equal(l, want[:n]) {
				t.Errorf("Enums(%q), at most %d: %v", letter, most, l)
			}
		}
		n := 0
		for range all {
			n += len(collect(all, -1))
		}
		if n != len(want)*len(want) {
			t.Errorf("Enums(%q), within itself: %d", letter, n)
		}
	}
}

// P3.5: EnumNamed of Enum's name is the number; a letter has enumerants just if Kind says so.
func TestEnumThereAndBack(t *testing.T) {
	for _, letter := range allBytes() {
		found := false
		for number := range uint32(200) {
			name, ok := Enum(letter, number)
			if !ok {
				continue
			}
			found = true
			if n, ok := EnumNamed(letter, name); n != number || !ok {
				t.Errorf("EnumNamed(%q, %s) = %d, %t", letter, name, n, ok)
			}
		}
		if found != (Kind(letter) == 4) {
			t.Errorf("Kind(%q) = %d", letter, Kind(letter))
		}
	}
}
