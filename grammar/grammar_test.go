package grammar

import (
	"iter"
	"math"
	"slices"
	"strings"
	"sync"
	"testing"

	"intaglio/api"
)

// formOf is the table's form of an operation, and whether there is one.
func formOf(op int) (api.Form, bool) {
	for _, f := range table() {
		if int(f.Op) == op {
			return f, true
		}
	}
	return api.Form{}, false
}

// take goes through an iterator, to the end or until so many were told.
func take(all iter.Seq[api.Form], most int) []api.Form {
	var l []api.Form
	for f := range all {
		l = append(l, f)
		if len(l) == most {
			break
		}
	}
	return l
}

// P3.1: Of, of all forms; of each other operation, R2: zero and false.
func TestOf(t *testing.T) {
	if n := len(table()); n != 93 {
		t.Fatalf("%d forms in the table", n)
	}
	all := map[uint16]api.Form{}
	for _, f := range table() {
		all[f.Op] = f
	}
	for op := range 1 << 16 {
		want, is := all[uint16(op)]
		if f, ok := Of(uint16(op)); f != want || ok != is {
			t.Errorf("Of(%d) = %v, %t", op, f, ok)
		}
	}
}

// P3.1: Of, by the chapter's words, and at the edges.
func TestOfExamples(t *testing.T) {
	for _, c := range []struct {
		op   uint16
		want api.Form
		ok   bool
	}{
		{128, api.Form{Op: 128, Name: "OpIAdd", Type: true, Result: true, Fixed: "ii", Part: 8}, true},
		{59, api.Form{Op: 59, Name: "OpVariable", Type: true, Result: true, Fixed: "c", Rest: "i", Most: 1, Part: 7}, true},
		{15, api.Form{Op: 15, Name: "OpEntryPoint", Fixed: "eis", Rest: "i", Part: 2}, true},
		{7, api.Form{Op: 7, Name: "OpString", Result: true, Fixed: "s", Part: 4}, true},
		{255, api.Form{Op: 255, Name: "OpUnreachable", Part: 8}, true},
		{1, api.Form{Op: 1, Name: "OpUndef", Type: true, Result: true, Part: 7}, true},
		{22, api.Form{}, false},
		{0, api.Form{}, false},
		{2, api.Form{}, false},
		{256, api.Form{}, false},
		{256 + 128, api.Form{}, false},
		{65535, api.Form{}, false},
	} {
		if f, ok := Of(c.op); f != c.want || ok != c.ok {
			t.Errorf("Of(%d) = %v, %t", c.op, f, ok)
		}
	}
}

// P3.1, P3.5: Named and Of of each form are that form.
func TestNamed(t *testing.T) {
	for _, want := range table() {
		if f, ok := Named(want.Name); f != want || !ok {
			t.Errorf("Named(%s) = %v, %t", want.Name, f, ok)
		}
		if f, ok := Of(want.Op); f != want || !ok {
			t.Errorf("Of(%d) = %v, %t", want.Op, f, ok)
		}
	}
}

// P3.1: names that are none, byte by byte; R2: zero and false.
func TestNamedRefuses(t *testing.T) {
	names := []string{"", "Op", "op", "opphi", "OPPHI", "Phi", "None", "OpNop", "OpTypeFloat", "OpFAdd", "/", "OpIAdd/tr", "OpIAdd/tr/ii//0/8", "\x00", "\xff", strings.Repeat("Op", 1<<16)}
	known := map[string]bool{}
	for _, f := range table() {
		known[f.Name] = true
	}
	for _, f := range table() {
		s := f.Name
		names = append(names, strings.ToLower(s), strings.ToUpper(s), s[1:], s[:len(s)-1], s[2:], "O"+s, s+"s", s+" ", " "+s, s+"/", s+"\x00", s+"\n", s+s)
	}
	for _, s := range names {
		if known[s] {
			continue
		}
		if f, ok := Named(s); f != (api.Form{}) || ok {
			t.Errorf("Named(%q) = %v, %t", s, f, ok)
		}
	}
}

// P3.1: All tells all forms, rising by Op.
func TestAll(t *testing.T) {
	l := take(All(), -1)
	if !slices.Equal(l, table()) {
		t.Errorf("%d forms: %v", len(l), l)
	}
	if !slices.IsSortedFunc(l, func(a, b api.Form) int { return int(a.Op) - int(b.Op) }) {
		t.Error("not rising")
	}
}

// P3.1, R6: All, left early, gone through again, and gone through within itself.
func TestAllAgain(t *testing.T) {
	all := All()
	for _, most := range []int{1, 2, 92, 93, 1, -1, 1, -1} {
		n := most
		if most < 0 {
			n = 93
		}
		if l := take(all, most); !slices.Equal(l, table()[:n]) {
			t.Errorf("at most %d: %v", most, l)
		}
	}
	n := 0
	for range all {
		n += len(take(all, -1))
	}
	if n != 93*93 {
		t.Errorf("within itself: %d", n)
	}
}

// P3.2: Kind, of each byte.
func TestKind(t *testing.T) {
	for _, letter := range allBytes() {
		want := uint8(0)
		switch {
		case letter == 'i':
			want = 1
		case letter == 'n':
			want = 2
		case letter == 's':
			want = 3
		case strings.IndexByte("kamexlcdfhg", letter) >= 0:
			want = 4
		}
		if kind := Kind(letter); kind != want {
			t.Errorf("Kind(%q) = %d", letter, kind)
		}
	}
}

// P3.2: Letter, by the chapter's words, and at the edges.
func TestLetter(t *testing.T) {
	for _, c := range []struct {
		op   uint16
		i    int
		want byte
	}{
		{251, 0, 'i'}, {251, 1, 'i'}, {251, 2, 'n'}, {251, 3, 'i'}, {251, 4, 'n'}, {251, 5, 'i'}, // OpSwitch
		{59, 0, 'c'}, {59, 1, 'i'}, {59, 2, 0}, {59, 3, 0}, {59, -1, 0}, {59, math.MaxInt, 0}, // OpVariable
		{128, 0, 'i'}, {128, 1, 'i'}, {128, 2, 0}, {128, -1, 0}, {128, math.MaxInt, 0}, // OpIAdd
		{15, 0, 'e'}, {15, 1, 'i'}, {15, 2, 's'}, {15, 3, 'i'}, {15, 4, 'i'}, // OpEntryPoint
		{71, 0, 'i'}, {71, 1, 'd'}, {71, 2, 'n'}, {71, 3, 'n'}, {71, -1, 0}, // OpDecorate
		{245, 0, 'i'}, {245, 1, 'i'}, {245, 65534, 'i'}, {245, math.MaxInt, 'i'}, {245, math.MinInt, 0}, // OpPhi
		{251, math.MaxInt, 'i'}, {251, math.MaxInt - 1, 'n'}, {251, math.MinInt, 0}, {251, -2, 0},
		{253, 0, 0}, {253, 1, 0}, {253, -1, 0}, // OpReturn
		{22, 0, 0}, {22, -1, 0}, {22, 1, 0}, {0, 0, 0}, {256, 0, 0}, {65535, 0, 0}, {65535, math.MaxInt, 0}, {22, math.MinInt, 0},
	} {
		if letter := Letter(c.op, c.i); letter != c.want {
			t.Errorf("Letter(%d, %d) = %q", c.op, c.i, letter)
		}
	}
}

// lettersOf is the letters that arguments of a form can have, with so many rows of Rest, or as many as Most allows.
func lettersOf(f api.Form, rows int) string {
	if f.Most != 0 {
		rows = min(rows, f.Most)
	}
	return f.Fixed + strings.Repeat(f.Rest, rows)
}

// P3.2: Letter, of all operations.
func TestLetterOfAll(t *testing.T) {
	for op := range 300 {
		f, _ := formOf(op)
		letters := lettersOf(f, 20)
		for i := -5; i < 20; i++ {
			want := byte(0)
			if 0 <= i && i < len(letters) {
				want = letters[i]
			}
			if letter := Letter(uint16(op), i); letter != want {
				t.Errorf("Letter(%d, %d) = %q", op, i, letter)
			}
		}
	}
	for op := 256; op < 1<<16; op++ {
		if letter := Letter(uint16(op), 0); letter != 0 {
			t.Errorf("Letter(%d, 0) = %q", op, letter)
		}
	}
}

// P3.3: Fits, by the chapter's words, and at the edges.
func TestFits(t *testing.T) {
	for _, c := range []struct {
		name  string
		op    uint16
		kinds []uint8
		n     int
		ok    bool
	}{
		{"Fixed", 128, []uint8{1, 1}, 0, true},
		{"the last of Fixed lacks", 128, []uint8{1}, 1, false},
		{"all of Fixed lacks", 128, nil, 0, false},
		{"one more than Fixed", 128, []uint8{1, 1, 1}, 2, false},
		{"another kind", 128, []uint8{1, 2}, 1, false},
		{"another kind at the front, and too many", 128, []uint8{3, 2, 1}, 0, false},
		{"the kind 0", 128, []uint8{0, 1}, 0, false},
		{"the kind 0 behind Fixed", 128, []uint8{1, 1, 0}, 2, false},
		{"a kind that is none", 128, []uint8{1, 5}, 1, false},
		{"a huge kind", 128, []uint8{255, 1}, 0, false},
		{"a letter as a kind", 128, []uint8{'i', 'i'}, 0, false},
		{"no rows", 245, nil, 0, true},
		{"an empty list", 245, []uint8{}, 0, true},
		{"within the first row", 245, []uint8{1}, 1, false},
		{"one row", 245, []uint8{1, 1}, 0, true},
		{"within the second row", 245, []uint8{1, 1, 1}, 3, false},
		{"two rows", 245, []uint8{1, 1, 1, 1}, 0, true},
		{"another kind within a row", 245, []uint8{1, 1, 1, 2, 1}, 3, false},
		{"Fixed without rows", 251, []uint8{1, 1}, 0, true},
		{"rows of two kinds", 251, []uint8{1, 1, 2, 1, 2, 1}, 0, true},
		{"within a row of two kinds", 251, []uint8{1, 1, 2, 1, 2}, 5, false},
		{"a row the other way round", 251, []uint8{1, 1, 1, 2}, 2, false},
		{"no row of at most one", 59, []uint8{4}, 0, true},
		{"one row of at most one", 59, []uint8{4, 1}, 0, true},
		{"two rows of at most one", 59, []uint8{4, 1, 1}, 2, false},
		{"the kind 0 behind Most rows", 59, []uint8{4, 1, 0}, 2, false},
		{"of at most one row, Fixed lacks", 59, nil, 0, false},
		{"another kind as the row", 59, []uint8{4, 2}, 1, false},
		{"a text", 5, []uint8{1, 3}, 0, true},
		{"an enumerant where a text must stand", 5, []uint8{1, 4}, 1, false},
		{"all kinds", 15, []uint8{4, 1, 3, 1, 1}, 0, true},
		{"nothing, where nothing may stand", 253, nil, 0, true},
		{"something, where nothing may stand", 253, []uint8{1}, 0, false},
		{"the kind 0, where nothing may stand", 253, []uint8{0}, 0, false},
		{"no operation, no kinds", 22, nil, 0, false},
		{"no operation", 22, []uint8{1, 1}, 0, false},
		{"no operation, the kind 0", 22, []uint8{0}, 0, false},
		{"the operation 0", 0, nil, 0, false},
		{"the operation 256", 256, nil, 0, false},
		{"the operation 65535", 65535, nil, 0, false},
	} {
		if n, ok := Fits(c.op, c.kinds); n != c.n || ok != c.ok {
			t.Errorf("%s: %d, %t", c.name, n, ok)
		}
	}
}

// fitting is what Fits must say, by the forms that kinds of that number can have at all.
func fitting(f api.Form, kinds []uint8) (int, bool) {
	kindOf := map[rune]uint8{'i': 1, 'n': 2, 's': 3}
	var can []uint8
	for _, c := range lettersOf(f, len(kinds)) {
		kind := kindOf[c]
		if kind == 0 {
			kind = 4
		}
		can = append(can, kind)
	}
	for i, kind := range kinds {
		if i >= len(can) || can[i] != kind {
			return i, false
		}
	}
	for rows := 0; rows <= len(kinds); rows++ {
		if len(lettersOf(f, rows)) == len(kinds) {
			return 0, true
		}
	}
	return len(kinds), false
}

// kindLists goes over all lists of so many kinds, those that are none among them.
func kindLists(n int) iter.Seq[[]uint8] {
	return func(yield func([]uint8) bool) {
		count := 1
		for range n {
			count *= 6
		}
		for x := range count {
			l := make([]uint8, n)
			for i := range l {
				l[i] = uint8(x % 6)
				x /= 6
			}
			if !yield(l) {
				return
			}
		}
	}
}

// P3.3: Fits, of all forms and all short lists of kinds.
func TestFitsOfAll(t *testing.T) {
	for _, f := range table() {
		for n := range 6 {
			for kinds := range kindLists(n) {
				wantN, want := fitting(f, kinds)
				if n, ok := Fits(f.Op, kinds); n != wantN || ok != want {
					t.Fatalf("Fits(%s, %v) = %d, %t", f.Name, kinds, n, ok)
				}
			}
		}
	}
}

// kindsOf is the kinds of letters.
func kindsOf(letters string) []uint8 {
	var l []uint8
	for _, c := range []byte(letters) {
		l = append(l, Kind(c))
	}
	return l
}

// P3.5: what fits, does so with one more row behind, if Most is 0 and Rest is not empty.
func TestFitsMoreRows(t *testing.T) {
	for _, f := range table() {
		kinds := kindsOf(f.Fixed)
		for rows := range 10 {
			n, ok := Fits(f.Op, kinds)
			want := rows == 0 || f.Rest != "" && (f.Most == 0 || rows <= f.Most)
			if ok != want || ok && n != 0 {
				t.Errorf("%s, %d rows: %d, %t", f.Name, rows, n, ok)
			}
			if f.Rest == "" {
				kinds = append(kinds, api.ArgId)
			}
			kinds = append(kinds, kindsOf(f.Rest)...)
		}
	}
}

// P3.5: what does not fit at a place does not, whatever stands behind that place.
func TestFitsWhateverBehind(t *testing.T) {
	for _, f := range table() {
		for kinds := range kindLists(3) {
			at, ok := Fits(f.Op, kinds)
			if ok || at == len(kinds) {
				continue
			}
			for behind := range kindLists(2) {
				l := append(slices.Clone(kinds[:at+1]), behind...)
				if n, ok := Fits(f.Op, l); n != at || ok {
					t.Fatalf("Fits(%s, %v) = %d, %t, where %v does not at %d", f.Name, l, n, ok, kinds, at)
				}
			}
		}
	}
}

// P3.3: Fits of a great many kinds.
func TestFitsLong(t *testing.T) {
	kinds := slices.Repeat([]uint8{1}, 1<<20)
	if n, ok := Fits(245, kinds); n != 0 || !ok {
		t.Errorf("whole rows: %d, %t", n, ok)
	}
	if n, ok := Fits(245, kinds[1:]); n != 1<<20-1 || ok {
		t.Errorf("a row that is not whole: %d, %t", n, ok)
	}
	kinds[1<<20-1] = 2
	if n, ok := Fits(245, kinds); n != 1<<20-1 || ok {
		t.Errorf("another kind at the end: %d, %t", n, ok)
	}
}

// R3: Fits changes nothing of what it is handed, nor the room behind it, and looks at no more than the list.
func TestFitsChangesNothing(t *testing.T) {
	room := []uint8{1, 1, 2, 1, 9, 9}
	before := slices.Clone(room)
	if n, ok := Fits(251, room[:4]); n != 0 || !ok {
		t.Errorf("%d, %t", n, ok)
	}
	if n, ok := Fits(251, room[:3]); n != 3 || ok {
		t.Errorf("%d, %t", n, ok)
	}
	if !slices.Equal(room, before) {
		t.Errorf("changed: %v", room)
	}
}

// R5: several goroutines may ask at one time.
func TestAskedAtOneTime(t *testing.T) {
	all := All()
	enums := Enums('f')
	var wait sync.WaitGroup
	faults := make([]bool, 8)
	for i := range faults {
		wait.Go(func() {
			for range 50 {
				f, ok := Named("OpPhi")
				named, _ := EnumNamed('d', "Flat")
				same := slices.Equal(take(all, -1), table()) && len(collect(enums, -1)) == 5
				faults[i] = faults[i] || !ok || f.Op != 245 || named != 14 || !same
			}
		})
	}
	wait.Wait()
	if slices.Contains(faults, true) {
		t.Errorf("%v", faults)
	}
}
