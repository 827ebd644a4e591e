package frame

import (
	"math"
	"slices"
	"testing"

	"intaglio/api"
)

// module is a head of the bound 5, and words behind it.
func module(more ...uint32) []uint32 {
	return append([]uint32{0x07230203, 0x00010000, 0, 5, 0}, more...)
}

// raw is an instruction.
func raw(op uint16, w ...uint32) api.Raw { return api.Raw{Op: op, Words: w} }

// sameRaws holds instructions against each other; nil and empty words are one.
func sameRaws(a, b []api.Raw) bool {
	return slices.EqualFunc(a, b, func(x, y api.Raw) bool {
		return x.Op == y.Op && slices.Equal(x.Words, y.Words)
	})
}

// fullModule is words of instructions without a fault, MaxWords and more of them.
func fullModule(more int) []uint32 {
	w := module()
	for len(w) < api.MaxWords+more {
		count := min(api.MaxCount, api.MaxWords+more-len(w))
		w = append(w, uint32(count)<<16|uint32(0x11))
		w = append(w, make([]uint32, count-1)...)
	}
	return w
}

// P2.1: words that are a module.
func TestRead(t *testing.T) {
	longest := append(module(0xffff0011), make([]uint32, api.MaxCount-1)...)
	for _, c := range []struct {
		name string
		w    []uint32
		h    api.Head
		l    []api.Raw
	}{
		{"the chapter's", module(0x00020011, 1, 0x000100fd), api.Head{Bound: 5}, []api.Raw{raw(0x11, 1), raw(0xfd)}},
		{"a head alone", module(), api.Head{Bound: 5}, nil},
		{"the least bound", []uint32{0x07230203, 0x00010000, 0, 1, 0}, api.Head{Bound: 1}, nil},
		{"the greatest bound", []uint32{0x07230203, 0x00010000, 0, 65536, 0}, api.Head{Bound: 65536}, nil},
		{"any generator", []uint32{0x07230203, 0x00010000, 0xffffffff, 2, 0}, api.Head{Generator: 0xffffffff, Bound: 2}, nil},
		{"the end at the last word", module(0x0003ffff, 0x00020011, 0xffffffff), api.Head{Bound: 5}, []api.Raw{raw(0xffff, 0x00020011, 0xffffffff)}},
		{"the operation 0", module(0x00010000, 0x00020000, 7), api.Head{Bound: 5}, []api.Raw{raw(0), raw(0, 7)}},
		{"the longest instruction", longest, api.Head{Bound: 5}, []api.Raw{raw(0x11, make([]uint32, api.MaxCount-1)...)}},
	} {
		if h, l, s := Read(c.w); h != c.h || !sameRaws(l, c.l) || s != (api.Spot{}) {
			t.Errorf("%s: %v, %d instructions, %v", c.name, h, len(l), s)
		}
	}
}

// P2.1: words that are none, with the place of what is wrong; R2: all else is zero beside it.
func TestReadRefuses(t *testing.T) {
	for _, c := range []struct {
		name string
		w    []uint32
		s    api.Spot
	}{
		{"nil", nil, api.Spot{Err: api.ErrEnd}},
		{"no words", []uint32{}, api.Spot{Err: api.ErrEnd}},
		{"one word", module()[:1], api.Spot{Err: api.ErrEnd, At: 1}},
		{"two words", module()[:2], api.Spot{Err: api.ErrEnd, At: 2}},
		{"three words", module()[:3], api.Spot{Err: api.ErrEnd, At: 3}},
		{"four words", module()[:4], api.Spot{Err: api.ErrEnd, At: 4}},
		{"the turned magic", []uint32{0x03022307}, api.Spot{Err: api.ErrSwapped}},
		{"the turned magic of a whole head", []uint32{0x03022307, 0x00000100, 9, 0, 1}, api.Spot{Err: api.ErrSwapped}},
		{"another magic", []uint32{7}, api.Spot{Err: api.ErrMagic}},
		{"the magic less one", []uint32{0x07230202, 0x00010000, 0, 5, 0}, api.Spot{Err: api.ErrMagic}},
		{"another version", []uint32{0x07230203, 0x00010100}, api.Spot{Err: api.ErrVersion, At: 1}},
		{"no version", []uint32{0x07230203, 0, 0, 0, 1}, api.Spot{Err: api.ErrVersion, At: 1}},
		{"no bound", []uint32{0x07230203, 0x00010000, 0, 0}, api.Spot{Err: api.ErrBound, At: 3}},
		{"a bound above the greatest", []uint32{0x07230203, 0x00010000, 0, 65537, 1}, api.Spot{Err: api.ErrBound, At: 3}},
		{"a huge bound", []uint32{0x07230203, 0x00010000, 0, 0xffffffff, 0}, api.Spot{Err: api.ErrBound, At: 3}},
		{"another schema", []uint32{0x07230203, 0x00010000, 9, 5, 1}, api.Spot{Err: api.ErrSchema, At: 4}},
		{"another schema ahead of a bad count", []uint32{0x07230203, 0x00010000, 9, 5, 1, 0}, api.Spot{Err: api.ErrSchema, At: 4}},
		{"more words than are left", module(0x00020011), api.Spot{Err: api.ErrCount, At: 5}},
		{"no words said", module(0x00000011), api.Spot{Err: api.ErrCount, At: 5}},
		{"no words said, others behind", module(0x00000011, 0x00010011), api.Spot{Err: api.ErrCount, At: 5}},
		{"the second says more than are left", module(0x00010011, 0x00030011, 1), api.Spot{Err: api.ErrCount, At: 6}},
		{"the last says no words", module(0x00030011, 1, 2, 0x000100fd, 0), api.Spot{Err: api.ErrCount, At: 9}},
		{"all that can be said, and one lacks", append(module(0xffff0011), make([]uint32, api.MaxCount-2)...), api.Spot{Err: api.ErrCount, At: 5}},
	} {
		if h, l, s := Read(c.w); h != (api.Head{}) || len(l) != 0 || s != c.s {
			t.Errorf("%s: %v, %d instructions, %v", c.name, h, len(l), s)
		}
	}
}

// P2.1: as many words as there may be, and more, which goes ahead of all else that is wrong.
func TestReadAtLimit(t *testing.T) {
	w := fullModule(0)
	h, l, s := Read(w)
	if len(w) != api.MaxWords || h.Bound != 5 || len(l) != 17 || s != (api.Spot{}) {
		t.Errorf("%d words: %v, %d instructions, %v", len(w), h, len(l), s)
	}
	over := api.Spot{Err: api.ErrLarge, At: api.MaxWords}
	for _, w := range [][]uint32{fullModule(1), fullModule(2), make([]uint32, api.MaxWords+1)} {
		if h, l, s := Read(w); h != (api.Head{}) || len(l) != 0 || s != over {
			t.Errorf("%d words: %v, %d instructions, %v", len(w), h, len(l), s)
		}
	}
	if _, _, s := Read(make([]uint32, api.MaxWords)); s != (api.Spot{Err: api.ErrMagic}) {
		t.Errorf("words 0: %v", s)
	}
}

// P2.2: Write.
func TestWrite(t *testing.T) {
	for _, c := range []struct {
		name string
		h    api.Head
		l    []api.Raw
		w    []uint32
		s    api.Spot
	}{
		{"the chapter's", api.Head{Bound: 5}, []api.Raw{raw(0x11, 1), raw(0xfd)}, module(0x00020011, 1, 0x000100fd), api.Spot{}},
		{"a head alone", api.Head{Bound: 5}, nil, module(), api.Spot{}},
		{"no instructions", api.Head{Bound: 5}, []api.Raw{}, module(), api.Spot{}},
		{"the least bound", api.Head{Bound: 1}, nil, []uint32{0x07230203, 0x00010000, 0, 1, 0}, api.Spot{}},
		{"the greatest bound", api.Head{Generator: 0xffffffff, Bound: 65536}, nil, []uint32{0x07230203, 0x00010000, 0xffffffff, 65536, 0}, api.Spot{}},
		{"any operation", api.Head{Bound: 5}, []api.Raw{raw(0xffff, 0xffffffff, 0), raw(0)}, module(0x0003ffff, 0xffffffff, 0, 0x00010000), api.Spot{}},
		{"no bound", api.Head{Generator: 9}, nil, nil, api.Spot{Err: api.ErrBound}},
		{"a bound above the greatest", api.Head{Bound: 65537}, []api.Raw{raw(0x11)}, nil, api.Spot{Err: api.ErrBound}},
		{"a bad bound ahead of a long instruction", api.Head{}, []api.Raw{raw(0), raw(0, make([]uint32, api.MaxCount)...)}, nil, api.Spot{Err: api.ErrBound}},
		{"the second one too long", api.Head{Bound: 5}, []api.Raw{raw(0), raw(0, make([]uint32, api.MaxCount)...)}, nil, api.Spot{Err: api.ErrCount, At: 1}},
		{"the first one too long", api.Head{Bound: 5}, []api.Raw{raw(0, make([]uint32, 1<<16)...), raw(0)}, nil, api.Spot{Err: api.ErrCount}},
	} {
		if w, s := Write(c.h, c.l); !slices.Equal(w, c.w) || s != c.s {
			t.Errorf("%s: %d words, %v", c.name, len(w), s)
		}
	}
}

// P2.2: the longest instruction.
func TestWriteLongest(t *testing.T) {
	long := raw(0x11, make([]uint32, api.MaxCount-1)...)
	long.Words[api.MaxCount-2] = 7
	w, s := Write(api.Head{Bound: 5}, []api.Raw{raw(0xfd), long})
	if s != (api.Spot{}) || len(w) != 6+api.MaxCount || w[6] != 0xffff0011 || w[len(w)-1] != 7 {
		t.Errorf("%d words, %v", len(w), s)
	}
}

// fullRaws is instructions that have, with a head, just as many words as there may be.
func fullRaws() []api.Raw {
	var l []api.Raw
	for range 16 {
		l = append(l, raw(0x11, make([]uint32, api.MaxCount-1)...))
	}
	return append(l, raw(0x12, make([]uint32, 10)...))
}

// P2.2, P2.5: as many words as there may be, and more; of one instruction its own length is asked first.
func TestWriteAtLimit(t *testing.T) {
	for _, c := range []struct {
		name string
		more []api.Raw
		n    int
		s    api.Spot
	}{
		{"as many as there may be", nil, api.MaxWords, api.Spot{}},
		{"one word more", []api.Raw{raw(0)}, 0, api.Spot{Err: api.ErrLarge, At: 17}},
		{"many more", []api.Raw{raw(0, 1, 2, 3), raw(0)}, 0, api.Spot{Err: api.ErrLarge, At: 17}},
		{"one too long behind the limit", []api.Raw{raw(0), raw(0, make([]uint32, api.MaxCount)...)}, 0, api.Spot{Err: api.ErrLarge, At: 17}},
		{"one too long at the limit", []api.Raw{raw(0, make([]uint32, api.MaxCount)...)}, 0, api.Spot{Err: api.ErrCount, At: 17}},
	} {
		l := append(fullRaws(), c.more...)
		if w, s := Write(api.Head{Bound: 1}, l); len(w) != c.n || s != c.s {
			t.Errorf("Write of %s: %d words, %v", c.name, len(w), s)
		}
		if n, e := Size(l); n != c.n || e != c.s.Err {
			t.Errorf("Size of %s: %d, %d", c.name, n, e)
		}
	}
}

// P2.5: Size.
func TestSize(t *testing.T) {
	for _, c := range []struct {
		name string
		l    []api.Raw
		n    int
		e    api.Errno
	}{
		{"the chapter's", []api.Raw{raw(0x11, 1), raw(0xfd)}, 8, api.OK},
		{"none", nil, 5, api.OK},
		{"the longest", []api.Raw{raw(0, make([]uint32, api.MaxCount-1)...)}, 5 + api.MaxCount, api.OK},
		{"one too long", []api.Raw{raw(0), raw(0, make([]uint32, api.MaxCount)...)}, 0, api.ErrCount},
	} {
		if n, e := Size(c.l); n != c.n || e != c.e {
			t.Errorf("%s: %d, %d", c.name, n, e)
		}
	}
}

// told is what an iterator tells.
type told struct {
	at  int
	raw api.Raw
}

// collect goes through an iterator, to the end or until so many were told.
func collect(all func(func(int, api.Raw) bool), most int) []told {
	var l []told
	for at, r := range all {
		l = append(l, told{at, r})
		if len(l) == most {
			break
		}
	}
	return l
}

// sameTold holds what was told against what must be.
func sameTold(a, b []told) bool {
	return slices.EqualFunc(a, b, func(x, y told) bool {
		return x.at == y.at && x.raw.Op == y.raw.Op && slices.Equal(x.raw.Words, y.raw.Words)
	})
}

// P2.3: Each.
func TestEach(t *testing.T) {
	for _, c := range []struct {
		name string
		w    []uint32
		l    []told
	}{
		{"the chapter's", module(0x00010011, 0x00030011, 1), []told{{5, raw(0x11)}}},
		{"all of them", module(0x000100fd, 0x00030011, 1, 2, 0x00020012, 3), []told{{5, raw(0xfd)}, {6, raw(0x11, 1, 2)}, {9, raw(0x12, 3)}}},
		{"up to one of no words", module(0x00020011, 1, 0x00000011, 0x00010011), []told{{5, raw(0x11, 1)}}},
		{"none at the front", module(0, 0x00010011), nil},
		{"any head", []uint32{0, 1, 2, 3, 4, 0x00020011, 9}, []told{{5, raw(0x11, 9)}}},
		{"nothing behind the head", module(), nil},
		{"nil", nil, nil},
		{"four words that could be instructions", []uint32{0x00010011, 0x00010011, 0x00010011, 0x00010011}, nil},
		{"five words that could be instructions", []uint32{0x00010011, 0x00010011, 0x00010011, 0x00010011, 0x00010011}, nil},
	} {
		if l := collect(Each(c.w), -1); !sameTold(l, c.l) {
			t.Errorf("%s: %v", c.name, l)
		}
	}
}

// P2.3: Each of more words than a module may have.
func TestEachPastLimit(t *testing.T) {
	l := collect(Each(append(fullModule(1), 0x000100fd)), -1)
	if last := l[len(l)-1]; len(l) != 18 || last.at != api.MaxWords+1 || last.raw.Op != 0xfd {
		t.Errorf("%d instructions, the last one at %d", len(l), last.at)
	}
}

// P2.3, R6: an iterator that is left early, gone through again, and gone through within itself.
func TestEachAgain(t *testing.T) {
	all := Each(module(0x000100fd, 0x00020011, 1, 0x000100fe))
	want := []told{{5, raw(0xfd)}, {6, raw(0x11, 1)}, {8, raw(0xfe)}}
	for _, most := range []int{1, 2, 3, -1, 1, -1} {
		l := collect(all, most)
		if most > 0 && !sameTold(l, want[:most]) || most < 0 && !sameTold(l, want) {
			t.Errorf("at most %d: %v", most, l)
		}
	}
	n := 0
	for range all {
		n += len(collect(all, -1))
	}
	if n != 9 {
		t.Errorf("within itself: %d", n)
	}
}

// P2.3, R3, R6: an iterator tells the words that were handed in, whatever becomes of that list ahead of going through it, or meanwhile.
func TestEachKeepsNothing(t *testing.T) {
	w := module(0x000100fd, 0x00020011, 1, 0x000100fe)
	want := []told{{5, raw(0xfd)}, {6, raw(0x11, 1)}, {8, raw(0xfe)}}
	all := Each(w)
	w[5] = 0x000100fc
	var l []told
	for at, r := range all {
		l = append(l, told{at, r})
		w[6], w[7], w[8] = 0, 0, 0
	}
	if !sameTold(l, want) {
		t.Errorf("%v", l)
	}
	if l = collect(all, -1); !sameTold(l, want) {
		t.Errorf("again: %v", l)
	}
}

// P2.4: Find.
func TestFind(t *testing.T) {
	w := module(0x000100fd, 0x00020011, 0x000100fd, 0x000100fd, 0x00010013, 0x00000014, 0x00010015)
	for _, c := range []struct {
		name  string
		w     []uint32
		op    uint16
		from  int
		at    int
		found bool
	}{
		{"from 0", w, 0xfd, 0, 5, true},
		{"from its place", w, 0xfd, 5, 5, true},
		{"from behind it", w, 0xfd, 6, 8, true},
		{"from within another", w, 0xfd, 7, 8, true},
		{"from behind the last one", w, 0xfd, 9, 0, false},
		{"another operation", w, 0x11, 0, 6, true},
		{"an operation of none", w, 0x12, 0, 0, false},
		{"the last that can be read", w, 0x13, 0, 9, true},
		{"one of no words", w, 0x14, 0, 0, false},
		{"one behind that", w, 0x15, 0, 0, false},
		{"from below 0", w, 0x13, -1, 9, true},
		{"from far below 0", w, 0xfd, math.MinInt, 5, true},
		{"from the end", w, 0xfd, len(w), 0, false},
		{"from behind the end", w, 0xfd, math.MaxInt, 0, false},
		{"no words", nil, 0, 0, 0, false},
		{"what looks like one in a head", module(), 0x0203, 0, 0, false},
	} {
		if at, found := Find(c.w, c.op, c.from); at != c.at || found != c.found {
			t.Errorf("%s: %d, %t", c.name, at, found)
		}
	}
}

// P2.6: Write of what Read answers, Read of what Write answers, and what Each tells of it.
func TestThereAndBack(t *testing.T) {
	h := api.Head{Generator: 0x12345678, Bound: 77}
	var l []api.Raw
	for i := range 60 {
		words := make([]uint32, i*i%13)
		for k := range words {
			words[k] = uint32(i*k+1) * 0x9e3779b1
		}
		l = append(l, raw(uint16(i*1093), words...))
		w, s := Write(h, l)
		if n, e := Size(l); s != (api.Spot{}) || n != len(w) || e != api.OK {
			t.Fatalf("%d: %d words, Size %d; %v, %d", i, len(w), n, s, e)
		}
		gotHead, got, s := Read(w)
		if gotHead != h || !sameRaws(got, l) || s != (api.Spot{}) {
			t.Fatalf("%d: Read: %v, %d instructions, %v", i, gotHead, len(got), s)
		}
		if again, _ := Write(gotHead, got); !slices.Equal(again, w) {
			t.Fatalf("%d: Write of what Read answers: %x", i, again)
		}
		wantEach(t, w, got)
	}
}

// wantEach asks Each for just those instructions, one behind the other.
func wantEach(t *testing.T, w []uint32, l []api.Raw) {
	t.Helper()
	at := 5
	var want []told
	for _, r := range l {
		want = append(want, told{at, r})
		at += 1 + len(r.Words)
	}
	if got := collect(Each(w), -1); !sameTold(got, want) {
		t.Fatalf("Each: %v", got)
	}
}

// R3: Read changes and keeps nothing, and each of its lists is memory of its own.
func TestReadMemoryIsApart(t *testing.T) {
	room := append(module(0x00020011, 1, 0x00030012, 2, 3, 0x000100fd), 8, 8)
	w := room[:len(room)-2]
	before := slices.Clone(room)
	_, l, _ := Read(w)
	_, other, _ := Read(w)
	for i := range l {
		_ = append(l[i].Words, 99, 99)
	}
	_ = append(l, raw(99))
	want := []api.Raw{raw(0x11, 1), raw(0x12, 2, 3), raw(0xfd)}
	if !sameRaws(l, want) || !slices.Equal(room, before) {
		t.Errorf("appended to: %v, %x", l, room)
	}
	l[0].Words[0] = 98
	if !sameRaws(l[1:], want[1:]) || !sameRaws(other, want) || !slices.Equal(room, before) {
		t.Errorf("changed: %v, %v, %x", l, other, room)
	}
	clear(room)
	if !sameRaws(other, want) {
		t.Errorf("the argument changed: %v", other)
	}
}

// R3: Each changes and gives out nothing of its argument, and each of its lists is memory of its own.
func TestEachMemoryIsApart(t *testing.T) {
	room := append(module(0x00020011, 1, 0x00030012, 2, 3, 0x000100fd), 8, 8)
	w := room[:len(room)-2]
	before := slices.Clone(room)
	want := []told{{5, raw(0x11, 1)}, {7, raw(0x12, 2, 3)}, {10, raw(0xfd)}}
	all := Each(w)
	i := 0
	for at, r := range all {
		if !sameTold([]told{{at, r}}, want[i:i+1]) {
			t.Errorf("%d: %v", at, r)
		}
		_ = append(r.Words, 99, 99)
		for k := range r.Words {
			r.Words[k] = 98
		}
		i++
	}
	if i != 3 || !slices.Equal(room, before) || !sameTold(collect(all, -1), want) {
		t.Errorf("%d told, %x", i, room)
	}
	l := collect(all, -1)
	clear(room)
	if !sameTold(l, want) {
		t.Errorf("the argument changed: %v", l)
	}
}

// R3: Write and Size change and keep nothing.
func TestWriteMemoryIsApart(t *testing.T) {
	room := []uint32{1, 2, 8, 8}
	l := []api.Raw{raw(0x11, room[:2]...), raw(0xfd)}
	l[0].Words = room[:2]
	w, _ := Write(api.Head{Bound: 5}, l)
	Size(l)
	want := module(0x00030011, 1, 2, 0x000100fd)
	if !slices.Equal(room, []uint32{1, 2, 8, 8}) || !sameRaws(l, []api.Raw{raw(0x11, 1, 2), raw(0xfd)}) {
		t.Errorf("%x, %v", room, l)
	}
	room[0] = 98
	if !slices.Equal(w, want) {
		t.Errorf("the argument changed: %x", w)
	}
	w[6] = 97
	_ = append(w, 99)
	if again, _ := Write(api.Head{Bound: 5}, l); room[0] != 98 || again[6] != 98 {
		t.Errorf("the answer changed: %x, %x", room, again)
	}
}

// R1: whatever the words are, all calls end, and agree on how far the instructions can be read.
func TestAnyWords(t *testing.T) {
	x := uint32(1)
	next := func() uint32 {
		x = x*1664525 + 1013904223
		return x >> 8
	}
	for range 2000 {
		w := module()
		for range next() % 24 {
			w = append(w, next()%5<<16|next()%3)
		}
		w = w[:int(next())%(len(w)+1)]
		_, l, s := Read(w)
		end := 5
		for at, r := range Each(w) {
			end = at + 1 + len(r.Words)
		}
		switch s.Err {
		case api.OK:
			wantEach(t, w, l)
		case api.ErrCount:
			if s.At != end {
				t.Fatalf("%x: %v, Each ends at %d", w, s, end)
			}
		case api.ErrEnd:
			if s.At != len(w) || len(w) >= 5 {
				t.Fatalf("%x: %v", w, s)
			}
		default:
			t.Fatalf("%x: %v", w, s)
		}
	}
}
