package layout

import (
	"math"
	"strings"
	"sync"
	"testing"

	"intaglio/api"
	"intaglio/code"
)

// span is the places from one on, up to another.
func span(from, to int) api.Span { return api.Span{From: from, To: to} }

// P5.2: a module's parts.
func TestParts(t *testing.T) {
	for _, c := range []struct {
		letters string
		want    [10]api.Span
	}{
		{"MFLRE", [10]api.Span{span(0, 0), span(0, 1), span(1, 1), span(1, 1), span(1, 1), span(1, 1), span(1, 1), span(1, 1), span(1, 5), span(5, 5)}},
		{"M", [10]api.Span{span(0, 0), span(0, 1), span(1, 1), span(1, 1), span(1, 1), span(1, 1), span(1, 1), span(1, 1), span(1, 1), span(1, 1)}},
		{"CCM", [10]api.Span{span(0, 2), span(2, 3), span(3, 3), span(3, 3), span(3, 3), span(3, 3), span(3, 3), span(3, 3), span(3, 3), span(3, 3)}},
		{"CMNXsndTFLRE", [10]api.Span{span(0, 1), span(1, 2), span(2, 3), span(3, 4), span(4, 5), span(5, 6), span(6, 7), span(7, 8), span(8, 12), span(12, 12)}},
		{"CCMNNNXsndddTGT", [10]api.Span{span(0, 2), span(2, 3), span(3, 6), span(6, 7), span(7, 8), span(8, 9), span(9, 12), span(12, 15), span(15, 15), span(15, 15)}},
		{"MXdFLREFLVRE", [10]api.Span{span(0, 0), span(0, 1), span(1, 1), span(1, 2), span(2, 2), span(2, 2), span(2, 3), span(3, 3), span(3, 12), span(12, 12)}},
		{"MNG", [10]api.Span{span(0, 0), span(0, 1), span(1, 2), span(2, 2), span(2, 2), span(2, 2), span(2, 2), span(2, 3), span(3, 3), span(3, 3)}},
	} {
		if p, s := Parts(module(c.letters)); s != (api.Spot{}) || p != c.want {
			t.Errorf("%s: %v, %v", c.letters, p, s)
		}
	}
}

// P5.2: a module's functions. What an instruction makes has the id 10 more than its place.
func TestCut(t *testing.T) {
	for _, c := range []struct {
		letters string
		want    []api.Func
	}{
		{"M", nil},
		{"CMNXsndTG", nil},
		{"MFLRE", []api.Func{{Id: 11, At: 1, Blocks: []api.Block{{Label: 12, From: 2, To: 4}}, End: 4}}},
		{"MFPPLARLHRE", []api.Func{{Id: 11, At: 1, Params: []int{2, 3}, Blocks: []api.Block{{Label: 14, From: 4, To: 7}, {Label: 17, From: 7, To: 10}}, End: 10}}},
		{"MFLREFPLSDLOBLQE", []api.Func{
			{Id: 11, At: 1, Blocks: []api.Block{{Label: 12, From: 2, To: 4}}, End: 4},
			{Id: 15, At: 5, Params: []int{6}, Blocks: []api.Block{{Label: 17, From: 7, To: 10}, {Label: 20, From: 10, To: 13}, {Label: 23, From: 13, To: 15}}, End: 15},
		}},
		{"MTGFLVVAASWE", []api.Func{{Id: 13, At: 3, Blocks: []api.Block{{Label: 14, From: 4, To: 11}}, End: 11}}},
	} {
		if l, s := Cut(module(c.letters)); s != (api.Spot{}) || !alikeFuncs(l, c.want) {
			t.Errorf("%s: %v, %v", c.letters, l, s)
		}
	}
}

// P5.2: what is told of a function are its ids as they stand: the same ones as often as they are made, small and great ones.
func TestCutIds(t *testing.T) {
	m := module("MFLRLREFLRE")
	m.Bound = api.MaxBound
	for _, at := range []int{1, 4, 7} {
		m.Insts[at].Result = api.MaxBound - 1
	}
	for _, at := range []int{2, 8} {
		m.Insts[at].Result = 1
	}
	want := []api.Func{
		{Id: api.MaxBound - 1, At: 1, Blocks: []api.Block{{Label: 1, From: 2, To: 4}, {Label: api.MaxBound - 1, From: 4, To: 6}}, End: 6},
		{Id: api.MaxBound - 1, At: 7, Blocks: []api.Block{{Label: 1, From: 8, To: 10}}, End: 10},
	}
	if l, s := Cut(m); s != (api.Spot{}) || !alikeFuncs(l, want) {
		t.Errorf("%v, %v", l, s)
	}
}

// P5.3: in which function and in which block an instruction stands.
func TestOwner(t *testing.T) {
	for _, c := range []struct {
		letters string
		want    [][2]int
	}{
		{"MFLRE", [][2]int{{-1, -1}, {0, -1}, {0, 0}, {0, 0}, {0, -1}}},
		{"MT", [][2]int{{-1, -1}, {-1, -1}}},
		{"MFPLARLHREFLSDE", [][2]int{{-1, -1}, {0, -1}, {0, -1}, {0, 0}, {0, 0}, {0, 0}, {0, 1}, {0, 1}, {0, 1}, {0, -1}, {1, -1}, {1, 0}, {1, 0}, {1, 0}, {1, -1}}},
	} {
		for at, want := range c.want {
			if f, b, s := Owner(module(c.letters), at); [2]int{f, b} != want || s != (api.Spot{}) {
				t.Errorf("%s at %d: %d, %d, %v", c.letters, at, f, b, s)
			}
		}
	}
}

// P5.3: what is the place of no instruction; R2: both are 0 beside it.
func TestOwnerRange(t *testing.T) {
	for _, letters := range []string{"M", "CMT", "MFLRE", "MFLREFLRE"} {
		for _, at := range []int{len(letters), len(letters) + 1, -1, -2, math.MaxInt, math.MinInt, math.MaxInt32} {
			if f, b, s := Owner(module(letters), at); f != 0 || b != 0 || s != (api.Spot{Err: api.ErrRange}) {
				t.Errorf("%s at %d: %d, %d, %v", letters, at, f, b, s)
			}
		}
	}
}

// P5.2, P5.3, R2: of a module that is not in order Check's error, ahead of a place that is none, and nothing beside it.
func TestOrderFirst(t *testing.T) {
	for _, letters := range []string{"", "C", "MC", "MM", "CMNTN", "MF", "MFLR", "MFE", "MFPLARLHR", "MFLREFLVAV", "MFLREFLSBE", "MFLREA"} {
		m, want := module(letters), verdict(letters)
		if want.Err == api.OK {
			t.Fatalf("%s is in order", letters)
		}
		if p, s := Parts(m); s != want || p != [10]api.Span{} {
			t.Errorf("%s: Parts: %v, %v", letters, p, s)
		}
		if l, s := Cut(m); s != want || len(l) != 0 {
			t.Errorf("%s: Cut: %v, %v", letters, l, s)
		}
		for _, at := range []int{-1, 0, 1, len(letters) - 1, len(letters), math.MaxInt} {
			if f, b, s := Owner(m, at); s != want || f != 0 || b != 0 {
				t.Errorf("%s: Owner at %d: %d, %d, %v", letters, at, f, b, s)
			}
		}
	}
}

// P5.1 to P5.3: modules in order, put together by chance.
func TestPlans(t *testing.T) {
	d := dice(1)
	for range 1000 {
		p := planOf(&d)
		m := module(p.letters)
		if s := Check(m); s != (api.Spot{}) {
			t.Fatalf("%s: %v", p.letters, s)
		}
		if parts, s := Parts(m); s != (api.Spot{}) || parts != p.parts {
			t.Fatalf("%s: Parts: %v, %v", p.letters, parts, s)
		}
		if l, s := Cut(m); s != (api.Spot{}) || !alikeFuncs(l, p.funcs) {
			t.Fatalf("%s: Cut: %v, %v", p.letters, l, s)
		}
		for at, want := range p.owners {
			if f, b, s := Owner(m, at); [2]int{f, b} != want || s != (api.Spot{}) {
				t.Fatalf("%s: Owner at %d: %d, %d, %v", p.letters, at, f, b, s)
			}
		}
	}
}

// P5.5: the parts are the instructions, one behind the other, and the functions are the ninth of them.
func TestPartsAreWhole(t *testing.T) {
	d := dice(2)
	for range 1000 {
		m := module(planOf(&d).letters)
		parts, _ := Parts(m)
		at := 0
		for _, p := range parts {
			if p.From != at || p.To < at {
				t.Fatalf("%v", parts)
			}
			at = p.To
		}
		if at != len(m.Insts) || parts[9] != span(at, at) {
			t.Fatalf("%v of %d", parts, len(m.Insts))
		}
		l, _ := Cut(m)
		at = parts[8].From
		for _, f := range l {
			if f.At != at {
				t.Fatalf("%v: %v", parts, l)
			}
			at = f.End + 1
		}
		if at != parts[8].To {
			t.Fatalf("%v: %v", parts, l)
		}
	}
}

// P5.5: instructions of the part 7 behind a module without functions.
func TestMoreOfPartSeven(t *testing.T) {
	d := dice(3)
	tried := 0
	for range 1000 {
		p := planOf(&d)
		more := p.letters + d.one("T", "G", "TG", "GGTT")
		want := api.Spot{}
		if len(p.funcs) > 0 {
			want = api.Spot{Err: api.ErrOrder, At: len(p.letters)}
		} else {
			tried++
		}
		if s := Check(module(more)); s != want {
			t.Fatalf("%s: %v", more, s)
		}
	}
	if tried < 100 {
		t.Errorf("only %d without functions", tried)
	}
}

// P5.5: the beginnings of a module in order, up to a function's end, and their functions.
func TestBeginnings(t *testing.T) {
	d := dice(4)
	for range 1000 {
		p := planOf(&d)
		m := module(p.letters)
		for n, f := range p.funcs {
			short := m
			short.Insts = m.Insts[:f.End+1]
			if l, s := Cut(short); s != (api.Spot{}) || !alikeFuncs(l, p.funcs[:n+1]) {
				t.Fatalf("%s: %v, %v", p.letters[:f.End+1], l, s)
			}
			short.Insts = m.Insts[:f.End]
			if s := Check(short); s != (api.Spot{Err: api.ErrOpen, At: f.End}) {
				t.Fatalf("%s: %v", p.letters[:f.End], s)
			}
		}
	}
}

// R3: what is handed in is neither changed nor kept, the room behind a list's end neither.
func TestKeepsApart(t *testing.T) {
	letters := "CMNGFPLVARLHREFPPLSDE"
	m := module(letters + "MM")
	whole := m.Insts
	m.Insts = whole[:len(letters)]
	parts, _ := Parts(m)
	l, _ := Cut(m)
	Check(m)
	Owner(m, 3)
	m.Insts = whole
	if !alikeModules(m, module(letters+"MM")) {
		t.Errorf("what is handed in is changed: %v", m)
	}
	for at := range whole {
		clear(whole[at].Args)
	}
	clear(whole)
	wantParts, _ := Parts(module(letters))
	want, _ := Cut(module(letters))
	if parts != wantParts || !alikeFuncs(l, want) {
		t.Errorf("what is handed in is kept: %v, %v", parts, l)
	}
}

// R3: no two lists of one answer share memory, the room behind their ends neither, and no two answers do.
func TestListsApart(t *testing.T) {
	m := module("MFPPPLRLRLREFPLRLREFLREFPPPPPLRLRLRLRLRE")
	want, _ := Cut(m)
	for n := range want {
		l, _ := Cut(m)
		params, blocks := l[n].Params, l[n].Blocks
		params, blocks = params[:cap(params)], blocks[:cap(blocks)]
		for i := range params {
			params[i] = -7
		}
		for i := range blocks {
			blocks[i] = api.Block{Label: 77, From: -7, To: -7}
		}
		l[n].Params, l[n].Blocks = want[n].Params, want[n].Blocks
		if !alikeFuncs(l, want) {
			t.Errorf("the lists of the function %d share memory with others: %v", n, l)
		}
		clear(l[:cap(l)])
		if again, _ := Cut(m); !alikeFuncs(again, want) {
			t.Errorf("an answer shares memory with a later one: %v", again)
		}
	}
}

// R1: every call ends, and none panics, at modules of any instructions; what is not of good shape is told first.
func TestAnyModule(t *testing.T) {
	d := dice(7)
	for range 20000 {
		m := api.Module{Bound: uint32(d.below(12))}
		for range d.below(8) {
			i := api.Inst{Op: uint16(d.below(260))}
			if d.below(2) == 0 {
				i = inst(rune(allLetters[d.below(len(allLetters))]), uint32(d.below(12)))
			}
			for range d.below(3) / 2 {
				i.Args = append(i.Args, api.Arg{Kind: uint8(d.below(6)), N: uint32(d.below(12)), S: strings.Repeat("a", d.below(5)/4)})
			}
			m.Insts = append(m.Insts, i)
		}
		s := Check(m)
		if shape := code.Shape(m); shape.Err != api.OK && s != shape {
			t.Fatalf("%v: %v, not %v", m, s, shape)
		}
		if _, p := Parts(m); p != s {
			t.Fatalf("%v: Parts: %v, not %v", m, p, s)
		}
		if _, c := Cut(m); c != s {
			t.Fatalf("%v: Cut: %v, not %v", m, c, s)
		}
		if _, _, o := Owner(m, 0); o != s {
			t.Fatalf("%v: Owner: %v, not %v", m, o, s)
		}
	}
}

// R3: nil and empty lists are one.
func TestNilAndEmpty(t *testing.T) {
	if s := Check(api.Module{Bound: 1, Insts: []api.Inst{}}); s != (api.Spot{Err: api.ErrOpen}) {
		t.Errorf("no instructions: %v", s)
	}
	if s := Check(api.Module{Bound: 1}); s != (api.Spot{Err: api.ErrOpen}) {
		t.Errorf("nil: %v", s)
	}
	m := module("MFLRE")
	m.Insts[3].Args, m.Insts[4].Args = []api.Arg{}, nil
	if s := Check(m); s != (api.Spot{}) {
		t.Errorf("no arguments: %v", s)
	}
}

// R5: what is answered hangs on the arguments alone, whatever was asked ahead, and whoever asks at the same time.
func TestAnswersHangOnArguments(t *testing.T) {
	m, bad := module("CMNGFPLVARLHREFPPLSDE"), module("MFPLVAV")
	wantParts, _ := Parts(m)
	want, _ := Cut(m)
	var all sync.WaitGroup
	for range 8 {
		all.Go(func() {
			for range 50 {
				if s := Check(bad); s != (api.Spot{Err: api.ErrOrder, At: 6}) {
					t.Errorf("Check: %v", s)
				}
				if parts, s := Parts(m); s != (api.Spot{}) || parts != wantParts {
					t.Errorf("Parts: %v, %v", parts, s)
				}
				if l, s := Cut(m); s != (api.Spot{}) || !alikeFuncs(l, want) {
					t.Errorf("Cut: %v, %v", l, s)
				}
				if f, b, s := Owner(m, 10); f != 0 || b != 1 || s != (api.Spot{}) {
					t.Errorf("Owner: %d, %d, %v", f, b, s)
				}
			}
		})
	}
	all.Wait()
}
