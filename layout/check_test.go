package layout

import (
	"math"
	"slices"
	"strings"
	"testing"

	"intaglio/api"
	"intaglio/grammar"
)

// P5.1: the chapter's examples.
func TestCheckExamples(t *testing.T) {
	for _, c := range []struct {
		letters string
		s       api.Spot
	}{
		{"", api.Spot{Err: api.ErrOpen}},
		{"C", api.Spot{Err: api.ErrOpen, At: 1}},
		{"MC", api.Spot{Err: api.ErrOrder, At: 1}},
		{"MM", api.Spot{Err: api.ErrOrder, At: 1}},
		{"MFLRE", api.Spot{}},
		{"MFLR", api.Spot{Err: api.ErrOpen, At: 4}},
		{"MFE", api.Spot{Err: api.ErrOrder, At: 2}},
		{"MFPPLARLHRE", api.Spot{}},
		{"MFLHRE", api.Spot{Err: api.ErrOrder, At: 3}},
		{"MFLVAVRE", api.Spot{Err: api.ErrOrder, At: 5}},
		{"MFLSBR", api.Spot{Err: api.ErrOrder, At: 4}},
		{"MFLRA", api.Spot{Err: api.ErrOrder, At: 4}},
	} {
		if s := Check(module(c.letters)); s != c.s {
			t.Errorf("%s: %v", c.letters, s)
		}
	}
}

// P5.1: modules in order.
func TestCheckInOrder(t *testing.T) {
	for _, letters := range []string{
		"M", "CM", "CCCM", "MNXsndTG", "CCMNNXXssnnddTGTG", "CMT", "MG", "MGT",
		"MFLRE", "MFLREFLRE", "CMNXsndTGFPLVARLHARE",
		"MFPPPLKE", "MFLVVVRE", "MFLVAAARE", "MFLAUE", "MFLQE",
		"MFLBLBLRE", "MFLRLHHHRE", "MFLRLHAKE", "MFLRLRLHRE",
		"MFLSDE", "MFLSWE", "MFLOBE", "MFLODE", "MFLBE", "MFLDE", "MFLWE",
		"MFLVASDLHAOBLRE", "MFLREFPLVRLHREFLKE",
	} {
		if s := Check(module(letters)); s != (api.Spot{}) {
			t.Errorf("%s: %v", letters, s)
		}
	}
}

// P5.1: an instruction that can't stand where it does; of several the first.
func TestCheckOutOfOrder(t *testing.T) {
	for _, c := range []struct {
		name, letters string
		at            int
	}{
		{"no memory model ahead of a function", "FLRE", 0},
		{"none ahead of an entry point", "CN", 1},
		{"none ahead of an execution mode", "X", 0},
		{"none ahead of a text", "Cs", 1},
		{"none ahead of a name", "n", 0},
		{"none ahead of a decoration", "d", 0},
		{"none ahead of a type", "CCT", 2},
		{"none ahead of a variable", "G", 0},
		{"a second memory model", "MNM", 2},
		{"a second one behind a function", "MFLREM", 5},
		{"a capability behind the memory model", "CMC", 2},
		{"an entry point behind an execution mode", "MNXN", 3},
		{"an execution mode behind a text", "MXsX", 3},
		{"a text behind a name", "MsnsT", 3},
		{"a name behind a decoration", "Mndn", 3},
		{"a decoration behind a type", "MdTd", 3},
		{"a name behind a variable", "MGn", 2},
		{"a type behind a function", "MTFLRET", 6},
		{"a variable behind a function", "MFLREG", 5},
		{"a type among parameters", "MFPTLRE", 3},
		{"a type in a block", "MFLTRE", 3},
		{"a capability in a block", "MFLACRE", 4},
		{"a variable of the class Function outside", "MTV", 2},
		{"one ahead of the memory model", "V", 0},
		{"one among parameters", "MFVLRE", 2},
		{"one behind another instruction", "MFLAVRE", 4},
		{"one behind a merge", "MFLSVDE", 4},
		{"one in a later block", "MFLRLVRE", 5},
		{"one behind a phi", "MFLRLHVRE", 6},
		{"a variable of another class in a first block", "MFLGRE", 3},
		{"one behind a variable of the class Function", "MFLVGRE", 4},
		{"one in a later block", "MFLRLGRE", 5},
		{"a phi in the first block", "MFLHRE", 3},
		{"one behind a variable", "MFLVHRE", 4},
		{"one behind another instruction in the first block", "MFLAHRE", 4},
		{"one behind another instruction in a later block", "MFLRLHAHRE", 7},
		{"one behind a merge", "MFLRLSHDE", 6},
		{"a phi outside", "MH", 1},
		{"a parameter behind a label", "MFLPRE", 3},
		{"one behind another instruction", "MFLAPRE", 4},
		{"one behind an ender", "MFLRPE", 4},
		{"one outside", "MP", 1},
		{"a label in a block", "MFLLRE", 3},
		{"a block without an ender, ahead of another", "MFLALRE", 4},
		{"one without an ender, ahead of the function's end", "MFLAE", 4},
		{"a block of a label alone", "MFLE", 3},
		{"a label outside", "ML", 1},
		{"a label behind a merge", "MFLSLRE", 4},
		{"an instruction behind an ender", "MFLRARE", 4},
		{"an ender behind an ender", "MFLRRE", 4},
		{"a merge behind an ender", "MFLBSDE", 4},
		{"an instruction behind a merge", "MFLSADE", 4},
		{"a merge behind a merge", "MFLSSDE", 4},
		{"a loop's merge behind a selection's", "MFLSODE", 4},
		{"a function without a block", "MFE", 2},
		{"one with parameters", "MFPPE", 4},
		{"a body without a label", "MFRE", 2},
		{"an instruction without a label", "MFPARE", 3},
		{"a function without an end, ahead of another", "MFLRFLRE", 4},
		{"a function in a block", "MFLFLRE", 3},
		{"a function behind an OpFunction", "MFFLRE", 2},
		{"an end outside", "ME", 1},
		{"a second end", "MFLREE", 5},
		{"an instruction behind an end", "MFLREA", 5},
		{"an ender outside", "MR", 1},
		{"a merge outside", "MS", 1},
		{"the first of two", "MFLHRETC", 3},
		{"the first of two, ahead of what lacks", "MCFLR", 1},
	} {
		if s := Check(module(c.letters)); s != (api.Spot{Err: api.ErrOrder, At: c.at}) {
			t.Errorf("%s, %s: %v", c.name, c.letters, s)
		}
	}
}

// P5.1: a module that ends too early; the place is how many instructions there are.
func TestCheckOpen(t *testing.T) {
	for _, letters := range []string{
		"", "C", "CCC", "MF", "MFP", "MFPP", "MFL", "MFLV", "MFLA", "MFLVA", "MFLS", "MFLO", "MFLR", "MFLSD",
		"MFLRL", "MFLRLH", "MFLRLA", "MFLRLHAO", "MFLRLR", "MFLREF", "CMNXsndTGFLREFLR",
	} {
		if s := Check(module(letters)); s != (api.Spot{Err: api.ErrOpen, At: len(letters)}) {
			t.Errorf("%s: %v", letters, s)
		}
	}
}

// P5.1: each merge ahead of each ender, and no merge.
func TestCheckMergeAndEnder(t *testing.T) {
	for merge, allowed := range map[string]string{"": "BDWKRQU", "S": "DW", "O": "BD"} {
		for _, ender := range "BDWKRQU" {
			for _, front := range []string{"MFL", "MFLVA", "MFLRL", "MFLRLHA"} {
				var want api.Spot
				if !strings.ContainsRune(allowed, ender) {
					want = api.Spot{Err: api.ErrOrder, At: len(front) + 1}
				}
				letters := front + merge + string(ender) + "E"
				if s := Check(module(letters)); s != want {
					t.Errorf("%s: %v", letters, s)
				}
			}
		}
	}
}

// fronts are beginnings of modules in order, one of each kind at least.
var fronts = []string{
	"", "C", "M", "MN", "MX", "Ms", "Mn", "Md", "MT", "MG", "MF", "MFP", "MFL", "MFLV", "MFLA", "MFLVA", "MFLS", "MFLO", "MFLR",
	"MFLRL", "MFLRLH", "MFLRLA", "MFLRLHA", "MFLRLS", "MFLRLO", "MFLRLR", "MFLRE", "MTFLREF",
}

// P5.1: an instruction of every form behind each beginning, and of what is none.
func TestCheckEveryForm(t *testing.T) {
	for _, front := range fronts {
		for f := range grammar.All() {
			if f.Name == "OpVariable" {
				continue
			}
			m := module(front)
			m.Insts = append(m.Insts, sample(f, 0))
			if s := Check(m); s != verdict(front+letterOf(f)) {
				t.Errorf("%s, then %s: %v", front, f.Name, s)
			}
		}
		m := module(front + "?")
		if s := Check(m); s != (api.Spot{Err: api.ErrOp, At: len(front)}) {
			t.Errorf("%s, then no operation: %v", front, s)
		}
	}
}

// P5.1: an OpVariable of every class behind each beginning, with and without a value to begin with: an argument that is not the first says nothing of the class.
func TestCheckEveryClass(t *testing.T) {
	for _, front := range fronts {
		for class, letter := range map[uint32]string{1: "G", 3: "G", 6: "G", 7: "V"} {
			for _, args := range [][]api.Arg{{enum(class)}, {enum(class), id(7)}, {enum(class), id(3)}} {
				m := module(front)
				m.Insts = append(m.Insts, api.Inst{Op: 59, Type: 7, Result: 7, Args: args})
				if s := Check(m); s != verdict(front+letter) {
					t.Errorf("%s, then an OpVariable %v: %v", front, args, s)
				}
			}
		}
	}
}

// P5.1: all beginnings of modules in order, up to a length, and each instruction behind them; whatever stands behind an instruction out of order, it is told.
func TestCheckEveryBeginning(t *testing.T) {
	rows := 0
	var try func(letters string, more int)
	try = func(letters string, more int) {
		for _, c := range allLetters {
			next := letters + string(c)
			rows++
			s, want := Check(module(next)), verdict(next)
			if s != want {
				t.Fatalf("%s: %v, not %v", next, s, want)
			}
			if s.Err == api.ErrOrder {
				if s := Check(module(next + "EM")); s != want {
					t.Fatalf("%sEM: %v, not %v", next, s, want)
				}
			} else if more > 0 {
				try(next, more-1)
			}
		}
	}
	try("", 4)
	try("MFL", 4)
	try("MFLRL", 4)
	try("MFLRE", 4)
	if rows < 20000 {
		t.Errorf("only %d rows", rows)
	}
}

// P5.1: modules in order, with a letter changed, taken out or put in by chance.
func TestCheckChanged(t *testing.T) {
	d := dice(5)
	wrong := 0
	for range 5000 {
		l := []byte(planOf(&d).letters)
		at := d.below(len(l))
		c := allLetters[d.below(len(allLetters))]
		switch d.below(4) {
		case 0:
			l[at] = c
		case 1:
			l = slices.Delete(l, at, at+1)
		case 2:
			l = slices.Insert(l, at, c)
		case 3:
			l = l[:at]
		}
		s, want := Check(module(string(l))), verdict(string(l))
		if s != want {
			t.Fatalf("%s: %v, not %v", l, s, want)
		}
		if s.Err != api.OK {
			wrong++
		}
	}
	if wrong < 2000 {
		t.Errorf("only %d are wrong", wrong)
	}
}

// badShapes are modules that are not of good shape, and are out of order, or end too early, too.
func badShapes() map[string]struct {
	m api.Module
	s api.Spot
} {
	with := func(letters string, more ...api.Inst) api.Module {
		m := module(letters)
		m.Insts = append(m.Insts, more...)
		return m
	}
	unbound, overbound := module("MC"), module("MC")
	unbound.Bound, overbound.Bound = 0, api.MaxBound+1
	return map[string]struct {
		m api.Module
		s api.Spot
	}{
		"nothing":                                {api.Module{}, api.Spot{Err: api.ErrBound}},
		"no bound":                               {unbound, api.Spot{Err: api.ErrBound}},
		"a bound above the greatest":             {overbound, api.Spot{Err: api.ErrBound}},
		"no operation behind what is no order":   {module("MC?"), api.Spot{Err: api.ErrOp, At: 2}},
		"no operation":                           {with("MFL", api.Inst{Op: math.MaxUint16}), api.Spot{Err: api.ErrOp, At: 3}},
		"a variable without a class":             {with("MM", api.Inst{Op: 59, Type: 1, Result: 2}), api.Spot{Err: api.ErrOperand, At: 2}},
		"a variable whose class is a number":     {with("MFL", api.Inst{Op: 59, Type: 1, Result: 2, Args: []api.Arg{{Kind: api.ArgNumber, N: 7}}}), api.Spot{Err: api.ErrOperand, At: 3}},
		"a variable of no class":                 {with("MFL", api.Inst{Op: 59, Type: 1, Result: 2, Args: []api.Arg{enum(8)}}), api.Spot{Err: api.ErrEnum, At: 3}},
		"a label without an id":                  {with("MC", api.Inst{Op: 248}), api.Spot{Err: api.ErrResult, At: 2}},
		"a return with a type":                   {with("C", api.Inst{Op: 253, Type: 1}), api.Spot{Err: api.ErrType, At: 1}},
		"an id that is the bound":                {with("MC", api.Inst{Op: 248, Result: firstId + 2}), api.Spot{Err: api.ErrId, At: 2}},
		"a text with a byte 0":                   {with("MC", api.Inst{Op: 7, Result: 1, Args: []api.Arg{{Kind: api.ArgText, S: "\x00"}}}), api.Spot{Err: api.ErrNul, At: 2}},
		"too many words":                         {api.Module{Bound: 2, Insts: slices.Repeat([]api.Inst{{Op: 56}}, api.MaxWords)}, api.Spot{Err: api.ErrLarge, At: api.MaxWords - 5}},
		"of two that are not, the first":         {with("MFL", api.Inst{Op: 248}, api.Inst{Op: 22}), api.Spot{Err: api.ErrResult, At: 3}},
		"an instruction with too many arguments": {with("MF", api.Inst{Op: 56, Args: []api.Arg{id(1)}}), api.Spot{Err: api.ErrOperand, At: 2}},
	}
}

// P5.1, P5.2, P5.3: a module that is not of good shape; R2: nothing beside that.
func TestShapeFirst(t *testing.T) {
	for name, c := range badShapes() {
		if s := Check(c.m); s != c.s {
			t.Errorf("%s: Check: %v", name, s)
		}
		if p, s := Parts(c.m); s != c.s || p != [10]api.Span{} {
			t.Errorf("%s: Parts: %v, %v", name, p, s)
		}
		if l, s := Cut(c.m); s != c.s || len(l) != 0 {
			t.Errorf("%s: Cut: %v, %v", name, l, s)
		}
		for _, at := range []int{-1, 0, len(c.m.Insts)} {
			if f, b, s := Owner(c.m, at); s != c.s || f != 0 || b != 0 {
				t.Errorf("%s: Owner at %d: %d, %d, %v", name, at, f, b, s)
			}
		}
	}
}

// blocks are blocks of so many words: a label has two of them, a return one, a branch two.
func blocks(words int) string {
	branches := words % 3
	return strings.Repeat("LB", branches) + strings.Repeat("LR", (words-4*branches)/3)
}

// P5.1: as many words as a module may have, in order, out of it, and ending too early; one more.
func TestCheckAtLimit(t *testing.T) {
	// The head has 5 words, M 3, F 5, E 1.
	room := api.MaxWords - 5 - 3 - 5
	whole, open := "MF"+blocks(room-1)+"E", "MF"+blocks(room)
	for _, c := range []struct {
		name, letters string
		s             api.Spot
	}{
		{"blocks", whole, api.Spot{}},
		{"blocks, and a word more", whole + "E", api.Spot{Err: api.ErrLarge, At: len(whole)}},
		{"blocks without the function's end", open, api.Spot{Err: api.ErrOpen, At: len(open)}},
		{"ends", "MFLR" + strings.Repeat("E", room-3), api.Spot{Err: api.ErrOrder, At: 5}},
		{"enders", "MFL" + strings.Repeat("R", room-2), api.Spot{Err: api.ErrOrder, At: 4}},
		{"functions", "M" + strings.Repeat("FLRE", room/9), api.Spot{}},
	} {
		m := module(c.letters)
		m.Bound = firstId
		for at := range m.Insts {
			m.Insts[at].Result = min(m.Insts[at].Result, 1)
		}
		if s := Check(m); s != c.s {
			t.Errorf("%s: %v", c.name, s)
		}
	}
}

// P5.4: Ends, of every number.
func TestEnds(t *testing.T) {
	enders := []string{"OpBranch", "OpBranchConditional", "OpSwitch", "OpKill", "OpReturn", "OpReturnValue", "OpUnreachable"}
	count := 0
	for op := range math.MaxUint16 + 1 {
		f, _ := grammar.Of(uint16(op))
		if Ends(uint16(op)) != slices.Contains(enders, f.Name) {
			t.Errorf("%d %s", op, f.Name)
		}
		if Ends(uint16(op)) {
			count++
		}
	}
	if count != 7 {
		t.Errorf("%d enders", count)
	}
}
