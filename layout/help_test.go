package layout

import (
	"regexp"
	"slices"
	"strings"

	"intaglio/api"
	"intaglio/grammar"
)

// id, enum: arguments.
func id(n uint32) api.Arg { return api.Arg{Kind: api.ArgId, N: n} }

func enum(n uint32) api.Arg { return api.Arg{Kind: api.ArgEnum, N: n} }

// inst is the instruction of a letter: the chapter's letters, and others for what it has no letter for. What an instruction makes has the id n.
func inst(letter rune, n uint32) api.Inst {
	switch letter {
	case 'C':
		return api.Inst{Op: 17, Args: []api.Arg{enum(1)}}
	case 'M':
		return api.Inst{Op: 14, Args: []api.Arg{enum(0), enum(0)}}
	case 'N': // OpEntryPoint
		return api.Inst{Op: 15, Args: []api.Arg{enum(4), id(1), {Kind: api.ArgText, S: "main"}}}
	case 'X': // OpExecutionMode
		return api.Inst{Op: 16, Args: []api.Arg{id(1), enum(7)}}
	case 's': // OpString
		return api.Inst{Op: 7, Result: n, Args: []api.Arg{{Kind: api.ArgText, S: "a"}}}
	case 'n': // OpName
		return api.Inst{Op: 5, Args: []api.Arg{id(1), {Kind: api.ArgText, S: "a"}}}
	case 'd': // OpDecorate
		return api.Inst{Op: 71, Args: []api.Arg{id(1), enum(14)}}
	case 'T': // OpTypeBool
		return api.Inst{Op: 20, Result: n}
	case 'G': // an OpVariable of the class Private
		return api.Inst{Op: 59, Type: 1, Result: n, Args: []api.Arg{enum(6)}}
	}
	return bodyInst(letter, n)
}

// bodyInst is the instruction of a letter of the part 8.
func bodyInst(letter rune, n uint32) api.Inst {
	switch letter {
	case 'F':
		return api.Inst{Op: 54, Type: 1, Result: n, Args: []api.Arg{enum(0), id(3)}}
	case 'P':
		return api.Inst{Op: 55, Type: 1, Result: n}
	case 'E':
		return api.Inst{Op: 56}
	case 'L':
		return api.Inst{Op: 248, Result: n}
	case 'V':
		return api.Inst{Op: 59, Type: 1, Result: n, Args: []api.Arg{enum(7)}}
	case 'H':
		return api.Inst{Op: 245, Type: 1, Result: n}
	case 'A':
		return api.Inst{Op: 128, Type: 1, Result: n, Args: []api.Arg{id(2), id(2)}}
	case 'S':
		return api.Inst{Op: 247, Args: []api.Arg{id(5), enum(0)}}
	case 'O': // OpLoopMerge
		return api.Inst{Op: 246, Args: []api.Arg{id(5), id(6), enum(0)}}
	case 'B':
		return api.Inst{Op: 249, Args: []api.Arg{id(5)}}
	case 'D': // OpBranchConditional
		return api.Inst{Op: 250, Args: []api.Arg{id(4), id(5), id(6)}}
	case 'W': // OpSwitch
		return api.Inst{Op: 251, Args: []api.Arg{id(4), id(5)}}
	case 'K': // OpKill
		return api.Inst{Op: 252}
	case 'R':
		return api.Inst{Op: 253}
	case 'Q': // OpReturnValue
		return api.Inst{Op: 254, Args: []api.Arg{id(4)}}
	case 'U': // OpUnreachable
		return api.Inst{Op: 255}
	}
	return api.Inst{Op: 22} // no operation
}

// allLetters are the letters of instructions.
const allLetters = "CMNXsndTGFPELVHASOBDWKRQU"

// firstId is the id that an instruction at the place 0 makes, if it makes one.
const firstId = 10

// module is one of a row of letters; what its instructions make has rising ids.
func module(letters string) api.Module {
	m := api.Module{Generator: 7, Bound: uint32(firstId + len(letters))}
	for at, c := range letters {
		m.Insts = append(m.Insts, inst(c, uint32(firstId+at)))
	}
	return m
}

// letterOf is a letter that stands for all instructions of a form, as the chapter has them.
func letterOf(f api.Form) string {
	named := map[uint16]string{54: "F", 55: "P", 56: "E", 245: "H", 246: "O", 247: "S", 248: "L", 249: "B", 250: "D", 251: "W", 252: "K", 253: "R", 254: "Q", 255: "U"}
	if s, ok := named[f.Op]; ok {
		return s
	}
	return string("CMNXsndTA"[f.Part])
}

// sample is an instruction of a form, with so many rows of Rest.
func sample(f api.Form, rows int) api.Inst {
	i := api.Inst{Op: f.Op}
	if f.Type {
		i.Type = 1
	}
	if f.Result {
		i.Result = 2
	}
	for _, letter := range []byte(f.Fixed + strings.Repeat(f.Rest, rows)) {
		a := api.Arg{Kind: grammar.Kind(letter)}
		switch a.Kind {
		case api.ArgId, api.ArgNumber:
			a.N = 3
		case api.ArgText:
			a.S = "main"
		default:
			a.N = least(letter)
		}
		i.Args = append(i.Args, a)
	}
	return i
}

// least is the least enumerant of a letter.
func least(letter byte) uint32 {
	for n := range grammar.Enums(letter) {
		return n
	}
	return 0
}

// order is the order of a module, as the chapter says it, over its letters.
var order = regexp.MustCompile(`^C*MN*X*s*n*d*[TG]*(FP*LV*A*(SD|SW|OB|OD|[BDWKRQU])(LH*A*(SD|SW|OB|OD|[BDWKRQU]))*E)*$`)

// begins says whether a module in order begins with these letters: what lacks is never more than what is tried here.
func begins(letters string) bool {
	for _, rest := range []string{"", "M", "LRE", "RE", "E", "DE"} {
		if order.MatchString(letters + rest) {
			return true
		}
	}
	return false
}

// verdict is what Check must answer, found as P5.1 has it.
func verdict(letters string) api.Spot {
	for at := range letters {
		if !begins(letters[:at+1]) {
			return api.Spot{Err: api.ErrOrder, At: at}
		}
	}
	if !order.MatchString(letters) {
		return api.Spot{Err: api.ErrOpen, At: len(letters)}
	}
	return api.Spot{}
}

// dice are numbers that look like chance, and are the same at every run.
type dice uint64

// below is a number below n.
func (d *dice) below(n int) int {
	*d = *d*6364136223846793005 + 1442695040888963407
	return int(uint64(*d)>>33) % n
}

// some is up to so many letters out of these.
func (d *dice) some(most int, letters string) string {
	var b strings.Builder
	for range d.below(most + 1) {
		b.WriteByte(letters[d.below(len(letters))])
	}
	return b.String()
}

// one is one of these.
func (d *dice) one(l ...string) string { return l[d.below(len(l))] }

// plan is a module in order, put together by chance, with what is known of it.
type plan struct {
	letters string
	parts   [10]api.Span
	funcs   []api.Func
	owners  [][2]int // of each place: the function, the block
}

// planOf puts one together.
func planOf(d *dice) plan {
	var p plan
	for part, s := range []string{d.some(2, "C"), "M", d.some(2, "N"), d.some(2, "X"), d.some(2, "s"), d.some(2, "n"), d.some(2, "d"), d.some(4, "TG")} {
		p.parts[part].From = len(p.letters)
		p.add(s, -1, -1)
		p.parts[part].To = len(p.letters)
	}
	p.parts[8].From = len(p.letters)
	for range d.below(4) {
		p.addFunction(d)
	}
	p.parts[8].To = len(p.letters)
	p.parts[9] = api.Span{From: len(p.letters), To: len(p.letters)}
	return p
}

// add adds letters, which stand in that function and that block.
func (p *plan) add(letters string, function, block int) {
	for range letters {
		p.owners = append(p.owners, [2]int{function, block})
	}
	p.letters += letters
}

// addFunction adds a function.
func (p *plan) addFunction(d *dice) {
	n := len(p.funcs)
	f := api.Func{Id: uint32(firstId + len(p.letters)), At: len(p.letters)}
	p.add("F", n, -1)
	for range d.below(4) {
		f.Params = append(f.Params, len(p.letters))
		p.add("P", n, -1)
	}
	heads := d.some(2, "V")
	for block := range 1 + d.below(4) {
		b := api.Block{Label: uint32(firstId + len(p.letters)), From: len(p.letters)}
		p.add("L"+heads+d.some(3, "A")+d.one("SD", "SW", "OB", "OD", "B", "D", "W", "K", "R", "Q", "U"), n, block)
		b.To = len(p.letters)
		f.Blocks = append(f.Blocks, b)
		heads = d.some(2, "H")
	}
	f.End = len(p.letters)
	p.add("E", n, -1)
	p.funcs = append(p.funcs, f)
}

// alikeFuncs holds functions against each other; nil and empty lists are one.
func alikeFuncs(a, b []api.Func) bool {
	return slices.EqualFunc(a, b, func(x, y api.Func) bool {
		return x.Id == y.Id && x.At == y.At && x.End == y.End && slices.Equal(x.Params, y.Params) && slices.Equal(x.Blocks, y.Blocks)
	})
}

// alikeModules holds modules against each other.
func alikeModules(a, b api.Module) bool {
	return a.Generator == b.Generator && a.Bound == b.Bound && slices.EqualFunc(a.Insts, b.Insts, func(x, y api.Inst) bool {
		return x.Op == y.Op && x.Type == y.Type && x.Result == y.Result && slices.Equal(x.Args, y.Args)
	})
}
