package typing

import (
	"slices"

	"intaglio/api"
	"intaglio/consts"
	"intaglio/grammar"
)

// dice are numbers that look like chance, and are the same at every run.
type dice uint64

// below is a number below n.
func (d *dice) below(n int) int {
	*d = *d*6364136223846793005 + 1442695040888963407
	return int(uint64(*d)>>33) % n
}

// oneOf is one of some numbers.
func (d *dice) oneOf(l ...uint32) uint32 { return l[d.below(len(l))] }

// renaming are the numbers of a renaming.
func (d *dice) renaming(bound uint32) []uint32 {
	to := make([]uint32, bound)
	for i := range to {
		to[i] = uint32(i)
	}
	for i := len(to) - 1; i > 1; i-- {
		k := 1 + d.below(i)
		to[i], to[k] = to[k], to[i]
	}
	return to
}

// grower makes a module, instruction by instruction. Where what it draws may be anything one of so many things is; where that is 0 no instruction of a function is kept that does not fit.
type grower struct {
	*dice
	m     api.Module
	noise int
}

// module is a module made by chance, whose constants are sound.
func (d *dice) module(noise int) api.Module {
	g := grower{dice: d, m: read(slices.Clone(front)...).Module, noise: noise}
	for range 12 {
		g.declare()
	}
	for range 1 + d.below(3) {
		g.function()
	}
	return g.m
}

// add puts an instruction behind the others; if it makes an id that is a new one.
func (g *grower) add(i api.Inst) api.Inst {
	if f, _ := grammar.Of(i.Op); f.Result {
		i.Result = g.m.Bound
		g.m.Bound++
	}
	g.m.Insts = append(g.m.Insts, i)
	return i
}

// large is how many words the types may have of modules made by chance.
const large = 200

// declare puts a type more, a value of it, or a variable that holds one, if they may stand there.
func (g *grower) declare() {
	before := g.m
	var i api.Inst
	switch g.below(5) {
	case 0:
		i = g.add(inst(28, 0, 0, anId(g.typeOf("OpTypeBool", "OpTypeInt", "OpTypeVector", "OpTypeArray", "OpTypeStruct")), anId(g.madeBy("OpConstant"))))
	case 1, 2:
		i = g.add(inst(30, 0, 0))
		at := len(g.m.Insts) - 1
		for range 1 + g.below(3) {
			g.m.Insts[at].Args = append(g.m.Insts[at].Args, anId(g.typeOf("OpTypeInt", "OpTypeVector", "OpTypeArray", "OpTypeStruct")))
		}
	case 3:
		i = g.add(inst(32, 0, 0, anEnum(g.oneOf(1, 3, 6, 7)), anId(g.typeOf("OpTypeVector", "OpTypeArray", "OpTypeStruct"))))
	case 4:
		i = g.add(inst(33, 0, 0, anId(g.typeOf("OpTypeVoid", "OpTypeInt", "OpTypeVector", "OpTypeArray", "OpTypeStruct"))))
		at := len(g.m.Insts) - 1
		for range g.below(4) {
			g.m.Insts[at].Args = append(g.m.Insts[at].Args, anId(g.typeOf("OpTypeInt", "OpTypeArray", "OpTypeStruct", "OpTypePointer")))
		}
	}
	class, _, _ := saidPointer(g.m, i.Result)
	switch {
	case saidPlain(g.m, i.Result):
		g.add(inst(uint16(g.oneOf(1, 46)), i.Result, 0))
	case class != 0 && class != 7:
		g.add(inst(59, i.Result, 0, anEnum(class)))
	}
	if p, s := consts.New(g.m); s.Err != api.OK || p.Types().Size(i.Result) > large {
		g.m = before
	}
}

// madeBy is an id of those that are made by such operations.
func (g *grower) madeBy(names ...string) uint32 {
	var l []uint32
	for _, i := range g.m.Insts {
		if i.Result != 0 && (len(names) == 0 || slices.Contains(names, saidName(i))) {
			l = append(l, i.Result)
		}
	}
	return g.oneOf(l...)
}

// wild says whether what is drawn next may be anything.
func (g *grower) wild() bool { return g.noise > 0 && g.below(g.noise) == 0 }

// typeOf is a type that such an operation makes, or whatever else.
func (g *grower) typeOf(names ...string) uint32 {
	if g.wild() {
		return g.madeBy()
	}
	return g.madeBy(names...)
}

// such is an id whose type is such a one, or whatever else; so is it, if there is none.
func (g *grower) such(is func(typeId uint32) bool) uint32 {
	var l []uint32
	for _, i := range g.m.Insts {
		if i.Type != 0 && i.Op != 54 && is(i.Type) {
			l = append(l, i.Result)
		}
	}
	if len(l) == 0 || g.wild() {
		return g.madeBy()
	}
	return g.oneOf(l...)
}

// ofType is an id of a type.
func (g *grower) ofType(typeId uint32) uint32 {
	return g.such(func(other uint32) bool { return other == typeId })
}

// alike is an id of a type that is alike to that one.
func (g *grower) alike(typeId uint32) uint32 {
	return g.such(func(other uint32) bool { return saidAlike(g.m, other, typeId) })
}

// number is an id of a number's type.
func (g *grower) number() uint32 {
	return g.such(func(typeId uint32) bool { return saidIs(g.m, typeId, "OpTypeInt") })
}

// pointer is an id of a pointer's type, and that to which it points.
func (g *grower) pointer() (uint32, uint32) {
	p := g.such(func(typeId uint32) bool { return saidIs(g.m, typeId, "OpTypePointer") })
	_, to, _ := saidPointer(g.m, saidType(g.m, p))
	if to == 0 {
		to = g.madeBy()
	}
	return p, to
}

// truths, numbers are types of these.
func (g *grower) truths() uint32 { return g.rowOf("OpTypeBool") }

func (g *grower) numbers() uint32 { return g.rowOf("OpTypeInt") }

// rowOf is a type that such an operation makes, or a vector's with such parts.
func (g *grower) rowOf(name string) uint32 {
	for {
		typeId := g.madeBy(name, "OpTypeVector")
		if saidRow(g.m, typeId, name) {
			if g.wild() {
				typeId = g.madeBy()
			}
			return typeId
		}
	}
}

// function puts a function more.
func (g *grower) function() {
	f := g.madeBy("OpTypeFunction")
	parts := saidParts(g.m, f)
	answer := parts[0]
	if g.wild() {
		answer = g.madeBy()
	}
	if g.wild() {
		f = g.madeBy()
	}
	g.add(inst(54, answer, 0, anEnum(0), anId(f)))
	for _, typeId := range parts[1:] {
		if g.wild() {
			typeId = g.madeBy()
		}
		g.add(inst(55, typeId, 0))
	}
	if g.wild() {
		g.add(inst(55, g.madeBy(), 0))
	}
	label := g.add(inst(248, 0, 0)).Result
	for range g.below(5) {
		g.keep(g.room())
	}
	for range g.below(3) {
		g.line(10)
		g.keep(g.turn(label))
		label = g.add(inst(248, 0, 0)).Result
		for range g.below(3) {
			g.keep(g.phi(label))
		}
	}
	g.line(8)
	if end := g.end(answer); !g.keep(end) {
		g.add(inst(255, 0, 0))
	}
	g.add(inst(56, 0, 0))
}

// keep puts an instruction that may stand there, and says whether it did.
func (g *grower) keep(i api.Inst) bool {
	before := g.m
	g.add(i)
	if g.noise == 0 && !saidFits(g.m, len(g.m.Insts)-1) {
		g.m = before
		if layoutNeeds(i) {
			g.add(inst(249, 0, 0, anId(g.madeBy("OpLabel"))))
		}
		return false
	}
	return true
}

// layoutNeeds says whether another instruction must stand in the place of one that is not kept.
func layoutNeeds(i api.Inst) bool { return i.Op == 250 || i.Op == 251 }

// line puts up to so many instructions of a block.
func (g *grower) line(most int) {
	for range g.below(most + 1) {
		g.keep(g.drawn(g.operation()))
	}
}

// operation is the form of an operation that may stand within a block; some come more often.
func (g *grower) operation() api.Form {
	if g.below(6) == 0 {
		f, _ := grammar.Of(uint16(g.oneOf(57, 61, 62, 65, 128)))
		return f
	}
	var l []api.Form
	for f := range grammar.All() {
		if f.Part == 8 && (56 < f.Op && f.Op < 245) {
			l = append(l, f)
		}
	}
	return l[g.below(len(l))]
}

// room is a function's variable.
func (g *grower) room() api.Inst {
	var typeId, to uint32
	for {
		var class uint32
		typeId = g.madeBy("OpTypePointer")
		class, to, _ = saidPointer(g.m, typeId)
		if class == 7 || g.wild() {
			break
		}
	}
	if g.wild() {
		typeId = g.madeBy()
	}
	i := inst(59, typeId, 0, anEnum(7))
	if g.below(2) == 0 {
		i.Args = append(i.Args, anId(g.ofType(to)))
	}
	return i
}

// turn is the last instruction of a block, behind which there are others.
func (g *grower) turn(label uint32) api.Inst {
	switch g.below(4) {
	case 0:
		return inst(250, 0, 0, anId(g.such(func(typeId uint32) bool { return saidIs(g.m, typeId, "OpTypeBool") })), anId(label), anId(label))
	case 1:
		return inst(251, 0, 0, anId(g.number()), anId(label), aNumber(uint32(g.below(9))), anId(label))
	}
	return inst(249, 0, 0, anId(label))
}

// phi is a phi.
func (g *grower) phi(label uint32) api.Inst {
	i := inst(245, g.typeOf("OpTypeBool", "OpTypeInt", "OpTypeVector", "OpTypeArray", "OpTypeStruct"), 0)
	for range g.below(4) {
		i.Args = append(i.Args, anId(g.ofType(i.Type)), anId(label))
	}
	return i
}

// end is the last instruction of a function that answers such a thing.
func (g *grower) end(answer uint32) api.Inst {
	none := saidIs(g.m, answer, "OpTypeVoid")
	if g.wild() {
		none = !none
	}
	if none {
		return inst(253, 0, 0)
	}
	return inst(254, 0, 0, anId(g.ofType(answer)))
}

// drawn is an instruction of an operation; mostly it fits.
func (g *grower) drawn(f api.Form) api.Inst {
	i := inst(f.Op, 0, 0)
	name := func(l ...uint32) {
		for _, id := range l {
			i.Args = append(i.Args, anId(id))
		}
	}
	switch op := f.Op; {
	case op == 57:
		g.call(&i)
	case op == 61, op == 62:
		p, to := g.pointer()
		name(p)
		if i.Type = to; op == 62 {
			i.Type = 0
			name(g.ofType(to))
		}
	case op == 65:
		g.chain(&i)
	case op < 80:
		g.vector(&i)
	case op < 84:
		g.composite(&i)
	case op <= 126, 128 <= op && op <= 139, 194 <= op && op <= 200, op >= 204:
		i.Type = g.numbers()
		for range len(f.Fixed) {
			name(g.alike(i.Type))
		}
	case op >= 201:
		i.Type = g.numbers()
		for range len(f.Fixed) - 2 {
			name(g.alike(i.Type))
		}
		name(g.number(), g.number())
	case op <= 152:
		i.Type = g.typeOf("OpTypeStruct")
		if l := saidParts(g.m, i.Type); len(l) > 0 {
			name(g.alike(l[0]), g.alike(l[0]))
			break
		}
		name(g.madeBy(), g.madeBy())
	case op <= 155:
		i.Type = g.typeOf("OpTypeBool")
		name(g.such(func(typeId uint32) bool {
			return saidIs(g.m, typeId, "OpTypeVector") && saidRow(g.m, typeId, "OpTypeBool")
		}))
	case op <= 168:
		i.Type = g.truths()
		for range len(f.Fixed) {
			name(g.alike(i.Type))
		}
	case op == 169:
		i.Type = g.typeOf("OpTypeBool", "OpTypeInt", "OpTypeVector")
		name(g.asWide("OpTypeBool", i.Type), g.ofType(i.Type), g.ofType(i.Type))
	default:
		i.Type = g.truths()
		first := g.asWide("OpTypeInt", i.Type)
		name(first, g.alike(saidType(g.m, first)))
	}
	return i
}

// call makes a call, mostly of what the function's type says.
func (g *grower) call(i *api.Inst) {
	called := g.typeOf("OpFunction")
	i.Args = append(i.Args, anId(called))
	_, its := saidMaker(g.m, called)
	i.Type = g.madeBy()
	var l []uint32
	if its.Op == 54 {
		l = saidParts(g.m, its.Args[1].N)
	}
	for k, part := range l {
		if k == 0 {
			i.Type = part
		} else if !g.wild() {
			i.Args = append(i.Args, anId(g.ofType(part)))
		}
	}
	if g.wild() {
		i.Args = append(i.Args, anId(g.madeBy()))
	}
}

// asWide is an id of truths, or of numbers, as wide as a type.
func (g *grower) asWide(name string, as uint32) uint32 {
	return g.such(func(typeId uint32) bool { return saidRow(g.m, typeId, name) && saidWide(g.m, typeId, as) })
}

// chain makes an access chain, if there is a type for its pointer.
func (g *grower) chain(i *api.Inst) {
	p, to := g.pointer()
	i.Args = append(i.Args, anId(p))
	for g.below(4) > 0 && len(saidParts(g.m, to)) > 0 {
		l := saidParts(g.m, to)
		if !saidIs(g.m, to, "OpTypeStruct") {
			i.Args, to = append(i.Args, anId(g.number())), l[0]
			continue
		}
		index := g.typeOf("OpConstant")
		i.Args = append(i.Args, anId(index))
		k := len(l)
		if _, its := saidMaker(g.m, index); its.Op == 43 {
			k = int(its.Args[0].N)
		}
		if k >= len(l) {
			break
		}
		to = l[k]
	}
	class, _, _ := saidPointer(g.m, saidType(g.m, p))
	i.Type = g.typeOf("OpTypePointer")
	for _, x := range g.m.Insts {
		if x.Op == 32 && x.Args[0].N == class && x.Args[1].N == to && !g.wild() {
			i.Type = x.Result
		}
	}
}

// vector makes an instruction that is about vectors.
func (g *grower) vector(i *api.Inst) {
	whole := g.madeBy("OpTypeVector")
	part := saidParts(g.m, whole)[0]
	i.Type = whole
	if i.Op == 77 {
		i.Type = part
		i.Args = []api.Arg{anId(g.ofType(whole)), anId(g.number())}
		return
	}
	if i.Op == 78 {
		i.Args = []api.Arg{anId(g.ofType(whole)), anId(g.ofType(part)), anId(g.number())}
		return
	}
	beside := func(typeId uint32) bool {
		return saidIs(g.m, typeId, "OpTypeVector") && saidParts(g.m, typeId)[0] == part
	}
	a, b := g.such(beside), g.such(beside)
	i.Args = []api.Arg{anId(a), anId(b)}
	together := len(saidParts(g.m, saidType(g.m, a))) + len(saidParts(g.m, saidType(g.m, b)))
	for range saidParts(g.m, whole) {
		if !g.wild() {
			i.Args = append(i.Args, aNumber(uint32(g.below(together+1))))
		}
	}
}

// composite makes an instruction that is about parts of values, or of whole ones.
func (g *grower) composite(i *api.Inst) {
	i.Type = g.typeOf("OpTypeVector", "OpTypeArray", "OpTypeStruct")
	l := saidParts(g.m, i.Type)
	switch i.Op {
	case 80:
		for _, part := range l {
			i.Args = append(i.Args, anId(g.ofType(part)))
		}
		if g.wild() {
			i.Args = i.Args[:max(1, len(i.Args))-1]
		}
	case 81:
		i.Args = []api.Arg{anId(g.ofType(i.Type))}
		path, to := g.path(i.Type)
		i.Args, i.Type = append(i.Args, path...), to
	case 82:
		path, to := g.path(i.Type)
		i.Args = append([]api.Arg{anId(g.ofType(to)), anId(g.ofType(i.Type))}, path...)
	case 83:
		i.Args = []api.Arg{anId(g.ofType(i.Type))}
	}
}

// path is a path from a type, and where it leads; whatever else, where it leads nowhere.
func (g *grower) path(typeId uint32) ([]api.Arg, uint32) {
	var path []api.Arg
	for g.below(4) > 0 {
		l := saidParts(g.m, typeId)
		if len(l) == 0 {
			break
		}
		k := g.below(len(l))
		if g.wild() {
			return append(path, aNumber(uint32(len(l)+g.below(2)))), typeId
		}
		path, typeId = append(path, aNumber(uint32(k))), l[k]
	}
	return path, typeId
}
