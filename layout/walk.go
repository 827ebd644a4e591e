package layout

import "intaglio/api"

// walk goes over a module's instructions, and notes its parts and its functions on the way.
type walk struct {
	insts []api.Inst
	parts [10]api.Span
	funcs []api.Func

	// The instruction that is next: its place, its part, its kind. None ahead of it is out of order.
	at   int
	part uint8
	kind kind
}

// look sees what is next.
func (w *walk) look() {
	w.part, w.kind = endPart, foreign
	if w.at == len(w.insts) {
		return
	}
	i := w.insts[w.at]
	w.part = partOf(i)
	if w.part == functionsPart {
		w.kind = kindOf(i.Op)
	}
}

// step goes on by an instruction.
func (w *walk) step() {
	w.at++
	w.look()
}

// fault is what is wrong with a module whose instructions can't go on by the next one.
func (w *walk) fault() api.Spot {
	if w.part == endPart {
		return api.Spot{Err: api.ErrOpen, At: w.at}
	}
	return api.Spot{Err: api.ErrOrder, At: w.at}
}

// fronts goes over the parts ahead of the functions, and says whether it came to their end.
func (w *walk) fronts() bool {
	part := uint8(0)
open:
	w.parts[part].From = w.at
more:
	switch {
	case w.part == part:
		w.step()
		if part != modelPart {
			goto more
		}
	case part == modelPart:
		return false
	}
	w.parts[part].To = w.at
	part++
	if part < functionsPart {
		goto open
	}
	return true
}

// functions goes over the functions, and says whether it came to the module's end.
func (w *walk) functions() bool {
	var head, wanted kind
	w.parts[functionsPart].From = w.at
outside:
	if w.part == endPart {
		w.parts[functionsPart].To = w.at
		w.parts[endPart] = api.Span{From: w.at, To: w.at}
		return true
	}
	if w.kind != function {
		return false
	}
	w.openFunction()
parameters:
	switch w.kind {
	case parameter:
		w.addParameter()
		goto parameters
	case label:
		head = variable
	default:
		return false
	}
block:
	w.openBlock()
heads:
	if w.kind == head {
		w.step()
		goto heads
	}
body:
	wanted = ender
	switch w.kind {
	case plain:
		w.step()
		goto body
	case selectionMerge:
		wanted = endsSelection
		w.step()
	case loopMerge:
		wanted = endsLoop
		w.step()
	}
	if w.kind&wanted == 0 {
		return false
	}
	w.closeBlock()
	switch w.kind {
	case label:
		head = phi
		goto block
	case functionEnd:
		w.closeFunction()
		goto outside
	}
	return false
}

// openFunction notes a function, and goes behind its OpFunction.
func (w *walk) openFunction() {
	w.funcs = append(w.funcs, api.Func{Id: w.insts[w.at].Result, At: w.at})
	w.step()
}

// last is the function in which the walk is.
func (w *walk) last() *api.Func { return &w.funcs[len(w.funcs)-1] }

// addParameter notes a parameter, and goes behind it.
func (w *walk) addParameter() {
	f := w.last()
	f.Params = append(f.Params, w.at)
	w.step()
}

// openBlock notes a block, and goes behind its label.
func (w *walk) openBlock() {
	f := w.last()
	f.Blocks = append(f.Blocks, api.Block{Label: w.insts[w.at].Result, From: w.at})
	w.step()
}

// closeBlock goes behind a block's ender, and notes that place.
func (w *walk) closeBlock() {
	w.step()
	l := w.last().Blocks
	l[len(l)-1].To = w.at
}

// closeFunction notes the place of a function's end, and goes behind it.
func (w *walk) closeFunction() {
	w.last().End = w.at
	w.step()
}
