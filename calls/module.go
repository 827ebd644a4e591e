package calls

import "intaglio/api"

// opFunctionCall is the operation of a call.
const opFunctionCall = 57

// function is one of a module's: its number, and those of the functions that its calls name, as often as they stand.
type function struct {
	number int
	next   []int
}

// functions are those of a module, by their ids.
type functions map[uint32]function

// read are a module's functions, which are these.
func read(m api.Module, l []api.Func) functions {
	by := functions{}
	for n, f := range l {
		by[f.Id] = function{number: n}
	}
	for _, f := range l {
		here := by[f.Id]
		for _, i := range m.Insts[f.At:f.End] {
			if there, ok := by.called(i); ok {
				here.next = append(here.next, there.number)
			}
		}
		by[f.Id] = here
	}
	return by
}

// called is the function that an instruction calls; false, if it is no call, or one of what is no function.
func (by functions) called(i api.Inst) (function, bool) {
	if i.Op != opFunctionCall {
		return function{}, false
	}
	f, ok := by[i.Args[0].N]
	return f, ok
}

// calls are whom the functions call, in their order.
func (by functions) calls(l []api.Func) [][]int {
	next := make([][]int, len(l))
	for n, f := range l {
		next[n] = by[f.Id].next
	}
	return onceEach(next)
}

// astray tells the first call that may not be, and why.
func (by functions) astray(m api.Module, l []api.Func, r rings) api.Spot {
	var s api.Spot
look:
	for n, f := range l {
		for at := f.At; at < f.End; at++ {
			there, ok := by.called(m.Insts[at])
			switch {
			case m.Insts[at].Op != opFunctionCall:
			case !ok:
				s = api.Spot{Err: api.ErrCall, At: at}
				break look
			case r.around(n, there.number):
				s = api.Spot{Err: api.ErrCycle, At: at}
				break look
			}
		}
	}
	return s
}
