package asm

import (
	"intaglio/api"
	"intaglio/code"
	"intaglio/grammar"
)

// reader takes an instruction from a line's tokens, of which there is one at least.
type reader struct {
	row
	bound uint32
	form  api.Form
	inst  api.Inst
	words int // how many the instruction has, once it is whole
}

// read takes the whole line.
func (r *reader) read() api.Spot {
	var (
		a api.Arg
		s api.Spot
	)
	if !r.saysResult() {
		goto operation
	}
	// Its id is looked at behind the operation, which must have a result at all.
	r.next++
	if _, s = r.take(api.TokEqual); s.Err != api.OK {
		return s
	}
operation:
	if s = r.operation(); s.Err != api.OK {
		return s
	}
	if !r.form.Type {
		goto arguments
	}
	if a, s = r.argument('i'); s.Err != api.OK {
		return s
	}
	r.inst.Type = a.N
arguments:
	r.inst.Args = make([]api.Arg, 0, len(r.tokens)-r.next)
next:
	if r.ended() {
		goto end
	}
	if a, s = r.argument(grammar.Letter(r.form.Op, len(r.inst.Args))); s.Err != api.OK {
		return s
	}
	r.inst.Args = append(r.inst.Args, a)
	goto next
end:
	return r.end()
}

// saysResult says whether the line begins with a result's id.
func (r *reader) saysResult() bool { return r.tokens[0].Kind == api.TokId }

// operation takes the operation's name, and holds the result that was said, or was not, against its form.
func (r *reader) operation() api.Spot {
	t, s := r.take(api.TokWord)
	if s.Err != api.OK {
		return s
	}
	f, ok := grammar.Named(t.Text)
	if !ok {
		return faultAt(t, api.ErrName)
	}
	r.form, r.inst.Op = f, f.Op
	// Where no result was said the operation is the line's first token.
	first := r.tokens[0]
	if f.Result != r.saysResult() {
		return faultAt(first, api.ErrResult)
	}
	if !f.Result {
		return api.Spot{}
	}
	a, e := wanted{letter: 'i', bound: r.bound}.id(first.Text)
	r.inst.Result = a.N
	return faultAt(first, e)
}

// argument takes an argument of a letter; 0: none may stand there.
func (r *reader) argument(letter byte) (api.Arg, api.Spot) {
	kind, argOf := wanted{letter: letter, bound: r.bound}.taker()
	t, s := r.take(kind)
	if s.Err != api.OK {
		return api.Arg{}, s
	}
	a, e := argOf(t.Text)
	return a, faultAt(t, e)
}

// end looks at what is seen only once all tokens are taken.
func (r *reader) end() api.Spot {
	kinds := make([]uint8, len(r.inst.Args))
	for i, a := range r.inst.Args {
		kinds[i] = a.Kind
	}
	if _, ok := grammar.Fits(r.form.Op, kinds); !ok {
		return api.Spot{Err: api.ErrEarly, At: r.length}
	}
	// All else was looked at: that there are too many words is the one error that is left.
	raw, e := code.Raw(r.inst, r.bound)
	r.words = 1 + len(raw.Words)
	return api.Spot{Err: e}
}
