package asm

import "intaglio/api"

// headWords is how many words a module's head has.
const headWords = 5

// builder puts a module together, line by line.
type builder struct {
	module api.Module
	words  int // how many the module has up to now; 0 until its head is there
}

// headed says whether the head is there.
func (b *builder) headed() bool { return b.words > 0 }

// add adds what a line says.
func (b *builder) add(line string) api.Errno {
	r, s := rowOf(line)
	switch {
	case s.Err != api.OK || r.ended():
		return s.Err
	case !b.headed():
		return b.addHead(r)
	}
	return b.addInst(r)
}

// addHead adds the head.
func (b *builder) addHead(r row) api.Errno {
	h, s := r.head()
	if s.Err != api.OK {
		return s.Err
	}
	b.module = api.Module{Generator: h.Generator, Bound: h.Bound}
	b.words = headWords
	return api.OK
}

// addInst adds an instruction.
func (b *builder) addInst(r row) api.Errno {
	in := reader{row: r, bound: b.module.Bound}
	if s := in.read(); s.Err != api.OK {
		return s.Err
	}
	b.words += in.words
	if b.words > api.MaxWords {
		return api.ErrLarge
	}
	b.module.Insts = append(b.module.Insts, in.inst)
	return api.OK
}
