package flow

import (
	"intaglio/api"
	"intaglio/blocks"
	"intaglio/dom"
	"intaglio/graph"
	"intaglio/ids"
	"intaglio/layout"
)

// none is what stands for no block.
const none = -1

// maker is where an id is made within a function.
type maker struct {
	function int
	block    int // none: it is a parameter
	at       int
	label    bool
}

// makers are where ids are made within functions, by the ids.
type makers map[uint32]maker

// makersOf are those of a module's functions.
func makersOf(m api.Module, functions []api.Func) makers {
	by := makers{}
	for n, f := range functions {
		for _, at := range f.Params {
			by[m.Insts[at].Result] = maker{function: n, block: none, at: at}
		}
		for block, b := range f.Blocks {
			for at := b.From; at < b.To; at++ {
				if id := m.Insts[at].Result; id != 0 {
					by[id] = maker{function: n, block: block, at: at, label: at == b.From}
				}
			}
		}
	}
	return by
}

// module is one whose ids are sound, with its functions, and with what is made in them.
type module struct {
	api.Module
	functions []api.Func
	makers    makers
}

// flowing is a module that flows; else what is wrong with it first.
func flowing(m api.Module) (module, api.Spot) {
	if s := ids.Check(m); s.Err != api.OK {
		return module{}, s
	}
	l, _ := layout.Cut(m)
	o := module{Module: m, functions: l, makers: makersOf(m, l)}
	for n := range l {
		b, s := o.bodyOf(n)
		if s.Err == api.OK {
			s = b.check()
		}
		if s.Err != api.OK {
			return module{}, s
		}
	}
	return o, api.Spot{}
}

// body is a function's blocks, where they lead, and which of them dominate which.
type body struct {
	module
	number int
	blocks []api.Block
	graph  *graph.Graph
	tree   *dom.Tree
}

// bodyOf is the body of the function of a number. It does not go by graph.New, which would ask the whole module again: of many functions that would take too long.
func (o module) bodyOf(n int) (*body, api.Spot) {
	f := o.functions[n]
	next, _, s := blocks.Lead(o.Module, f)
	if s.Err != api.OK {
		return nil, s
	}
	g, _ := graph.Of(next)
	t, _ := dom.New(g)
	return &body{module: o, number: n, blocks: f.Blocks, graph: g, tree: t}, api.Spot{}
}
