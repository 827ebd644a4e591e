package graph

import "intaglio/api"

// wide is how many nodes a word of marks stands for.
const wide = 64

// marks are bits, one for each node that a graph may have.
type marks [api.MaxNodes / wide]uint64

// set marks a node.
func (m *marks) set(i int) { m[i/wide] |= 1 << (i % wide) }

// has says whether a node is marked.
func (m *marks) has(i int) bool { return m[i/wide]>>(i%wide)&1 == 1 }
