package calls

import (
	"slices"

	"intaglio/api"
	"intaglio/ids"
)

// What the chapter says, said once more: slowly, and by other means.

// saidReaches says of each function which ones it reaches: itself, and what those reach that it calls, until nothing is new.
func saidReaches(next [][]int) [][]bool {
	reaches := make([][]bool, len(next))
	for i := range next {
		reaches[i] = make([]bool, len(next))
		reaches[i][i] = true
	}
	for more := true; more; {
		more = false
		for i, l := range next {
			for _, j := range l {
				for k, there := range reaches[j] {
					if there && !reaches[i][k] {
						reaches[i][k], more = true, true
					}
				}
			}
		}
	}
	return reaches
}

// saidOf is the error that Of answers.
func saidOf(next [][]int) api.Errno {
	if len(next) > 4096 {
		return api.ErrLarge
	}
	for _, l := range next {
		for _, j := range l {
			if j < 0 || j >= len(next) {
				return api.ErrRange
			}
		}
	}
	reaches := saidReaches(next)
	for i, l := range next {
		for _, j := range l {
			if reaches[j][i] {
				return api.ErrCycle
			}
		}
	}
	return api.OK
}

// saidDeep is Deep of each function: 0, and then more and more, as long as one that is called is as deep.
func saidDeep(next [][]int) []int {
	deep := make([]int, len(next))
	for more := true; more; {
		more = false
		for i, l := range next {
			for _, j := range l {
				if deep[i] <= deep[j] {
					deep[i], more = deep[j]+1, true
				}
			}
		}
	}
	return deep
}

// saidAnswers are all answers of the Calls of rows that do not go round.
func saidAnswers(next [][]int) answers {
	n := len(next)
	a := answers{calls: make([][]int, n), called: make([][]int, n), reached: make([][]int, n), deep: saidDeep(next)}
	reaches := saidReaches(next)
	for i := range n {
		for j := range n {
			if slices.Contains(next[i], j) {
				a.calls[i] = append(a.calls[i], j)
			}
			if slices.Contains(next[j], i) {
				a.called[i] = append(a.called[i], j)
			}
			if reaches[i][j] {
				a.reached[i] = append(a.reached[i], j)
			}
		}
	}
	for d := range n {
		for i := range n {
			if a.deep[i] == d {
				a.order = append(a.order, i)
			}
		}
	}
	return a
}

// saidNew is what New answers: whom the functions call, or what is wrong. It goes by the instructions as they stand: each OpFunction begins a function.
func saidNew(m api.Module) ([][]int, api.Spot) {
	if s := ids.Check(m); s.Err != api.OK {
		return nil, s
	}
	var made []uint32
	for _, i := range m.Insts {
		if i.Op == 54 {
			made = append(made, i.Result)
		}
	}
	if len(made) > 4096 {
		return nil, spot(api.ErrLarge, 0)
	}
	next := make([][]int, len(made))
	here := -1
	for _, i := range m.Insts {
		switch {
		case i.Op == 54:
			here++
		case i.Op == 57 && slices.Contains(made, i.Args[0].N):
			next[here] = append(next[here], slices.Index(made, i.Args[0].N))
		}
	}
	reaches := saidReaches(next)
	here = -1
	for at, i := range m.Insts {
		if i.Op == 54 {
			here++
		}
		if i.Op != 57 {
			continue
		}
		there := slices.Index(made, i.Args[0].N)
		if there < 0 {
			return nil, spot(api.ErrCall, at)
		}
		if reaches[there][here] {
			return nil, spot(api.ErrCycle, at)
		}
	}
	return next, api.Spot{}
}
