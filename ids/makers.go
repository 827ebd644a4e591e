package ids

import (
	"intaglio/api"
	"intaglio/code"
)

// makers are the places at which ids are made, by the ids; of an id that is made several times the least one.
type makers map[uint32]int

// makersOf are the makers among instructions.
func makersOf(l []api.Inst) makers {
	by := makers{}
	for at, i := range l {
		if i.Result == 0 {
			continue
		}
		if _, is := by[i.Result]; !is {
			by[i.Result] = at
		}
	}
	return by
}

// firstFault is what is wrong with the ids of instructions in order, at the least place; ordered are the places where each id that is named must be made ahead.
func firstFault(l []api.Inst, ordered api.Span) api.Spot {
	by := makersOf(l)
	var wrong api.Spot
places:
	for at, i := range l {
		if i.Result != 0 && by[i.Result] < at {
			wrong = api.Spot{Err: api.ErrTwice, At: at}
			break places
		}
		for _, id := range code.Ids(i) {
			from, is := by[id]
			switch {
			case !is:
				wrong = api.Spot{Err: api.ErrUnknown, At: at}
				break places
			case from >= at && ordered.From <= at && at < ordered.To:
				// The instruction is gone through to its end: that an id is made nowhere is told first.
				wrong = api.Spot{Err: api.ErrAhead, At: at}
			}
		}
		if wrong.Err != api.OK {
			break places
		}
	}
	return wrong
}
