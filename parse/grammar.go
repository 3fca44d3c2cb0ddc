package parse

import (
	"riddle/api"
	"riddle/token"
)

// shape is what stands just ahead of a token in its sequence.
type shape int

const (
	nothing  shape = iota // the sequence begins
	anchor                // a ^ or a $
	atom                  // a byte, a class, a dot or a group: what a repeat may follow
	repeated              // an atom with its repeat
)

// pairs answers of each TkOpen which token closes it; or, of tokens that are no tree, the place and the error that are told.
func pairs(l []api.Token) ([]int, int, api.Errno) {
	closes := make([]int, len(l))
	var open []int
	ahead := nothing
	i := 0
next:
	if i == len(l) {
		goto end
	}
	if token.Check(l[i]) != api.OK {
		return nil, 0, api.ErrToken
	}
	switch l[i].Kind {
	case api.TkOpen:
		open = append(open, i)
		ahead = nothing
	case api.TkBar:
		ahead = nothing
	case api.TkClose:
		if len(open) == 0 {
			return nil, l[i].At, api.ErrClose
		}
		closes[open[len(open)-1]] = i
		open = open[:len(open)-1]
		ahead = atom
	case api.TkRepeat:
		if ahead != atom {
			return nil, l[i].At, api.ErrRepeat
		}
		ahead = repeated
	case api.TkHat, api.TkDollar:
		ahead = anchor
	default:
		ahead = atom
	}
	i++
	goto next
end:
	if len(open) > 0 {
		return nil, l[open[len(open)-1]].At, api.ErrOpen
	}
	return closes, 0, api.OK
}

// room is which anchors may stand in a group, at the ends of its sequences.
type room struct{ hat, dollar bool }

// wrongAnchor answers the place of the first anchor that stands where it cannot, of tokens that are a tree; none, if all of them may stand.
func wrongAnchor(l []api.Token, closes []int) int {
	rooms := []room{{true, true}}
	for i, t := range l {
		here := rooms[len(rooms)-1]
		switch t.Kind {
		case api.TkOpen:
			end := closes[i]
			rooms = append(rooms, room{
				hat:    here.hat && isFirst(l, i) && !hasRepeat(l, end),
				dollar: here.dollar && isLast(l, end),
			})
		case api.TkClose:
			rooms = rooms[:len(rooms)-1]
		case api.TkHat:
			if !here.hat || !isFirst(l, i) {
				return t.At
			}
		case api.TkDollar:
			if !here.dollar || !isLast(l, i) {
				return t.At
			}
		}
	}
	return none
}

// isFirst answers whether no item stands ahead of a token in its sequence.
func isFirst(l []api.Token, i int) bool {
	return i == 0 || l[i-1].Kind == api.TkOpen || l[i-1].Kind == api.TkBar
}

// isLast answers whether no item stands behind a token in its sequence, nor a repeat of it.
func isLast(l []api.Token, i int) bool {
	return i+1 == len(l) || l[i+1].Kind == api.TkClose || l[i+1].Kind == api.TkBar
}

// hasRepeat answers whether a repeat stands behind a token.
func hasRepeat(l []api.Token, i int) bool {
	return i+1 < len(l) && l[i+1].Kind == api.TkRepeat
}
