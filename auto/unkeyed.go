package auto

import (
	"whitewash/api"
	"whitewash/flt"
)

// register is an object of one float.
type register struct{}

func (register) first() api.State { return api.State{} }

func (register) isRight(s api.State) bool {
	right := s.Reg == flt.Canon(s.Reg)
	s.Reg = 0
	return right && isBare(s)
}

func (register) call(s *api.State, op api.Op) uint64 {
	was := s.Reg
	switch op.Code {
	case api.OpRead:
		return was
	case api.OpWrite:
		s.Reg = flt.Canon(op.Val)
		return was
	case api.OpMax:
		s.Reg = flt.Max(was, op.Val)
		return s.Reg
	case api.OpSum:
		s.Reg = flt.Sum(was, op.Val)
		return s.Reg
	}
	panic(api.ErrBadOp)
}

func (register) ask(told []api.Resp) (api.Op, bool) {
	if len(told) > 0 {
		return api.Op{}, false
	}
	return api.Op{Code: api.OpRead}, true
}

func (register) taken(told []api.Resp) api.State {
	if len(told) == 0 {
		return api.State{}
	}
	return api.State{Reg: told[0].Val}
}

// ballot is a box with a vote of each of so many.
type ballot struct{ cap int }

// Where votes begin in what is told: behind whether it is closed, and the tallies.
const firstVote = 1 + api.Choices

func (b ballot) first() api.State { return api.State{Votes: make([]int, b.cap)} }

func (b ballot) isRight(s api.State) bool {
	right := len(s.Votes) == b.cap
	for _, v := range s.Votes {
		right = right && v >= 0 && v <= api.Choices
	}
	s.Votes, s.Closed = nil, false
	return right && isBare(s)
}

func (b ballot) call(s *api.State, op api.Op) uint64 {
	switch op.Code {
	case api.OpCast:
		return b.cast(s, op)
	case api.OpClose:
		was := s.Closed
		s.Closed = true
		return bit(!was)
	case api.OpTally:
		return tally(s.Votes, op.Key)
	case api.OpVote:
		return uint64(*b.voteOf(s, op.Key))
	case api.OpClosed:
		return bit(s.Closed)
	}
	panic(api.ErrBadOp)
}

func (b ballot) cast(s *api.State, op api.Op) uint64 {
	vote, choice := b.voteOf(s, op.Key), choiceOf(op.Val)
	refuse(s.Closed, api.ErrClosed)
	refuse(*vote != 0, api.ErrVoted)
	*vote = choice
	return 0
}

// voteOf leads to the vote itself: Cast writes into it.
func (b ballot) voteOf(s *api.State, voter uint64) *int {
	refuse(voter >= uint64(b.cap), api.ErrBadOp)
	return &s.Votes[voter]
}

func choiceOf(w uint64) int {
	refuse(w < 1 || w > api.Choices, api.ErrBadOp)
	return int(w)
}

func tally(votes []int, w uint64) uint64 {
	choice, n := choiceOf(w), uint64(0)
	for _, v := range votes {
		n += bit(v == choice)
	}
	return n
}

func (b ballot) ask(told []api.Resp) (api.Op, bool) {
	switch n := len(told); {
	case n == 0:
		return api.Op{Code: api.OpClosed}, true
	case n < firstVote:
		return api.Op{Code: api.OpTally, Key: uint64(n)}, true
	case n < firstVote+b.cap:
		return api.Op{Code: api.OpVote, Key: uint64(n - firstVote)}, true
	}
	return api.Op{}, false
}

func (b ballot) taken(told []api.Resp) api.State {
	if len(told) < firstVote {
		return api.State{}
	}
	s := api.State{Closed: told[0].Val != 0}
	for _, r := range told[firstVote:] {
		s.Votes = append(s.Votes, int(r.Val))
	}
	return s
}
