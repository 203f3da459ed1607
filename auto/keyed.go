package auto

import (
	"cmp"
	"slices"

	"whitewash/api"
	"whitewash/flt"
)

// keys is what may be a key, and in which order keys stand.
type keys interface {
	// key is the key that a word stands for, and whether it stands for one.
	key(w uint64) (uint64, bool)
	rank(key uint64) uint64
	least() uint64
}

// numbers are the keys of a Set and a Dict.
type numbers struct{}

func (numbers) key(w uint64) (uint64, bool) { return w, w <= api.MaxKey }
func (numbers) rank(key uint64) uint64      { return key }
func (numbers) least() uint64               { return 0 }

// floats are the keys of an Order.
type floats struct{}

func (floats) key(w uint64) (uint64, bool) { return flt.Canon(w), true }
func (floats) rank(key uint64) uint64      { return flt.Rank(key) }
func (floats) least() uint64               { return api.NegInf }

// keyed is what all objects with keys do: they embed it.
type keyed struct {
	of  keys
	cap int
}

func (k keyed) first() api.State { return api.State{} }

// areRight tells whether keys may stand in a state: not too many, rising, and none written otherwise than as itself.
func (k keyed) areRight(list []uint64) bool {
	if len(list) > k.cap {
		return false
	}
	for i, w := range list {
		key, is := k.of.key(w)
		if !is || key != w || i > 0 && k.of.rank(list[i-1]) >= k.of.rank(w) {
			return false
		}
	}
	return true
}

// keyOf is the key that a call speaks of.
func (k keyed) keyOf(w uint64) uint64 {
	key, is := k.of.key(w)
	refuse(!is, api.ErrBadOp)
	return key
}

// find is a key's place, or, if it is not there, the place that it would have.
func (k keyed) find(s *api.State, key uint64) (int, bool) {
	return slices.BinarySearchFunc(s.Keys, key, func(a, b uint64) int {
		return cmp.Compare(k.of.rank(a), k.of.rank(b))
	})
}

// place is the place of the key that a call speaks of, and that has to be there.
func (k keyed) place(s *api.State, w uint64) int {
	at, is := k.find(s, k.keyOf(w))
	refuse(!is, api.ErrNone)
	return at
}

// insert lays a key at the place that it would have, if there is room.
func (k keyed) insert(s *api.State, at int, key uint64) {
	refuse(len(s.Keys) >= k.cap, api.ErrFull)
	s.Keys = slices.Insert(s.Keys, at, key)
}

// drop takes a key away, and tells the place that it had.
func (k keyed) drop(s *api.State, w uint64) int {
	at := k.place(s, w)
	s.Keys = slices.Delete(s.Keys, at, at+1)
	return at
}

// look does the calls that are the same of all objects with keys; there is no call behind them.
func (k keyed) look(s *api.State, op api.Op) uint64 {
	switch op.Code {
	case api.OpNext:
		return k.next(s, op)
	case api.OpCount:
		return uint64(len(s.Keys))
	}
	panic(api.ErrBadOp)
}

func (k keyed) next(s *api.State, op api.Op) uint64 {
	at, is := k.find(s, k.keyOf(op.Key))
	if is && op.Val != 0 {
		at++
	}
	refuse(at == len(s.Keys), api.ErrNone)
	return s.Keys[at]
}

// onward is the call for the key behind those that were told.
func (k keyed) onward(told []api.Resp) (api.Op, bool) {
	for _, r := range told {
		if r.Errno != api.OK {
			return api.Op{}, false
		}
	}
	if len(told) == 0 {
		return api.Op{Code: api.OpNext, Key: k.of.least()}, true
	}
	return api.Op{Code: api.OpNext, Key: told[len(told)-1].Val, Val: 1}, true
}

// set is an object with keys alone.
type set struct{ keyed }

func (o set) isRight(s api.State) bool {
	right := o.areRight(s.Keys)
	s.Keys = nil
	return right && isBare(s)
}

func (o set) call(s *api.State, op api.Op) uint64 {
	switch op.Code {
	case api.OpHas:
		_, is := o.find(s, o.keyOf(op.Key))
		return bit(is)
	case api.OpAdd:
		return o.add(s, op.Key)
	case api.OpDel:
		o.drop(s, op.Key)
		return 0
	}
	return o.look(s, op)
}

func (o set) add(s *api.State, w uint64) uint64 {
	key := o.keyOf(w)
	at, is := o.find(s, key)
	if is {
		return 0
	}
	o.insert(s, at, key)
	return 1
}

func (o set) ask(told []api.Resp) (api.Op, bool) { return o.onward(told) }

// What was told last tells no key: it says that there are no more.
func (o set) taken(told []api.Resp) api.State {
	return api.State{Keys: values(told[:max(len(told)-1, 0)])}
}

// table is an object with a value to each key: a Dict, or an Order.
type table struct{ keyed }

func (o table) isRight(s api.State) bool {
	right := o.areRight(s.Keys) && len(s.Vals) == len(s.Keys)
	s.Keys, s.Vals = nil, nil
	return right && isBare(s)
}

func (o table) call(s *api.State, op api.Op) uint64 {
	switch op.Code {
	case api.OpGet:
		return s.Vals[o.place(s, op.Key)]
	case api.OpPut:
		return o.put(s, op.Key, op.Val)
	case api.OpDel:
		at := o.drop(s, op.Key)
		was := s.Vals[at]
		s.Vals = slices.Delete(s.Vals, at, at+1)
		return was
	}
	return o.look(s, op)
}

func (o table) put(s *api.State, w, val uint64) uint64 {
	key := o.keyOf(w)
	at, is := o.find(s, key)
	if is {
		was := s.Vals[at]
		s.Vals[at] = val
		return was
	}
	o.insert(s, at, key)
	s.Vals = slices.Insert(s.Vals, at, val)
	return 0
}

func (o table) ask(told []api.Resp) (api.Op, bool) {
	keys, vals := pairs(told)
	op, more := o.onward(keys)
	if more && len(keys) > len(vals) {
		return api.Op{Code: api.OpGet, Key: op.Key}, true
	}
	return op, more
}

// A key without a value behind it is none: it says that there are no more.
func (o table) taken(told []api.Resp) api.State {
	keys, vals := pairs(told)
	return api.State{Keys: values(keys[:len(vals)]), Vals: values(vals)}
}

// pairs are what was told of keys, and of their values; behind the last key there may be none.
func pairs(told []api.Resp) (keys, vals []api.Resp) {
	for i, r := range told {
		if i%2 == 0 {
			keys = append(keys, r)
		} else {
			vals = append(vals, r)
		}
	}
	return keys, vals
}
