// Package flt is layer 1: see shared/doc/01-flt.md.
package flt

import (
	"math"

	"whitewash/api"
)

// sign is the bit that stands for minus.
const sign uint64 = 1 << 63

// The kinds have api's numbers because they stand in api's order.
const (
	zero = iota
	finite
	infinite
	none
)

// Canon is the one word of a float: of several words that mean the same, one is kept, so that words are alike just if what they mean is.
func Canon(w uint64) uint64 {
	switch {
	case isNaN(w):
		return api.NaN
	case w == sign:
		return 0
	}
	return w
}

// isNaN asks the word, not the float: a word behind that of infinity is no number, whatever its sign.
func isNaN(w uint64) bool { return w&^sign > api.Inf }

// Kind is what a float is: Zero, Finite, Infinite or None.
func Kind(w uint64) int {
	switch Canon(w) {
	case 0:
		return zero
	case api.Inf, api.NegInf:
		return infinite
	case api.NaN:
		return none
	}
	return finite
}

// Rank is a float's place among all. Words below zero grow as their floats fall, so all their bits are turned; those above are set behind them.
func Rank(w uint64) uint64 {
	c := Canon(w)
	if c&sign != 0 {
		return ^c
	}
	return c | sign
}

// Word is the float of a rank. Turned back, a rank that is nobody's gives a word that is not canonical.
func Word(r uint64) (uint64, bool) {
	w := ^r
	if r&sign != 0 {
		w = r ^ sign
	}
	if Canon(w) != w {
		return 0, false
	}
	return w, true
}

// Less tells whether a stands ahead of b.
func Less(a, b uint64) bool { return Rank(a) < Rank(b) }

// Max is the one that stands behind the other.
func Max(a, b uint64) uint64 {
	if Less(a, b) {
		return Canon(b)
	}
	return Canon(a)
}

// Sum is both together. Which NaN an addition makes is the machine's choice, so its word is made canonical.
func Sum(a, b uint64) uint64 {
	return Canon(math.Float64bits(math.Float64frombits(a) + math.Float64frombits(b)))
}
