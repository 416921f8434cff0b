// Package size is layer 1: see shared/doc/01-size.md.
package size

import (
	"math/bits"

	"rubato/api"
)

// Of fewer replicas than these none may fail.
const leastN = 3

// The set of all replicas that there can be is the greatest number that is a set.
const everyone = 1<<api.MaxN - 1

// Check tells whether there may be so many.
func Check(n, f int) api.Errno {
	if !canBe(n) || f < 1 || f > (n-1)/2 {
		return api.ErrArg
	}
	return api.OK
}

// Fast tells the size of a fast quorum.
func Fast(n, f int) int {
	if Check(n, f) != api.OK {
		return 0
	}
	return n/2 + f
}

// Slow tells the size of a slow quorum.
func Slow(n, f int) int {
	if Check(n, f) != api.OK {
		return 0
	}
	return f + 1
}

// Back tells the size of a recovery's quorum.
func Back(n, f int) int {
	if Check(n, f) != api.OK {
		return 0
	}
	return n - f
}

// Most tells the size of a majority.
func Most(n int) int {
	if !canBe(n) {
		return 0
	}
	return n/2 + 1
}

// Set makes a set of replicas.
func Set(l ...int) int {
	set := 0
	for _, r := range l {
		if isReplica(r) {
			set |= bit(r)
		}
	}
	return set
}

// Has tells whether a replica is in a set.
func Has(set, r int) bool {
	return isSet(set) && isReplica(r) && set&bit(r) != 0
}

// Count counts a set.
func Count(set int) int {
	if !isSet(set) {
		return 0
	}
	return bits.OnesCount(uint(set))
}

// List tells a set's replicas.
func List(set int) []int {
	var l []int
	for r := 1; r <= api.MaxN; r++ {
		if Has(set, r) {
			l = append(l, r)
		}
	}
	return l
}

// Ring tells a replica's fast quorum.
func Ring(n, f, self int) int {
	if Check(n, f) != api.OK || self < 1 || self > n {
		return 0
	}
	next := around(n, self)
	l := make([]int, Fast(n, f))
	for i := range l {
		l[i] = next()
	}
	return Set(l...)
}

// around makes a call that tells self first, and then, each time, who comes next.
func around(n, self int) func() int {
	r := self
	return func() int {
		told := r
		r = r%n + 1
		return told
	}
}

func canBe(n int) bool { return n >= leastN && n <= api.MaxN }

func isReplica(r int) bool { return r >= 1 && r <= api.MaxN }

func isSet(set int) bool { return set >= 0 && set <= everyone }

func bit(r int) int { return 1 << (r - 1) }
