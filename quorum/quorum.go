// Package quorum has families of sets of members: whether each two of the sets meet, which sets are least, and what meets them all. See doc/01-quorum.md.
package quorum

import (
	"iter"
	"math/bits"
	"slices"

	"folkmoot/api"
)

// Check tells what is wrong with a family; ErrForm: two of its sets have no member in common.
func Check(n int, q []uint32) api.Errno {
	if e := checkFamily(n, q); e != api.OK {
		return e
	}
	if leastCommon(q) == 0 {
		return api.ErrForm
	}
	return api.OK
}

// Least answers the sets of a family in which no other one of it lies; rising, each once.
func Least(n int, q []uint32) ([]uint32, api.Errno) {
	if e := checkFamily(n, q); e != api.OK {
		return nil, e
	}
	return leastSets(q), api.OK
}

// Blocks answers the least sets of members that meet each set of a family; rising.
func Blocks(n int, q []uint32) ([]uint32, api.Errno) {
	if e := checkFamily(n, q); e != api.OK {
		return nil, e
	}
	return leastBlocks(n, q), api.OK
}

// Full answers whether Least and Blocks of a system are the same.
func Full(n int, q []uint32) (bool, api.Errno) {
	if e := Check(n, q); e != api.OK {
		return false, e
	}
	return slices.Equal(leastSets(q), leastBlocks(n, q)), api.OK
}

// Masks answers whether a system bears b liars: each two sets have at least 2 * b + 1 members in common, and whichever b members fall out, some set has none of them.
func Masks(n int, q []uint32, b int) (bool, api.Errno) {
	if e := Check(n, q); e != api.OK {
		return false, e
	}
	if b < 0 || b > n {
		return false, api.ErrArg
	}
	return leastCommon(q) >= 2*b+1 && outlasts(n, q, b), api.OK
}

// checkFamily tells a family's errors, in the order in which the chapter names them.
func checkFamily(n int, q []uint32) api.Errno {
	if n < 1 || n > api.MaxMembers || len(q) > api.MaxSets {
		return api.ErrLarge
	}
	if len(q) == 0 {
		return api.ErrNone
	}
	if slices.Contains(q, 0) || slices.ContainsFunc(q, memberOutside(allMembers(n))) {
		return api.ErrArg
	}
	return api.OK
}

// allMembers is the set of the members 0 to n - 1, for an n within the limit.
func allMembers(n int) uint32 {
	return 1<<n - 1
}

// memberOutside makes the question whether a set has a member outside s; one that has none lies in s as a part.
func memberOutside(s uint32) func(uint32) bool {
	return func(t uint32) bool { return t&^s != 0 }
}

// eachTwo goes through each two sets of a family, also one and itself; the order of the two says nothing, so each pair comes once.
func eachTwo(q []uint32) iter.Seq2[uint32, uint32] {
	return func(yield func(uint32, uint32) bool) {
		for i, s := range q {
			for _, t := range q[i:] {
				if !yield(s, t) {
					return
				}
			}
		}
	}
}

// leastCommon is the least number of members that two sets of a family have in common; 0 tells that it is no system.
func leastCommon(q []uint32) int {
	least := api.MaxMembers
	for s, t := range eachTwo(q) {
		least = min(least, bits.OnesCount32(s&t))
		if least == 0 {
			break
		}
	}
	return least
}

func leastSets(q []uint32) []uint32 {
	var out []uint32
	for _, s := range q {
		outside := memberOutside(s)
		// An equal set further on in the list is the same one, not another.
		smaller := func(t uint32) bool { return t != s && !outside(t) }
		if !slices.ContainsFunc(q, smaller) {
			out = append(out, s)
		}
	}
	slices.Sort(out)
	return slices.Compact(out)
}

func leastBlocks(n int, q []uint32) []uint32 {
	var out []uint32
	for s := range allMembers(n) + 1 {
		if meetsEach(s, q) && needsEachMember(s, q) {
			out = append(out, s)
		}
	}
	return out
}

func meetsEach(s uint32, q []uint32) bool {
	missed := func(t uint32) bool { return s&t == 0 }
	return !slices.ContainsFunc(q, missed)
}

// needsEachMember tells whether s, which meets each set, meets them no longer when a member is taken out. It is enough to take out one: what still meets them all stays so when members are added.
func needsEachMember(s uint32, q []uint32) bool {
	for rest := s; rest != 0; rest &= rest - 1 {
		lowest := rest & -rest
		if meetsEach(s&^lowest, q) {
			return false
		}
	}
	return true
}

// outlasts tells whether for any at most b members some set has none of them. Members of which each set has one have a block among them, so it holds where no block has as few as b.
func outlasts(n int, q []uint32, b int) bool {
	few := func(s uint32) bool { return bits.OnesCount32(s) <= b }
	return !slices.ContainsFunc(leastBlocks(n, q), few)
}
