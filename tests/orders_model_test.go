package tests

import (
	"iter"
	"math"
	"math/bits"
	"slices"
)

// countsOfOrders, countsOfPreorders and countsOfLattices have the numbers of these on 1 to pointsMax points at these places.
var (
	countsOfOrders    = []int{1: 1, 2: 3, 3: 19, 4: 219}
	countsOfPreorders = []int{1: 1, 2: 4, 3: 29, 4: 355}
	countsOfLattices  = []int{1: 1, 2: 2, 3: 6, 4: 36}
)

func isOrder(a []int) bool {
	return isKind(a, 'r') && isKind(a, 'a') && isKind(a, 't')
}

func isPreorder(a []int) bool {
	return isKind(a, 'r') && isKind(a, 't')
}

// ordersOn returns every order on n points.
func ordersOn(n int) [][]int {
	return slices.DeleteFunc(slices.Collect(relationsOn(n)), func(a []int) bool { return !isOrder(a) })
}

// preordersOn returns every preorder on n points.
func preordersOn(n int) [][]int {
	return slices.DeleteFunc(slices.Collect(relationsOn(n)), func(a []int) bool { return !isPreorder(a) })
}

// allOrders yields every order on 1 to pointsMax points.
func allOrders() iter.Seq[[]int] {
	return func(yield func([]int) bool) {
		for n := 1; n <= pointsMax; n++ {
			for _, o := range ordersOn(n) {
				if !yield(o) {
					return
				}
			}
		}
	}
}

// pointsOn returns n points in ascending order.
func pointsOn(n int) []int {
	points := make([]int, n)
	for x := range points {
		points[x] = x
	}
	return points
}

// chainOf returns the order in which each point of a list that has each one once is below itself and those behind it.
func chainOf(p []int) []int {
	return relationWhere(len(p), func(x, y int) bool { return slices.Index(p, x) <= slices.Index(p, y) })
}

// isUnder reports whether a point is below another one.
func isUnder(o []int, x, y int) bool {
	return x != y && relates(o, x, y)
}

// coversOf has the pairs of a point and another one above it with no third one between.
func coversOf(o []int) []int {
	return relationWhere(len(o), func(x, y int) bool {
		for z := range o {
			if isUnder(o, x, z) && isUnder(o, z, y) {
				return false
			}
		}
		return isUnder(o, x, y)
	})
}

// leastOrderAmong has the pairs that all orders above a relation have, as what they have in common is an order again; there may be none above it.
func leastOrderAmong(a []int, orders [][]int) ([]int, bool) {
	least, ok := allPairs(len(a)), false
	for _, o := range orders {
		if !isBelow(a, o) {
			continue
		}
		ok = true
		for i := range least {
			least[i] &= o[i]
		}
	}
	return least, ok
}

// isBoundOf reports whether each point of a set is below a point.
func isBoundOf(o []int, set, bound int) bool {
	for x := range o {
		if set>>x&1 == 1 && !relates(o, x, bound) {
			return false
		}
	}
	return true
}

// leastBoundOf returns the bound of a set that is below all others; it is -1 if there is none.
func leastBoundOf(o []int, set int) int {
	bounds := []int{}
	for x := range o {
		if isBoundOf(o, set, x) {
			bounds = append(bounds, x)
		}
	}
	for _, least := range bounds {
		if !slices.ContainsFunc(bounds, func(x int) bool { return !relates(o, least, x) }) {
			return least
		}
	}
	return -1
}

// hasLeastBounds is what OrderLattice reports by its definition.
func hasLeastBounds(o []int) bool {
	for set := range 1 << len(o) {
		if leastBoundOf(o, set) < 0 {
			return false
		}
	}
	return true
}

// isWay is a way by its definition.
func isWay(o, p []int) bool {
	if len(p) != len(o) {
		return false
	}
	for x := range o {
		if !slices.Contains(p, x) {
			return false
		}
	}
	for behind := range p {
		for ahead := range behind {
			if isUnder(o, p[behind], p[ahead]) {
				return false
			}
		}
	}
	return true
}

// waysOf returns all ways of an order in the order of lists.
func waysOf(o []int) [][]int {
	ways := slices.DeleteFunc(slices.Collect(renamings(len(o))), func(p []int) bool { return !isWay(o, p) })
	slices.SortFunc(ways, slices.Compare[[]int])
	return ways
}

// holdsInSet reports whether something holds for any two different points of a set.
func holdsInSet(n, set int, holds func(x, y int) bool) bool {
	for x := range n {
		for y := range n {
			if x != y && set>>x&1 == 1 && set>>y&1 == 1 && !holds(x, y) {
				return false
			}
		}
	}
	return true
}

// sizesOf tries all sets for the greatest chain and the greatest antichain.
func sizesOf(o []int) (int, int) {
	chain, antichain := 0, 0
	for set := range 1 << len(o) {
		size := bits.OnesCount(uint(set))
		if size > chain && holdsInSet(len(o), set, func(x, y int) bool { return relates(o, x, y) || relates(o, y, x) }) {
			chain = size
		}
		if size > antichain && holdsInSet(len(o), set, func(x, y int) bool { return !relates(o, x, y) && !relates(o, y, x) }) {
			antichain = size
		}
	}
	return chain, antichain
}

// inBothDirections relates points that are related in both directions.
func inBothDirections(a []int) []int {
	return relationWhere(len(a), func(x, y int) bool { return relates(a, x, y) && relates(a, y, x) })
}

// outOfSets returns numbers that are no sets of n points.
func outOfSets(n int) []int {
	return []int{-1, -2, -1 << n, 1 << n, 1<<n + 1, 1<<(n+1) - 1, 16, 64, 1 << 32, 1<<32 + 1, -1 << 32, math.MinInt, math.MaxInt}
}
