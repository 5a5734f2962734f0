package tests

import (
	"iter"
	"math"
	"math/bits"
	"slices"
)

// countsOfEquivalences has the number of equivalences on 1 to pointsMax points at these places.
var countsOfEquivalences = []int{1: 1, 2: 2, 3: 5, 4: 15}

func isEquivalence(a []int) bool {
	return isKind(a, 'r') && isKind(a, 's') && isKind(a, 't')
}

// sameRows is the kernel by its definition.
func sameRows(a []int) []int {
	return relationWhere(len(a), func(x, y int) bool { return a[x] == a[y] })
}

// equivalencesOn returns every equivalence on n points: each one relates the points with the same place in some list of points.
func equivalencesOn(n int) [][]int {
	found := [][]int{}
	for p := range mapsOf(n) {
		e := relationWhere(n, func(x, y int) bool { return p[x] == p[y] })
		if !slices.ContainsFunc(found, func(f []int) bool { return slices.Equal(e, f) }) {
			found = append(found, e)
		}
	}
	return found
}

// pairsOfEquivalences yields all pairs of equivalences with as many points.
func pairsOfEquivalences() iter.Seq2[[]int, []int] {
	return func(yield func([]int, []int) bool) {
		for n := 1; n <= pointsMax; n++ {
			for _, e := range equivalencesOn(n) {
				for _, f := range equivalencesOn(n) {
					if !yield(e, f) {
						return
					}
				}
			}
		}
	}
}

// relationsAndEquivalences yields all pairs of a relation and an equivalence with as many points.
func relationsAndEquivalences() iter.Seq2[[]int, []int] {
	return func(yield func([]int, []int) bool) {
		for n := 1; n <= pointsMax; n++ {
			for _, e := range equivalencesOn(n) {
				for a := range relationsOn(n) {
					if !yield(a, e) {
						return
					}
				}
			}
		}
	}
}

// leastPointOf returns the least point of a set that is not empty.
func leastPointOf(set int) int {
	return bits.TrailingZeros(uint(set))
}

// differentRows has the rows of a relation, each one once, in the order of their least points.
func differentRows(e []int) []int {
	rows := slices.Clone(e)
	slices.SortFunc(rows, func(x, y int) int { return leastPointOf(x) - leastPointOf(y) })
	return slices.Compact(rows)
}

// isPartition is a partition by its definition.
func isPartition(n int, classes []int) bool {
	had := make([]int, n)
	for place, class := range classes {
		if class <= 0 || class >= 1<<n {
			return false
		}
		if place > 0 && leastPointOf(classes[place-1]) >= leastPointOf(class) {
			return false
		}
		for i := range n {
			had[i] += class >> i & 1
		}
	}
	return !slices.ContainsFunc(had, func(times int) bool { return times != 1 })
}

// partitionsOn returns every partition of n points.
func partitionsOn(n int) [][]int {
	found := [][]int{}
	for _, e := range equivalencesOn(n) {
		found = append(found, differentRows(e))
	}
	return found
}

// inOneSet relates points that are both in one of some sets.
func inOneSet(n int, sets []int) []int {
	return relationWhere(n, func(x, y int) bool {
		return slices.ContainsFunc(sets, func(set int) bool { return set>>x&1 == 1 && set>>y&1 == 1 })
	})
}

// quotientOf is the quotient by its definition: some points of two classes are related.
func quotientOf(a, e []int) []int {
	classes := differentRows(e)
	return relationWhere(len(classes), func(i, j int) bool {
		for x := range a {
			for y := range a {
				if classes[i]>>x&1 == 1 && classes[j]>>y&1 == 1 && relates(a, x, y) {
					return true
				}
			}
		}
		return false
	})
}

// metClasses returns, for each point, the places of the classes that have points to which it is related, as a set of places.
func metClasses(a, classes []int) []int {
	met := make([]int, len(a))
	for x := range a {
		for place, class := range classes {
			if class&a[x] != 0 {
				met[x] += 1 << place
			}
		}
	}
	return met
}

// isKept is what EquKept reports by its definition.
func isKept(e, a []int) bool {
	met := metClasses(a, differentRows(e))
	for x := range e {
		for y := range e {
			if relates(e, x, y) && met[x] != met[y] {
				return false
			}
		}
	}
	return true
}

// listsOf yields every list with some length of the numbers from least to greatest, each one as new memory.
func listsOf(length, least, greatest int) iter.Seq[[]int] {
	return func(yield func([]int) bool) {
		base := greatest - least + 1
		count := 1
		for range length {
			count *= base
		}
		for code := range count {
			list := make([]int, length)
			for i := range list {
				list[i] = least + code%base
				code /= base
			}
			if !yield(list) {
				return
			}
		}
	}
}

// noEquivalences returns relations on n points that are no equivalences.
func noEquivalences(n int) [][]int {
	found := [][]int{}
	for a := range someRelationsOn(n) {
		if !isEquivalence(a) {
			found = append(found, a)
		}
	}
	return found
}

// outOfCounts returns numbers of points on which there are no relations.
func outOfCounts() []int {
	return []int{0, -1, -4, 5, 6, 64, 1 << 32, 1<<32 + 1, -1 << 32, math.MinInt, math.MaxInt}
}
