package tests

import (
	"fmt"
	"iter"
	"slices"
)

func isPart(set, whole int) bool {
	return set&^whole == 0
}

// takenTogether returns the points to which some of some points are related.
func takenTogether(a []int, points int) int {
	return setWhere(len(a), func(y int) bool {
		for x := range a {
			if isInSet(points, x) && relates(a, x, y) {
				return true
			}
		}
		return false
	})
}

// spaceOf is the space by its definition: it has what any rows make taken together, and none is 0.
func spaceOf(a []int) []int {
	isMade := make([]bool, 1<<len(a))
	for points := range isMade {
		isMade[takenTogether(a, points)] = true
	}
	space := []int{}
	for set, made := range isMade {
		if made {
			space = append(space, set)
		}
	}
	return space
}

// meetIn is the meet by its definition: of all sets of a space that are part of both, the one that has all these; it is -1 if none has.
func meetIn(space []int, x, y int) int {
	parts := []int{}
	for _, set := range space {
		if isPart(set, x) && isPart(set, y) {
			parts = append(parts, set)
		}
	}
	for _, met := range parts {
		if !slices.ContainsFunc(parts, func(set int) bool { return !isPart(set, met) }) {
			return met
		}
	}
	return -1
}

// isEven is an even space by its definition, for any three sets, with the meets of each two found ahead.
func isEven(space []int) bool {
	meets := map[[2]int]int{}
	for _, x := range space {
		for _, y := range space {
			meets[[2]int{x, y}] = meetIn(space, x, y)
		}
	}
	for _, x := range space {
		for _, y := range space {
			for _, z := range space {
				if meets[[2]int{x, y | z}] != meets[[2]int{x, y}]|meets[[2]int{x, z}] {
					return false
				}
			}
		}
	}
	return true
}

// foundSpace is a space with the first relation that has it.
type foundSpace struct {
	space []int
	first []int
	even  bool
}

// relationsAndSpaces yields every relation on n points with what is found of its space; it looks only once whether a space is even.
func relationsAndSpaces(n int) iter.Seq2[[]int, foundSpace] {
	return func(yield func([]int, foundSpace) bool) {
		all := map[string]foundSpace{}
		for a := range relationsOn(n) {
			space := spaceOf(a)
			key := fmt.Sprint(space)
			found, isKnown := all[key]
			if !isKnown {
				found = foundSpace{space: space, first: a, even: isEven(space)}
				all[key] = found
			}
			if !yield(a, found) {
				return
			}
		}
	}
}

// spacesOn returns every space on n points once.
func spacesOn(n int) []foundSpace {
	spaces := []foundSpace{}
	for a, found := range relationsAndSpaces(n) {
		if slices.Equal(a, found.first) {
			spaces = append(spaces, found)
		}
	}
	return spaces
}

func withBetween(a, x []int) []int {
	return composed(composed(a, x), a)
}

// onePair returns the relation on n points with one pair.
func onePair(n, x, y int) []int {
	return relationWhere(n, func(first, second int) bool { return first == x && second == y })
}

// mostBetween has each pair that, alone between a relation and itself, makes nothing that the relation has not.
func mostBetween(a []int) []int {
	return relationWhere(len(a), func(x, y int) bool { return isBelow(withBetween(a, onePair(len(a), x, y)), a) })
}

// codesBetween returns, at the place of the code of each relation x, that of the composition of a, x and a: of one pair less and this pair.
func codesBetween(a []int) []int {
	n := len(a)
	codes := make([]int, 1<<(n*n))
	for place := range n * n {
		alone := codeOf(withBetween(a, onePair(n, place/n, place%n)))
		for code := range 1 << place {
			codes[code|1<<place] = codes[code] | alone
		}
	}
	return codes
}

// isRegular tries mostBetween: what any x makes is made by its pairs, each one alone.
func isRegular(a []int) bool {
	return slices.Equal(withBetween(a, mostBetween(a)), a)
}

// hasEqualRows reports whether some row is at two places.
func hasEqualRows(a []int) bool {
	for x := range a {
		if slices.Contains(a[x+1:], a[x]) {
			return true
		}
	}
	return false
}

// withEqualRows yields the relations on n points with equal rows, each one with the relation in which only the first ones of these have points.
func withEqualRows(n int) iter.Seq2[[]int, []int] {
	return func(yield func([]int, []int) bool) {
		for a := range relationsOn(n) {
			if !hasEqualRows(a) {
				continue
			}
			fewer := slices.Clone(a)
			for x := range a {
				if slices.Contains(a[:x], a[x]) {
					fewer[x] = 0
				}
			}
			if !yield(a, fewer) {
				return
			}
		}
	}
}
