package tests

import "slices"

// countsOfStepped has the number of stepped relations on 1 to pointsMax points at these places: those with k blocks are as many as the
// pairs of partitions of some of the points into k sets, times the factorial of k.
var countsOfStepped = []int{1: 1 + 1, 2: 1 + 3*3 + 2, 3: 1 + 7*7 + 2*6*6 + 6, 4: 1 + 15*15 + 2*25*25 + 6*10*10 + 24}

func isInSet(set, x int) bool {
	return set>>x&1 == 1
}

// setWhere returns the set of the points of n for which has holds.
func setWhere(n int, has func(x int) bool) int {
	set := 0
	for x := range n {
		if has(x) {
			set += 1 << x
		}
	}
	return set
}

// inRectangles is the relation with the pairs of some rectangles, by its definition.
func inRectangles(n int, rectangles [][]int) []int {
	return relationWhere(n, func(x, y int) bool {
		return slices.ContainsFunc(rectangles, func(one []int) bool { return isInSet(one[0], x) && isInSet(one[1], y) })
	})
}

// isRectangle is a rectangle by its definition.
func isRectangle(a []int, first, second int) bool {
	for x := range a {
		for y := range a {
			if isInSet(first, x) && isInSet(second, y) && !relates(a, x, y) {
				return false
			}
		}
	}
	return true
}

// isFull is a full rectangle by its definition: a set with one more point makes none.
func isFull(a []int, first, second int) bool {
	if !isRectangle(a, first, second) {
		return false
	}
	for x := range a {
		if !isInSet(first, x) && isRectangle(a, first|1<<x, second) {
			return false
		}
		if !isInSet(second, x) && isRectangle(a, first, second|1<<x) {
			return false
		}
	}
	return true
}

// fullOf tries all lists of two sets, those with lesser first ones ahead.
func fullOf(a []int) [][]int {
	full := [][]int{}
	for first := range 1 << len(a) {
		for second := range 1 << len(a) {
			if isFull(a, first, second) {
				full = append(full, []int{first, second})
			}
		}
	}
	return full
}

// polarOf is the polar by its definition.
func polarOf(a []int, set int) int {
	return setWhere(len(a), func(y int) bool { return isRectangle(a, set, 1<<y) })
}

// closedOf has all points that are related to all of the polar.
func closedOf(a []int, set int) int {
	polar := polarOf(a, set)
	return setWhere(len(a), func(x int) bool { return isRectangle(a, 1<<x, polar) })
}

// leastFirst returns the first set of a full rectangle that has a set and is part of all others that have it; it is -1 without such a set.
func leastFirst(full [][]int, set int) int {
	common := -1
	for _, one := range full {
		if set&^one[0] == 0 {
			common &= one[0]
		}
	}
	for _, one := range full {
		if one[0] == common {
			return common
		}
	}
	return -1
}

// codeOf is what relationAt takes for a relation.
func codeOf(a []int) int {
	code := 0
	for i, row := range a {
		code += row << (len(a) * i)
	}
	return code
}

// rectangleCodes returns the codes of the relations with the pairs of one rectangle.
func rectangleCodes(n int) []int {
	codes := []int{}
	for first := range 1 << n {
		for second := range 1 << n {
			codes = append(codes, codeOf(inRectangles(n, [][]int{{first, second}})))
		}
	}
	return codes
}

// ranksOn returns the rank of each relation on n points at the place of its code. It puts one more rectangle to the relations of each
// rank: those that come up first then have the next rank.
func ranksOn(n int) []int {
	rectangles := rectangleCodes(n)
	ranks := slices.Repeat([]int{-1}, 1<<(n*n))
	ranks[0] = 0
	for reached := []int{0}; len(reached) > 0; {
		next := []int{}
		for _, code := range reached {
			for _, one := range rectangles {
				if ranks[code|one] < 0 {
					ranks[code|one] = ranks[code] + 1
					next = append(next, code|one)
				}
			}
		}
		reached = next
	}
	return ranks
}

// isStepped is a stepped relation by its definition: rows that have a common point are equal.
func isStepped(a []int) bool {
	for _, row := range a {
		for _, other := range a {
			if row&other != 0 && row != other {
				return false
			}
		}
	}
	return true
}

// steppedOn returns every stepped relation on n points.
func steppedOn(n int) [][]int {
	return slices.DeleteFunc(slices.Collect(relationsOn(n)), func(a []int) bool { return !isStepped(a) })
}

// stepOf gives rows with a common point both all points of both, until there are no such two that differ.
func stepOf(a []int) []int {
	step := slices.Clone(a)
	for !isStepped(step) {
		for x := range step {
			for y := range step {
				if step[x]&step[y] != 0 {
					step[x] |= step[y]
				}
			}
		}
	}
	return step
}

// leastCodeAmong has the pairs that all relations with some codes have that are above a relation.
func leastCodeAmong(code int, codes []int) int {
	least := -1
	for _, above := range codes {
		if code&^above == 0 {
			least &= above
		}
	}
	return least
}

// blocksOf makes, in ascending order, each point a block with those of the same row that is in none yet.
func blocksOf(a []int) [][]int {
	blocks := [][]int{}
	for x, row := range a {
		isTold := slices.ContainsFunc(blocks, func(one []int) bool { return isInSet(one[0], x) })
		if row != 0 && !isTold {
			blocks = append(blocks, []int{setWhere(len(a), func(y int) bool { return a[y] == row }), row})
		}
	}
	return blocks
}
