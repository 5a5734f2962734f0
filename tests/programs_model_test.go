package tests

import (
	"iter"

	"loop.example/fewrelations/impl"
)

// setFunction is a function of a program and a set that returns a set.
type setFunction struct {
	name string
	call func(a []int, set int) (int, bool)
}

// endsOn is ProgEnds with the program ahead of the test.
func endsOn(a []int, test int) (int, bool) {
	return impl.ProgEnds(test, a)
}

func setFunctions() []setFunction {
	return []setFunction{
		{"ProgAfter", impl.ProgAfter},
		{"ProgBefore", impl.ProgBefore},
		{"ProgSurely", impl.ProgSurely},
		{"ProgEnds", endsOn},
		{"ProgKept", impl.ProgKept},
		{"ProgLargest", impl.ProgLargest},
	}
}

// programsAndSets yields every relation with every set of its points.
func programsAndSets() iter.Seq2[[]int, int] {
	return func(yield func([]int, int) bool) {
		for a := range allRelations() {
			for set := range 1 << len(a) {
				if !yield(a, set) {
					return
				}
			}
		}
	}
}

// twoProgramsAndTests yields every two relations on at most two points, some on more, each two with every test.
func twoProgramsAndTests() iter.Seq2[[2][]int, int] {
	return func(yield func([2][]int, int) bool) {
		for a, b := range somePairsOfRelations() {
			for test := range 1 << len(a) {
				if !yield([2][]int{a, b}, test) {
					return
				}
			}
		}
	}
}

func allStates(n int) int {
	return 1<<n - 1
}

// leadsOutside reports whether a program leads from some state of the first set to one outside of the second one.
func leadsOutside(a []int, pre, post int) bool {
	for x := range a {
		for y := range a {
			if isInSet(pre, x) && relates(a, x, y) && !isInSet(post, y) {
				return true
			}
		}
	}
	return false
}

// leadsInto reports whether a program leads from a state to some state of a set.
func leadsInto(a []int, x, set int) bool {
	for y := range a {
		if isInSet(set, y) && relates(a, x, y) {
			return true
		}
	}
	return false
}

func beforeOf(a []int, set int) int {
	return setWhere(len(a), func(x int) bool { return leadsInto(a, x, set) })
}

func surelyOf(a []int, set int) int {
	return setWhere(len(a), func(x int) bool { return !leadsOutside(a, 1<<x, set) })
}

func branchOf(test int, a, b []int) []int {
	return relationWhere(len(a), func(x, y int) bool {
		if isInSet(test, x) {
			return relates(a, x, y)
		}
		return relates(b, x, y)
	})
}

// loopOf goes all ways from each state, each one up to its first state outside of the test, or to one at which it has been before.
func loopOf(test int, a []int) []int {
	loop := noPairs(len(a))
	for x := range a {
		met := 0
		var goOn func(state int)
		goOn = func(state int) {
			if isInSet(met, state) {
				return
			}
			met += 1 << state
			if !isInSet(test, state) {
				loop[x] += 1 << state
				return
			}
			for y := range a {
				if relates(a, state, y) {
					goOn(y)
				}
			}
		}
		goOn(x)
	}
	return loop
}

// hasWay reports whether some way of so many steps from a state has states of the test alone.
func hasWay(test int, a []int, state, steps int) bool {
	if !isInSet(test, state) || steps == 0 {
		return isInSet(test, state)
	}
	for y := range a {
		if relates(a, state, y) && hasWay(test, a, y, steps-1) {
			return true
		}
	}
	return false
}

// endedOf tries ways of as many steps as there are states: these come to some state again, and so may go on without end.
func endedOf(test int, a []int) int {
	return setWhere(len(a), func(x int) bool { return !hasWay(test, a, x, len(a)) })
}

// keptSets returns every set from which a program leads to no other state.
func keptSets(a []int) []int {
	kept := []int{}
	for set := range 1 << len(a) {
		if !leadsOutside(a, set, set) {
			kept = append(kept, set)
		}
	}
	return kept
}

// leastWith returns, of those of some sets that have a set, the one that is part of all others; it is -1 if none is.
func leastWith(sets []int, set int) int {
	having := []int{}
	for _, one := range sets {
		if isPart(set, one) {
			having = append(having, one)
		}
	}
	for _, least := range having {
		if isPartOfAll(least, having) {
			return least
		}
	}
	return -1
}

func isPartOfAll(set int, sets []int) bool {
	for _, one := range sets {
		if !isPart(set, one) {
			return false
		}
	}
	return true
}

// greatestIn returns, of those of some sets that are part of a set, the one that has all others; it is -1 if none has.
func greatestIn(sets []int, set int) int {
	together := 0
	for _, one := range sets {
		if isPart(one, set) {
			together |= one
		}
	}
	for _, greatest := range sets {
		if greatest == together {
			return greatest
		}
	}
	return -1
}
