package tests

import (
	"fmt"
	"slices"
	"testing"

	"loop.example/fewrelations/impl"
)

func TestCompositionsShareNoMemory(t *testing.T) {
	ofTwo := map[string]func([]int, []int) ([]int, bool){"CompOf": impl.CompOf, "CompLeft": impl.CompLeft, "CompRight": impl.CompRight}
	for n := 1; n <= pointsMax; n++ {
		for a := range someRelationsOn(n) {
			for _, b := range [][]int{a, noPairs(n), samePoints(n), allPairs(n)} {
				for name, f := range ofTwo {
					wantOwnMemory(t, name, func(lists [][]int) ([]int, bool) { return f(lists[0], lists[1]) }, a, b)
				}
				wantOwnMemory(t, "CompSolve", func(lists [][]int) ([]int, bool) { return impl.CompSolve(lists[0], lists[1]) }, a, composed(a, b))
				wantOwnMemory(t, "CompSolve", func(lists [][]int) ([]int, bool) { return impl.CompSolve(lists[0], lists[1]) }, samePoints(n), a)
			}
		}
	}
}

func TestPowersShareNoMemory(t *testing.T) {
	ofOne := map[string]func([]int) ([]int, bool){"CompReach": impl.CompReach, "CompStar": impl.CompStar}
	for _, k := range []int{0, 1, 2, powerMost} {
		ofOne[fmt.Sprintf("CompPower %d", k)] = func(a []int) ([]int, bool) { return impl.CompPower(a, k) }
	}
	for n := 1; n <= pointsMax; n++ {
		for a := range someRelationsOn(n) {
			for name, f := range ofOne {
				wantOwnMemory(t, name, func(lists [][]int) ([]int, bool) { return f(lists[0]) }, a)
			}
		}
	}
}

func TestTheSameListComposedIsLeftAsItIs(t *testing.T) {
	for a := range someRelationsOn(3) {
		before := slices.Clone(a)
		for name, f := range map[string]func([]int, []int) ([]int, bool){"CompOf": impl.CompOf, "CompLeft": impl.CompLeft, "CompRight": impl.CompRight, "CompSolve": impl.CompSolve} {
			spoil(madeByTwo(t, name, f, a, a))
			if !slices.Equal(a, before) {
				t.Fatalf("%s of %v twice makes it %v", name, before, a)
			}
		}
	}
}

// callChapter2 calls each function of the chapter.
func callChapter2(a, b []int, x, y int) {
	impl.CompOf(a, b)
	impl.CompLeft(a, b)
	impl.CompRight(a, b)
	impl.CompSolve(a, b)
	impl.CompReach(a)
	impl.CompStar(a)
	impl.CompPower(a, x)
	impl.CompFar(a, x, y)
	impl.CompIndex(a)
}

func TestChapter2LeavesItsArguments(t *testing.T) {
	lists := noRelations()
	for n := 1; n <= pointsMax; n++ {
		lists = slices.AppendSeq(lists, someRelationsOn(n))
	}
	for _, list := range lists {
		given, whole := roomy(list)
		beside, wholeBeside := roomy(allPairs(pointsMax))
		before, beforeBeside := slices.Clone(whole), slices.Clone(wholeBeside)
		for _, x := range []int{-1, 0, 1, pointsMax, powerMost, powerMost + 1} {
			callChapter2(given, given, x, 0)
			callChapter2(given, beside, 0, x)
			callChapter2(beside, given, x, x)
		}
		if !slices.Equal(whole, before) || !slices.Equal(wholeBeside, beforeBeside) {
			t.Fatalf("%v became %v, or %v became %v", before, whole, beforeBeside, wholeBeside)
		}
	}
}
