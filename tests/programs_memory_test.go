package tests

import (
	"slices"
	"testing"

	"loop.example/fewrelations/impl"
)

func TestProgramsShareNoMemory(t *testing.T) {
	for n := 1; n <= pointsMax; n++ {
		for a := range someRelationsOn(n) {
			for test := range 1 << n {
				wantOwnMemory(t, "ProgWhile", func(lists [][]int) ([]int, bool) { return impl.ProgWhile(test, lists[0]) }, a)
				for _, b := range [][]int{a, noPairs(n), allPairs(n)} {
					wantOwnMemory(t, "ProgIf", func(lists [][]int) ([]int, bool) { return impl.ProgIf(test, lists[0], lists[1]) }, a, b)
				}
			}
		}
	}
}

func TestProgIfLeavesTheSameListForBoth(t *testing.T) {
	for a := range someRelationsOn(3) {
		before := slices.Clone(a)
		got, ok := impl.ProgIf(5, a, a)
		wantList(t, "ProgIf of a program and itself", got, ok, before)
		spoil(got)
		wantList(t, "the program behind a change of what is made", a, true, before)
	}
}

// callChapter8 calls each function of the chapter.
func callChapter8(a, b []int, x, y int) {
	for _, f := range setFunctions() {
		f.call(a, x)
		f.call(b, y)
	}
	impl.ProgTriple(x, a, y)
	impl.ProgTriple(y, b, x)
	impl.ProgIf(x, a, b)
	impl.ProgIf(y, b, a)
	impl.ProgWhile(x, a)
	impl.ProgWhile(y, b)
}

func TestChapter8LeavesItsArguments(t *testing.T) {
	lists := noRelations()
	for n := 1; n <= pointsMax; n++ {
		lists = slices.AppendSeq(lists, someRelationsOn(n))
	}
	for _, list := range lists {
		given, whole := roomy(list)
		beside, wholeBeside := roomy(allPairs(pointsMax))
		before, beforeBeside := slices.Clone(whole), slices.Clone(wholeBeside)
		for _, x := range []int{-1, 0, 1, 2, 5, 15, 16} {
			callChapter8(given, given, x, 0)
			callChapter8(given, beside, 0, x)
			callChapter8(beside, given, x, x)
		}
		if !slices.Equal(whole, before) || !slices.Equal(wholeBeside, beforeBeside) {
			t.Fatalf("%v became %v, or %v became %v", before, whole, beforeBeside, wholeBeside)
		}
	}
}

// Calls that fail, and calls for other programs, must leave nothing that a later call sees.
func TestProgramsKeepNothingBetweenCalls(t *testing.T) {
	for range 3 {
		for _, a := range [][]int{{7, 7, 7}, {2, 4, 1}, {1, 2}, {14, 13, 11, 7}, {-1, 0, 0}, {0, 0, 0}, {3, 3}, nil} {
			callChapter8(a, []int{1, 2, 4}, 0, 3)
			callChapter8(a, a, 2, 16)
		}
		a := []int{2, 4, 0}
		wantSet(t, "ProgAfter", impl.ProgAfter, a, 3, 6)
		wantSet(t, "ProgBefore", impl.ProgBefore, a, 6, 3)
		wantSet(t, "ProgSurely", impl.ProgSurely, a, 4, 6)
		wantTriple(t, 3, a, 6, true)
		wantTriple(t, 3, a, 4, false)
		wantIf(t, 6, a, []int{7, 7, 7}, []int{7, 4, 0})
		wantNoIf(t, 6, a, []int{7, 7, 8})
		wantWhile(t, 3, a, []int{4, 4, 4})
		wantNoWhile(t, 8, a)
		wantEnds(t, 3, a, 7)
		wantEnds(t, 1, []int{3, 2}, 2)
		wantSet(t, "ProgKept", impl.ProgKept, a, 2, 6)
		wantSet(t, "ProgLargest", impl.ProgLargest, a, 5, 4)
		wantNoSets(t, a, 8)
	}
}
