package tests

import (
	"slices"
	"testing"

	"loop.example/fewrelations/impl"
)

func TestSpacesShareNoMemory(t *testing.T) {
	ofOne := map[string]func([]int) ([]int, bool){"SpaceOf": impl.SpaceOf, "RegularMost": impl.RegularMost}
	wantOwn := func(a []int) {
		t.Helper()
		for name, f := range ofOne {
			wantOwnMemory(t, name, func(lists [][]int) ([]int, bool) { return f(lists[0]) }, a)
		}
		if isRegular(a) {
			wantOwnMemory(t, "RegularBack", func(lists [][]int) ([]int, bool) { return impl.RegularBack(lists[0]) }, a)
		}
	}
	for n := 1; n <= pointsMax; n++ {
		for a := range someRelationsOn(n) {
			wantOwn(a)
		}
		for _, found := range spacesOn(n) {
			wantOwn(found.first)
		}
	}
}

// callChapter7 calls each function of the chapter.
func callChapter7(a, b []int, x, y int) {
	impl.SpaceOf(a)
	impl.SpaceMeet(a, x, y)
	impl.SpaceEven(a)
	impl.SpaceSame(a, b)
	impl.RegularIn(a)
	impl.RegularMost(a)
	impl.RegularBack(a)
	impl.RegularCount(x)
	impl.RegularSquare(y)
}

func TestChapter7LeavesItsArguments(t *testing.T) {
	lists := noRelations()
	for n := 1; n <= pointsMax; n++ {
		lists = slices.AppendSeq(lists, someRelationsOn(n))
	}
	for _, list := range lists {
		given, whole := roomy(list)
		beside, wholeBeside := roomy(allPairs(pointsMax))
		before, beforeBeside := slices.Clone(whole), slices.Clone(wholeBeside)
		for _, x := range []int{-1, 0, 1, 15, 16} {
			callChapter7(given, given, x, 0)
			callChapter7(given, beside, 0, x)
			callChapter7(beside, given, x, x)
		}
		if !slices.Equal(whole, before) || !slices.Equal(wholeBeside, beforeBeside) {
			t.Fatalf("%v became %v, or %v became %v", before, whole, beforeBeside, wholeBeside)
		}
	}
}

// Calls that fail, and calls for other relations, must leave nothing that a later call sees.
func TestSpacesKeepNothingBetweenCalls(t *testing.T) {
	for range 3 {
		for _, a := range [][]int{{7, 7, 7}, {6, 5, 3}, {1, 2}, {14, 13, 11, 7}, {-1, 0, 0}, {0, 0, 0}, {3, 3}, nil} {
			callChapter7(a, []int{1, 2, 4}, 0, 3)
			callChapter7(a, a, 2, 4)
		}
		wantSpace(t, []int{6, 4, 0}, []int{0, 4, 6})
		wantMeet(t, []int{3, 6, 2}, 3, 6, 2)
		wantNoMeet(t, []int{3, 6, 0}, 3, 2)
		wantEven(t, []int{6, 4, 0}, true)
		wantEven(t, []int{6, 5, 3}, false)
		wantSameSpace(t, []int{6, 4, 0}, []int{4, 4, 6}, true)
		wantSameSpace(t, []int{6, 4, 0}, []int{4, 2, 6}, false)
		wantRegular(t, []int{6, 4, 0}, true)
		wantRegular(t, []int{6, 5, 3}, false)
		wantMost(t, []int{1, 2, 3}, []int{1, 2, 7})
		wantBack(t, []int{1, 2, 3}, []int{1, 2, 3})
		wantNoBack(t, []int{1, 3, 6})
		wantCounts(t, 2, 16, 11)
		wantNoRegularCounts(t, 4)
	}
}
