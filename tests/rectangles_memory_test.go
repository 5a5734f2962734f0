package tests

import (
	"slices"
	"testing"

	"loop.example/fewrelations/impl"
)

func TestRectanglesShareNoMemory(t *testing.T) {
	for n := 1; n <= pointsMax; n++ {
		for a := range someRelationsOn(n) {
			wantOwnLists(t, "RectAll", impl.RectAll, a)
			wantOwnMemory(t, "RectStep", func(lists [][]int) ([]int, bool) { return impl.RectStep(lists[0]) }, a)
			full := listsMadeBy(t, "RectAll", impl.RectAll, a)
			wantOwnMemory(t, "RectOf", func(lists [][]int) ([]int, bool) { return impl.RectOf(n, lists) }, full...)
		}
		for _, a := range steppedOn(n) {
			wantOwnLists(t, "RectBlocks", impl.RectBlocks, a)
			wantOwnMemory(t, "RectStep", func(lists [][]int) ([]int, bool) { return impl.RectStep(lists[0]) }, a)
		}
		wantOwnMemory(t, "RectOf", func(lists [][]int) ([]int, bool) { return impl.RectOf(n, lists) })
	}
}

func TestRectOfLeavesTheListOfRectangles(t *testing.T) {
	list := make([][]int, 3, 5)
	list[0], list[1], list[2] = []int{2, 1}, []int{0, 7}, []int{2, 1}
	wantInRectangles(t, 3, list, []int{0, 1, 0})
	wantLists(t, "the list of rectangles", list[:5], true, [][]int{{2, 1}, {0, 7}, {2, 1}, nil, nil})
	list[1][1] = 8
	wantNotInRectangles(t, 3, list)
	wantLists(t, "the list with one that is none", list[:5], true, [][]int{{2, 1}, {0, 8}, {2, 1}, nil, nil})
}

// callChapter6 calls each function of the chapter.
func callChapter6(a []int, set int) {
	impl.RectAll(a)
	impl.RectPolar(a, set)
	impl.RectClosed(a, set)
	impl.RectRank(a)
	impl.RectStepped(a)
	impl.RectStep(a)
	impl.RectBlocks(a)
	impl.RectOf(set, [][]int{a})
	impl.RectOf(len(a), [][]int{a, a})
}

func TestChapter6LeavesItsArguments(t *testing.T) {
	lists := noRelations()
	for n := 1; n <= pointsMax; n++ {
		lists = slices.AppendSeq(lists, someRelationsOn(n))
		lists = append(lists, steppedOn(n)...)
	}
	for _, list := range lists {
		given, whole := roomy(list)
		before := slices.Clone(whole)
		for set := -1; set <= 16; set++ {
			callChapter6(given, set)
		}
		if !slices.Equal(whole, before) {
			t.Fatalf("%v became %v", before, whole)
		}
	}
}

// Calls that fail, and calls for other relations, must leave nothing that a later call sees.
func TestRectanglesKeepNothingBetweenCalls(t *testing.T) {
	for range 3 {
		for _, a := range [][]int{{7, 7, 7}, {6, 5, 3}, {1, 2}, {14, 13, 11, 7}, {-1, 0, 0}, {0, 0, 0}, {3, 3}, nil} {
			callChapter6(a, 0)
			callChapter6(a, 3)
		}
		wantFull(t, []int{6, 4, 0}, [][]int{{0, 7}, {1, 6}, {3, 4}, {7, 0}})
		wantPolarAndClosed(t, []int{6, 4, 0}, 2, 4, 3)
		wantRank(t, []int{6, 4, 0}, 2)
		wantStepped(t, []int{6, 4, 0}, false)
		wantStepped(t, []int{6, 6, 0}, true)
		wantStep(t, []int{6, 4, 0}, []int{6, 6, 0})
		wantNoBlocks(t, []int{6, 4, 0})
		wantBlocks(t, []int{6, 6, 1}, [][]int{{3, 6}, {4, 1}})
		wantInRectangles(t, 3, [][]int{{1, 6}, {3, 4}}, []int{6, 4, 0})
		wantNotInRectangles(t, 3, [][]int{{1, 6}, {8, 4}})
	}
}
