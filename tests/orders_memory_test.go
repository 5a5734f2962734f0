package tests

import (
	"slices"
	"testing"

	"loop.example/fewrelations/impl"
)

func TestOrdersShareNoMemory(t *testing.T) {
	ofOne := map[string]func([]int) ([]int, bool){"OrderCovers": impl.OrderCovers, "OrderOf": impl.OrderOf, "OrderFirst": impl.OrderFirst}
	for o := range allOrders() {
		for name, f := range ofOne {
			wantOwnMemory(t, name, func(lists [][]int) ([]int, bool) { return f(lists[0]) }, o)
		}
		wantOwnMemory(t, "OrderOf", func(lists [][]int) ([]int, bool) { return impl.OrderOf(lists[0]) }, coversOf(o))
	}
}

func TestOrderClassesShareNoMemory(t *testing.T) {
	for n := 1; n <= pointsMax; n++ {
		for _, p := range preordersOn(n) {
			wantTwoOwnLists(t, "OrderClasses", impl.OrderClasses, p)
		}
	}
}

// callChapter5 calls each function of the chapter.
func callChapter5(a []int, set int) {
	impl.OrderIn(a)
	impl.OrderCovers(a)
	impl.OrderOf(a)
	impl.OrderBound(a, set)
	impl.OrderLattice(a)
	impl.OrderWays(a)
	impl.OrderFirst(a)
	impl.OrderSizes(a)
	impl.OrderClasses(a)
}

func TestChapter5LeavesItsArguments(t *testing.T) {
	lists := noRelations()
	for n := 1; n <= pointsMax; n++ {
		lists = slices.AppendSeq(lists, someRelationsOn(n))
		lists = append(lists, preordersOn(n)...)
	}
	for _, list := range lists {
		given, whole := roomy(list)
		before := slices.Clone(whole)
		for set := -1; set <= 16; set++ {
			callChapter5(given, set)
		}
		if !slices.Equal(whole, before) {
			t.Fatalf("%v became %v", before, whole)
		}
	}
}

// Calls that fail, and calls for other relations, must leave nothing that a later call sees.
func TestOrdersKeepNothingBetweenCalls(t *testing.T) {
	for range 3 {
		for _, a := range [][]int{{7, 7, 7}, {3, 6, 4}, {1, 2}, {1, 2, 4, 8}, {-1, 0, 0}, {15, 14, 12, 8}, nil} {
			callChapter5(a, 0)
			callChapter5(a, 3)
		}
		wantCovers(t, []int{7, 2, 4}, []int{6, 0, 0})
		wantLeastOrder(t, []int{6, 0, 0}, []int{7, 2, 4})
		wantNoLeastOrder(t, []int{2, 1, 0})
		wantBound(t, []int{7, 2, 4}, 0, 0)
		wantBound(t, []int{7, 2, 4}, 6, -1)
		wantLattice(t, []int{7, 2, 4}, false)
		wantLattice(t, []int{7, 6, 4}, true)
		wantWays(t, []int{7, 2, 4}, 2, []int{0, 1, 2})
		wantSizes(t, []int{7, 2, 4}, 2, 2)
		wantOrderClasses(t, []int{3, 3, 7}, []int{3, 3, 4}, []int{1, 3})
	}
}
