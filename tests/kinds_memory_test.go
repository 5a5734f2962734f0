package tests

import (
	"slices"
	"testing"

	"loop.example/fewrelations/impl"
)

func TestKindsShareNoMemory(t *testing.T) {
	for n := 1; n <= pointsMax; n++ {
		for a := range someRelationsOn(n) {
			for kinds := range partsOf("rst") {
				wantOwnMemory(t, "KindLeast of "+kinds, func(lists [][]int) ([]int, bool) { return impl.KindLeast(lists[0], kinds) }, a)
			}
			for kinds := range partsOf("is") {
				wantOwnMemory(t, "KindMost of "+kinds, func(lists [][]int) ([]int, bool) { return impl.KindMost(lists[0], kinds) }, a)
			}
		}
		for p := range mapsOf(n) {
			wantOwnMemory(t, "KindOfMap", func(lists [][]int) ([]int, bool) { return impl.KindOfMap(lists[0]) }, p)
			wantOwnMemory(t, "KindMap", func(lists [][]int) ([]int, bool) { return impl.KindMap(lists[0]) }, relationOfMap(p))
		}
	}
}

func TestKindSplitSharesNoMemory(t *testing.T) {
	for n := 1; n <= pointsMax; n++ {
		for a := range someRelationsOn(n) {
			wantTwoOwnLists(t, "KindSplit", impl.KindSplit, a)
		}
	}
}

// callChapter3 calls each function of the chapter.
func callChapter3(a []int, kinds string) {
	impl.KindIn(a, kinds)
	impl.KindAll(a)
	impl.KindCount(len(a), kinds)
	impl.KindLeast(a, kinds)
	impl.KindMost(a, kinds)
	impl.KindMap(a)
	impl.KindOfMap(a)
	impl.KindSplit(a)
}

func TestChapter3LeavesItsArguments(t *testing.T) {
	lists := noRelations()
	for n := 1; n <= pointsMax; n++ {
		lists = slices.AppendSeq(lists, someRelationsOn(n))
		lists = slices.AppendSeq(lists, mapsOf(n))
	}
	for _, list := range lists {
		given, whole := roomy(list)
		before := slices.Clone(whole)
		for _, kinds := range append(fewTexts(), "x", "rr", "\xff") {
			callChapter3(given, kinds)
		}
		if !slices.Equal(whole, before) {
			t.Fatalf("%v became %v", before, whole)
		}
	}
}

// Calls that fail, and calls for other relations, must leave nothing that a later call sees.
func TestKindsKeepNothingBetweenCalls(t *testing.T) {
	for range 3 {
		for _, kinds := range []string{"rx", "rr", "rst", "is", kindLetters} {
			callChapter3([]int{2, 4, 0}, kinds)
			callChapter3([]int{0, 4, 0}, kinds)
		}
		wantKinds(t, []int{2, 4, 0}, "iafj")
		wantCount(t, 3, "rst", 5)
		wantSplit(t, []int{2, 4, 0}, []int{0, 0, 0}, []int{2, 4, 0})
		least, ok := impl.KindLeast([]int{2, 4, 0}, "tr")
		wantList(t, "KindLeast", least, ok, []int{7, 6, 4})
		most, ok := impl.KindMost([]int{3, 3, 0}, "si")
		wantList(t, "KindMost", most, ok, []int{2, 1, 0})
	}
}
