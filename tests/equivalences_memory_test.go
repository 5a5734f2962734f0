package tests

import (
	"slices"
	"testing"

	"loop.example/fewrelations/impl"
)

func TestEquivalencesShareNoMemory(t *testing.T) {
	ofTwo := map[string]func([]int, []int) ([]int, bool){"EquMeet": impl.EquMeet, "EquJoin": impl.EquJoin}
	for e, f := range pairsOfEquivalences() {
		for name, made := range ofTwo {
			wantOwnMemory(t, name, func(lists [][]int) ([]int, bool) { return made(lists[0], lists[1]) }, e, f)
		}
	}
	for n := 1; n <= pointsMax; n++ {
		for _, e := range equivalencesOn(n) {
			wantOwnMemory(t, "EquClasses", func(lists [][]int) ([]int, bool) { return impl.EquClasses(lists[0]) }, e)
			for a := range someRelationsOn(n) {
				wantOwnMemory(t, "EquQuotient", func(lists [][]int) ([]int, bool) { return impl.EquQuotient(lists[0], lists[1]) }, a, e)
			}
		}
		for _, classes := range partitionsOn(n) {
			wantOwnMemory(t, "EquOf", func(lists [][]int) ([]int, bool) { return impl.EquOf(n, lists[0]) }, classes)
		}
		for a := range someRelationsOn(n) {
			wantOwnMemory(t, "EquKernel", func(lists [][]int) ([]int, bool) { return impl.EquKernel(lists[0]) }, a)
		}
	}
}

func TestTheSameEquivalenceForBothIsLeftAsItIs(t *testing.T) {
	for n := 1; n <= pointsMax; n++ {
		for _, e := range equivalencesOn(n) {
			before := slices.Clone(e)
			wantMeetAndJoin(t, e, e, before, before)
			spoil(madeByTwo(t, "EquMeet", impl.EquMeet, e, e))
			spoil(madeByTwo(t, "EquJoin", impl.EquJoin, e, e))
			spoil(madeByTwo(t, "EquQuotient", impl.EquQuotient, e, e))
			if !impl.EquKept(e, e) || !slices.Equal(e, before) {
				t.Fatalf("%v became %v", before, e)
			}
		}
	}
}

// callChapter4 calls each function of the chapter.
func callChapter4(a, b []int) {
	impl.EquIn(a)
	impl.EquClasses(a)
	impl.EquOf(len(a), a)
	impl.EquOf(len(a), b)
	impl.EquMeet(a, b)
	impl.EquJoin(a, b)
	impl.EquKernel(a)
	impl.EquQuotient(a, b)
	impl.EquCount(len(a))
	impl.EquKept(a, b)
}

func TestChapter4LeavesItsArguments(t *testing.T) {
	lists := noRelations()
	for n := 1; n <= pointsMax; n++ {
		lists = slices.AppendSeq(lists, someRelationsOn(n))
		lists = append(lists, equivalencesOn(n)...)
		lists = append(lists, partitionsOn(n)...)
	}
	for _, list := range lists {
		for n := 1; n <= pointsMax; n++ {
			for _, beside := range equivalencesOn(n) {
				first, wholeFirst := roomy(list)
				second, wholeSecond := roomy(beside)
				beforeFirst, beforeSecond := slices.Clone(wholeFirst), slices.Clone(wholeSecond)
				callChapter4(first, second)
				callChapter4(second, first)
				callChapter4(first, first)
				if !slices.Equal(wholeFirst, beforeFirst) || !slices.Equal(wholeSecond, beforeSecond) {
					t.Fatalf("%v and %v became %v and %v", beforeFirst, beforeSecond, wholeFirst, wholeSecond)
				}
			}
		}
	}
}

// Calls that fail, and calls for other lists, must leave nothing that a later call sees.
func TestEquivalencesKeepNothingBetweenCalls(t *testing.T) {
	for range 3 {
		for _, e := range [][]int{{7, 7, 7}, {3, 7, 6}, {1, 2}, {-1, 0, 0}, {15, 15, 15, 15}, nil} {
			callChapter4(e, []int{3, 3, 4})
			callChapter4([]int{3, 3, 4}, e)
		}
		wantClasses(t, []int{3, 3, 4}, []int{3, 4})
		wantEquivalence(t, 3, []int{5, 2}, []int{5, 2, 5})
		wantMeetAndJoin(t, []int{3, 3, 4}, []int{3, 3, 4}, []int{3, 3, 4}, []int{3, 3, 4})
		wantKernel(t, []int{2, 4, 0}, []int{1, 2, 4})
		wantQuotient(t, []int{2, 4, 0}, []int{3, 3, 4}, []int{3, 0})
		wantKept(t, []int{3, 3, 4}, []int{4, 4, 0}, true)
		if count, ok := impl.EquCount(3); !ok || count != 5 {
			t.Fatalf("EquCount(3) returned %d, %v", count, ok)
		}
	}
}
