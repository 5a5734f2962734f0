package tests

import (
	"fmt"
	"slices"
	"testing"

	"loop.example/fewrelations/impl"
)

// wantOwnMemory calls a function of lists, and checks that it changes none of them, not even behind their ends,
// that writing over its result changes none of them nor the next result, and that writing over them leaves the result.
func wantOwnMemory(t *testing.T, name string, f func(lists [][]int) ([]int, bool), lists ...[]int) {
	t.Helper()
	given, wholes, before := [][]int{}, [][]int{}, [][]int{}
	for _, list := range lists {
		part, whole := roomy(list)
		given, wholes, before = append(given, part), append(wholes, whole), append(before, slices.Clone(whole))
	}
	first, ok := f(given)
	if !ok {
		t.Fatalf("%s(%v) fails", name, lists)
	}
	want := slices.Clone(first)
	spoil(first)
	for i, whole := range wholes {
		if !slices.Equal(whole, before[i]) {
			t.Fatalf("%s(%v) changes an argument or shares its memory: %v", name, lists, whole)
		}
	}
	second, ok := f(given)
	wantList(t, fmt.Sprintf("%s(%v) once more", name, lists), second, ok, want)
	for _, whole := range wholes {
		spoil(whole)
	}
	wantList(t, fmt.Sprintf("%s(%v) behind a change of its arguments", name, lists), second, ok, want)
}

// wantTwoOwnLists is wantOwnMemory for each of two lists that a function of a list returns; they share none with each other either.
func wantTwoOwnLists(t *testing.T, name string, f func([]int) ([]int, []int, bool), a []int) {
	t.Helper()
	wantOwnMemory(t, "the first one of "+name, func(lists [][]int) ([]int, bool) {
		first, _, ok := f(lists[0])
		return first, ok
	}, a)
	wantOwnMemory(t, "the second one of "+name, func(lists [][]int) ([]int, bool) {
		_, second, ok := f(lists[0])
		return second, ok
	}, a)
	first, second, ok := f(a)
	wantFirst, wantSecond := slices.Clone(first), slices.Clone(second)
	spoil(first)
	wantList(t, "the second one of "+name+" behind a change of the first one", second, ok, wantSecond)
	first, second, ok = f(a)
	spoil(second)
	wantList(t, "the first one of "+name+" behind a change of the second one", first, ok, wantFirst)
}

// wantOwnLists is wantOwnMemory for a function that returns a list of lists; these share none with each other either.
func wantOwnLists(t *testing.T, name string, f func([]int) ([][]int, bool), a []int) {
	t.Helper()
	given, whole := roomy(a)
	before := slices.Clone(whole)
	first, ok := f(given)
	if !ok {
		t.Fatalf("%s(%v) fails", name, a)
	}
	want := [][]int{}
	for _, list := range first {
		want = append(want, slices.Clone(list))
	}
	for i, list := range first {
		spoil(list)
		for j := i + 1; j < len(first); j++ {
			if !slices.Equal(first[j], want[j]) {
				t.Fatalf("%s(%v): the lists %d and %d share memory", name, a, i, j)
			}
		}
	}
	clear(first[:cap(first)])
	if !slices.Equal(whole, before) {
		t.Fatalf("%s(%v) changes its argument or shares its memory: %v", name, a, whole)
	}
	second, ok := f(given)
	spoil(whole)
	wantLists(t, fmt.Sprintf("%s(%v) once more", name, a), second, ok, want)
}

func TestResultsShareNoMemory(t *testing.T) {
	ofOne := map[string]func([]int) ([]int, bool){"RelOther": impl.RelOther, "RelTurned": impl.RelTurned}
	ofTwo := map[string]func([]int, []int) ([]int, bool){"RelEither": impl.RelEither, "RelBoth": impl.RelBoth}
	for n := 1; n <= pointsMax; n++ {
		for a := range someRelationsOn(n) {
			for name, f := range ofOne {
				wantOwnMemory(t, name, func(lists [][]int) ([]int, bool) { return f(lists[0]) }, a)
			}
			for _, b := range [][]int{a, noPairs(n), allPairs(n)} {
				for name, f := range ofTwo {
					wantOwnMemory(t, name, func(lists [][]int) ([]int, bool) { return f(lists[0], lists[1]) }, a, b)
				}
			}
			for p := range renamings(n) {
				wantOwnMemory(t, "RelNamed", func(lists [][]int) ([]int, bool) { return impl.RelNamed(lists[0], lists[1]) }, a, p)
			}
		}
		wantOwnMemory(t, "RelSame", func(lists [][]int) ([]int, bool) { return impl.RelSame(n) })
		wantOwnMemory(t, "RelOf", func(lists [][]int) ([]int, bool) { return impl.RelOf(n, lists) }, []int{0, n - 1}, []int{n - 1, 0}, []int{0, n - 1})
	}
}

func TestTheSameListForBothIsLeftAsItIs(t *testing.T) {
	for a := range someRelationsOn(3) {
		before := slices.Clone(a)
		either := madeByTwo(t, "RelEither", impl.RelEither, a, a)
		both := madeByTwo(t, "RelBoth", impl.RelBoth, a, a)
		if !slices.Equal(either, before) || !slices.Equal(both, before) || !impl.RelBelow(a, a) {
			t.Fatalf("for %v twice: either %v, both %v", before, either, both)
		}
		spoil(either)
		spoil(both)
		if !slices.Equal(a, before) {
			t.Fatalf("%v became %v", before, a)
		}
	}
}

func TestRelOfLeavesTheListOfPairs(t *testing.T) {
	pairs := make([][]int, 3, 5)
	pairs[0], pairs[1], pairs[2] = []int{2, 1}, []int{0, 0}, []int{2, 1}
	if _, ok := impl.RelOf(3, pairs); !ok {
		t.Fatal("RelOf fails")
	}
	wantLists(t, "the list of pairs", pairs[:5], true, [][]int{{2, 1}, {0, 0}, {2, 1}, nil, nil})
}

func TestRelPairsShareNoMemory(t *testing.T) {
	for n := 1; n <= pointsMax; n++ {
		for a := range someRelationsOn(n) {
			wantOwnLists(t, "RelPairs", impl.RelPairs, a)
		}
	}
}

func TestPredicatesAndNumbersLeaveTheirArguments(t *testing.T) {
	for n := 1; n <= pointsMax; n++ {
		for a := range someRelationsOn(n) {
			given, whole := roomy(a)
			beside, wholeBeside := roomy(allPairs(n))
			before, beforeBeside := slices.Clone(whole), slices.Clone(wholeBeside)
			impl.RelIn(given)
			impl.RelBelow(given, beside)
			impl.RelEnds(given)
			impl.RelSize(given)
			if !slices.Equal(whole, before) || !slices.Equal(wholeBeside, beforeBeside) {
				t.Fatalf("%v became %v", before, whole)
			}
		}
	}
}

func TestInvalidArgumentsAreLeftAsTheyAre(t *testing.T) {
	for _, bad := range noRelations() {
		given, whole := roomy(bad)
		before := slices.Clone(whole)
		impl.RelIn(given)
		impl.RelPairs(given)
		impl.RelEither(given, given)
		impl.RelBoth(given, given)
		impl.RelOther(given)
		impl.RelTurned(given)
		impl.RelBelow(given, given)
		impl.RelNamed(given, given)
		impl.RelEnds(given)
		impl.RelSize(given)
		impl.RelOf(len(bad), [][]int{given})
		if !slices.Equal(whole, before) {
			t.Errorf("%v became %v", before, whole)
		}
	}
}
