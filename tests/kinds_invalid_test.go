package tests

import (
	"fmt"
	"math"
	"slices"
	"testing"

	"loop.example/fewrelations/impl"
)

// fewTexts are texts of kinds that each function takes which takes their letters.
func fewTexts() []string {
	return []string{"", "s", "i", "r", "t", "rst", "is", kindLetters}
}

// fewRelations returns relations on n points of different kinds.
func fewRelations(n int) [][]int {
	return [][]int{noPairs(n), samePoints(n), allPairs(n)}
}

func wantNothingByKinds(t *testing.T, a []int, kinds string) {
	t.Helper()
	if impl.KindIn(a, kinds) {
		t.Fatalf("KindIn(%v, %q) holds", a, kinds)
	}
	wantNothingMade(t, a, kinds)
}

func wantNothingMade(t *testing.T, a []int, kinds string) {
	t.Helper()
	least, ok := impl.KindLeast(a, kinds)
	wantNoList(t, fmt.Sprintf("KindLeast(%v, %q)", a, kinds), least, ok)
	most, ok := impl.KindMost(a, kinds)
	wantNoList(t, fmt.Sprintf("KindMost(%v, %q)", a, kinds), most, ok)
}

func wantNoCount(t *testing.T, n int, kinds string) {
	t.Helper()
	if count, ok := impl.KindCount(n, kinds); ok || count != 0 {
		t.Fatalf("KindCount(%d, %q) returned %d, %v, and not 0, false", n, kinds, count, ok)
	}
}

func TestKindsFailForOtherLists(t *testing.T) {
	for _, bad := range noRelations() {
		for _, kinds := range append(fewTexts(), "x", "rr", "\xff") {
			wantNothingByKinds(t, bad, kinds)
		}
		for i := range len(kindLetters) {
			wantNothingByKinds(t, bad, kindLetters[i:i+1])
		}
		if kinds, ok := impl.KindAll(bad); ok || kinds != "" {
			t.Errorf("KindAll(%v) returned %q, %v", bad, kinds, ok)
		}
		p, ok := impl.KindMap(bad)
		wantNoList(t, fmt.Sprintf("KindMap(%v)", bad), p, ok)
		turning, oneWay, ok := impl.KindSplit(bad)
		wantNoList(t, fmt.Sprintf("the first one of KindSplit(%v)", bad), turning, ok)
		wantNoList(t, fmt.Sprintf("the second one of KindSplit(%v)", bad), oneWay, ok)
	}
}

func TestKindsFailForOtherTexts(t *testing.T) {
	for _, kinds := range noKinds() {
		for n := 1; n <= pointsMax; n++ {
			for _, a := range fewRelations(n) {
				wantNothingByKinds(t, a, kinds)
			}
			wantNoCount(t, n, kinds)
		}
	}
}

// The texts tell kinds of which the relation is, so that none fails because of a kind that it lacks; both together have all kinds.
func TestTextsWithALetterTwiceFailForEachLetter(t *testing.T) {
	for _, a := range [][]int{{0}, {1}} {
		all := kindsOf(a)
		for i := range len(all) {
			for _, kinds := range []string{all + all[i:i+1], all[i:i+1] + all, all[i:i+1] + all[i:i+1]} {
				wantNothingByKinds(t, a, kinds)
			}
		}
	}
}

func TestKindLeastAndKindMostFailForOtherLetters(t *testing.T) {
	for n := 1; n <= pointsMax; n++ {
		for _, a := range fewRelations(n) {
			for _, kinds := range notOf("rst") {
				got, ok := impl.KindLeast(a, kinds)
				wantNoList(t, fmt.Sprintf("KindLeast(%v, %q)", a, kinds), got, ok)
			}
			for _, kinds := range notOf("is") {
				got, ok := impl.KindMost(a, kinds)
				wantNoList(t, fmt.Sprintf("KindMost(%v, %q)", a, kinds), got, ok)
			}
		}
	}
}

func TestKindCountFailsForOtherNumbersOfPoints(t *testing.T) {
	for _, n := range []int{0, -1, -3, 4, 5, 64, 1 << 32, 1<<32 + 1, math.MinInt, math.MaxInt} {
		for _, kinds := range append(fewTexts(), "x", "rr") {
			wantNoCount(t, n, kinds)
		}
	}
}

func TestKindMapFailsForWhatIsNoMap(t *testing.T) {
	for _, a := range [][]int{
		{0}, {0, 0}, {1, 0}, {0, 2}, {3, 1}, {1, 3}, {3, 3}, {3, 0},
		{1, 2, 0}, {0, 1, 2}, {1, 2, 5}, {7, 7, 7}, {0, 0, 0},
		{0, 0, 0, 0}, {1, 2, 4, 0}, {1, 2, 4, 9}, {15, 15, 15, 15},
	} {
		got, ok := impl.KindMap(a)
		wantNoList(t, fmt.Sprintf("KindMap(%v)", a), got, ok)
	}
}

func TestKindOfMapFailsForOtherLists(t *testing.T) {
	lists := [][]int{nil, {}, {0, 0, 0, 0, 0}, {0, 1, 2, 3, 4}, {4, 4, 4, 4, 4, 4}, make([]int, 1000)}
	for n := 1; n <= pointsMax; n++ {
		for i := range n {
			for _, bad := range []int{-1, n, n + 1, 4, 64, 1 << 32, -1 << 32, math.MinInt, math.MaxInt} {
				list := slices.Repeat([]int{n - 1}, n)
				list[i] = bad
				lists = append(lists, list)
			}
		}
	}
	for _, p := range lists {
		got, ok := impl.KindOfMap(p)
		wantNoList(t, fmt.Sprintf("KindOfMap(%v)", p), got, ok)
	}
}
