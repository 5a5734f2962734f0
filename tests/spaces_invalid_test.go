package tests

import (
	"fmt"
	"math"
	"testing"

	"loop.example/fewrelations/impl"
)

func wantNoMeet(t *testing.T, a []int, x, y int) {
	t.Helper()
	if got, ok := impl.SpaceMeet(a, x, y); ok || got != 0 {
		t.Fatalf("SpaceMeet(%v, %d, %d) returned %d, %v, and not 0, false", a, x, y, got, ok)
	}
}

func wantNoRegularCounts(t *testing.T, n int) {
	t.Helper()
	if got, ok := impl.RegularCount(n); ok || got != 0 {
		t.Fatalf("RegularCount(%d) returned %d, %v, and not 0, false", n, got, ok)
	}
	if got, ok := impl.RegularSquare(n); ok || got != 0 {
		t.Fatalf("RegularSquare(%d) returned %d, %v, and not 0, false", n, got, ok)
	}
}

func TestSpacesFailForOtherLists(t *testing.T) {
	for _, bad := range noRelations() {
		space, ok := impl.SpaceOf(bad)
		wantNoList(t, fmt.Sprintf("SpaceOf(%v)", bad), space, ok)
		most, ok := impl.RegularMost(bad)
		wantNoList(t, fmt.Sprintf("RegularMost(%v)", bad), most, ok)
		wantNoBack(t, bad)
		wantEven(t, bad, false)
		wantRegular(t, bad, false)
		for _, set := range []int{-1, 0, 1, 2, 3, 15, 16, 31, 256, 1 << 32, math.MinInt, math.MaxInt} {
			wantNoMeet(t, bad, set, set)
			wantNoMeet(t, bad, set, 0)
			wantNoMeet(t, bad, 0, set)
		}
		for _, row := range bad {
			wantNoMeet(t, bad, row, row)
		}
	}
}

func TestSpaceSameFailsForOtherLists(t *testing.T) {
	for _, bad := range noRelations() {
		wantSameSpace(t, bad, bad, false)
		for n := 1; n <= pointsMax; n++ {
			for _, good := range [][]int{noPairs(n), samePoints(n), allPairs(n)} {
				wantSameSpace(t, bad, good, false)
				wantSameSpace(t, good, bad, false)
			}
		}
		for _, worse := range noRelations() {
			wantSameSpace(t, bad, worse, false)
		}
	}
}

// The space of a relation is that of another one with one point more, which has no pair with this point.
func TestSpaceSameFailsForDifferentNumbersOfPoints(t *testing.T) {
	for n := 1; n < pointsMax; n++ {
		for a := range someRelationsOn(n) {
			longer := append(append([]int{}, a...), 0)
			wantSpace(t, longer, spaceOf(a))
			wantSameSpace(t, a, longer, false)
			wantSameSpace(t, longer, a, false)
		}
		for m := n + 1; m <= pointsMax; m++ {
			wantSameSpace(t, noPairs(n), noPairs(m), false)
			wantSameSpace(t, noPairs(m), noPairs(n), false)
			wantSameSpace(t, allPairs(n), allPairs(m), false)
			wantSameSpace(t, allPairs(m), allPairs(n), false)
		}
	}
}

func TestSpaceMeetFailsForWhatIsNoSetOfTheSpace(t *testing.T) {
	for n := 1; n <= pointsMax; n++ {
		for a := range someRelationsOn(n) {
			for _, set := range outOfSets(n) {
				wantNoMeet(t, a, set, set)
				wantNoMeet(t, a, 0, set)
				wantNoMeet(t, a, set, 0)
				wantNoMeet(t, a, a[0], set)
				wantNoMeet(t, a, set, a[n-1])
			}
		}
	}
}

// No rows together make the set, even if two of them have just its points in common.
func TestSpaceMeetFailsForFixedSetsThatAreNotOfTheSpace(t *testing.T) {
	for _, c := range []struct {
		a   []int
		set int
	}{
		{[]int{0}, 1}, {[]int{2, 2}, 1}, {[]int{2, 2}, 3}, {[]int{3, 1}, 2}, {[]int{3, 3}, 1},
		{[]int{6, 5, 3}, 1}, {[]int{6, 5, 3}, 4}, {[]int{3, 6, 0}, 2}, {[]int{1, 1, 2}, 4}, {[]int{7, 7, 7}, 6},
		{[]int{7, 14, 2, 0}, 6}, {[]int{15, 14, 12, 8}, 1}, {[]int{15, 14, 12, 8}, 10}, {[]int{7, 11, 13, 14}, 3},
	} {
		wantNoMeet(t, c.a, c.set, c.set)
		wantNoMeet(t, c.a, c.set, 0)
		wantNoMeet(t, c.a, 0, c.set)
		wantNoMeet(t, c.a, c.set, c.a[0])
		wantNoMeet(t, c.a, c.a[0], c.set)
	}
}

// The space of each of these relations is not even.
func TestRegularBackFailsForFixedRelationsThatAreNotRegular(t *testing.T) {
	for _, a := range [][]int{
		{6, 5, 3}, {3, 6, 5}, {5, 3, 6},
		{1, 3, 6}, {6, 3, 1}, {1, 5, 6}, {2, 3, 5}, {2, 6, 5}, {4, 5, 3}, {4, 6, 3},
		{3, 6, 12, 9}, {7, 11, 13, 14}, {3, 5, 6, 8}, {6, 5, 3, 3}, {1, 3, 6, 0}, {1, 3, 6, 15},
	} {
		wantEven(t, a, false)
		wantRegular(t, a, false)
		wantNoBack(t, a)
	}
}

func TestCountsOfRegularRelationsFailForOtherNumbersOfPoints(t *testing.T) {
	for _, n := range append(outOfCounts(), pointsMax) {
		wantNoRegularCounts(t, n)
	}
}
