package tests

import (
	"fmt"
	"math"
	"testing"

	"loop.example/fewrelations/impl"
)

func wantNoPolarAndNoClosed(t *testing.T, a []int, set int) {
	t.Helper()
	if got, ok := impl.RectPolar(a, set); ok || got != 0 {
		t.Fatalf("RectPolar(%v, %d) returned %d, %v, and not 0, false", a, set, got, ok)
	}
	if got, ok := impl.RectClosed(a, set); ok || got != 0 {
		t.Fatalf("RectClosed(%v, %d) returned %d, %v, and not 0, false", a, set, got, ok)
	}
}

func wantNotInRectangles(t *testing.T, n int, list [][]int) {
	t.Helper()
	got, ok := impl.RectOf(n, list)
	wantNoList(t, fmt.Sprintf("RectOf(%d, %v)", n, list), got, ok)
}

func TestRectanglesFailForOtherLists(t *testing.T) {
	for _, bad := range noRelations() {
		if full, ok := impl.RectAll(bad); ok || len(full) != 0 {
			t.Fatalf("RectAll(%v) returned %v, %v", bad, full, ok)
		}
		if rank, ok := impl.RectRank(bad); ok || rank != 0 {
			t.Fatalf("RectRank(%v) returned %d, %v", bad, rank, ok)
		}
		wantStepped(t, bad, false)
		step, ok := impl.RectStep(bad)
		wantNoList(t, fmt.Sprintf("RectStep(%v)", bad), step, ok)
		wantNoBlocks(t, bad)
		for _, set := range []int{-1, 0, 1, 2, 3, 15, 16, 31, 1 << 32, math.MinInt, math.MaxInt} {
			wantNoPolarAndNoClosed(t, bad, set)
		}
	}
}

func TestRectPolarAndRectClosedFailForWhatIsNoSet(t *testing.T) {
	for n := 1; n <= pointsMax; n++ {
		for a := range someRelationsOn(n) {
			for _, set := range outOfSets(n) {
				wantNoPolarAndNoClosed(t, a, set)
			}
		}
	}
}

func TestRectOfFailsForOtherNumbersOfPoints(t *testing.T) {
	for _, n := range outOfCounts() {
		for _, list := range [][][]int{nil, {}, {{0, 0}}, {{1, 1}}, {{1, 1}, {1, 0}}, {{15, 15}}, {{31, 31}}, {{-1, 0}}, {nil}} {
			wantNotInRectangles(t, n, list)
		}
	}
}

func TestRectOfFailsForWhatIsNoListOfTwoSets(t *testing.T) {
	for n := 1; n <= pointsMax; n++ {
		bads := [][]int{nil, {}, {0}, {1}, {1, 1, 1}, {0, 0, 0}, {1, 1, 1, 1}, {1, 1, 16}, {16}}
		for _, set := range outOfSets(n) {
			bads = append(bads, []int{set, 0}, []int{0, set}, []int{set, 1}, []int{1, set}, []int{set, set}, []int{set, 1<<n - 1}, []int{1<<n - 1, set})
		}
		for _, bad := range bads {
			for _, list := range [][][]int{{bad}, {bad, bad}, {{1, 1}, bad}, {bad, {1, 1}}, {{1<<n - 1, 1<<n - 1}, bad, {0, 0}}} {
				wantNotInRectangles(t, n, list)
			}
		}
	}
}

// Each relation has two rows with a common point that are not equal.
func TestRectBlocksFailsForFixedRelationsThatAreNotStepped(t *testing.T) {
	for _, a := range [][]int{
		{3, 1}, {1, 3}, {2, 3}, {3, 2},
		{6, 4, 0}, {0, 6, 2}, {1, 2, 3}, {7, 7, 1}, {7, 6, 4}, {6, 5, 3},
		{15, 14, 12, 8}, {3, 6, 12, 9}, {15, 15, 15, 7}, {1, 0, 0, 9}, {3, 3, 12, 4}, {14, 13, 11, 7},
	} {
		wantStepped(t, a, false)
		wantNoBlocks(t, a)
	}
}
