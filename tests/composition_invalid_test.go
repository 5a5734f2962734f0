package tests

import (
	"fmt"
	"testing"

	"loop.example/fewrelations/impl"
)

func wantNothingComposed(t *testing.T, a, b []int) {
	t.Helper()
	call := fmt.Sprintf("(%v, %v)", a, b)
	comp, ok := impl.CompOf(a, b)
	wantNoList(t, "CompOf"+call, comp, ok)
	left, ok := impl.CompLeft(a, b)
	wantNoList(t, "CompLeft"+call, left, ok)
	right, ok := impl.CompRight(a, b)
	wantNoList(t, "CompRight"+call, right, ok)
	x, ok := impl.CompSolve(a, b)
	wantNoList(t, "CompSolve"+call, x, ok)
}

func TestCompositionFailsForOtherLists(t *testing.T) {
	for _, bad := range noRelations() {
		for n := 1; n <= pointsMax; n++ {
			for _, good := range [][]int{noPairs(n), samePoints(n), allPairs(n)} {
				wantNothingComposed(t, bad, good)
				wantNothingComposed(t, good, bad)
			}
		}
		for _, worse := range noRelations() {
			wantNothingComposed(t, bad, worse)
		}
	}
}

func TestCompositionFailsForDifferentNumbersOfPoints(t *testing.T) {
	for n := 1; n <= pointsMax; n++ {
		for m := 1; m <= pointsMax; m++ {
			if n == m {
				continue
			}
			for _, a := range [][]int{noPairs(n), samePoints(n), allPairs(n)} {
				for _, b := range [][]int{noPairs(m), samePoints(m), allPairs(m)} {
					wantNothingComposed(t, a, b)
				}
			}
		}
	}
}

func TestPowersFailForOtherLists(t *testing.T) {
	for _, bad := range noRelations() {
		reach, ok := impl.CompReach(bad)
		wantNoList(t, fmt.Sprintf("CompReach(%v)", bad), reach, ok)
		star, ok := impl.CompStar(bad)
		wantNoList(t, fmt.Sprintf("CompStar(%v)", bad), star, ok)
		for _, k := range append(outOfPowers(), 0, 1, 2, powerMost) {
			power, ok := impl.CompPower(bad, k)
			wantNoList(t, fmt.Sprintf("CompPower(%v, %d)", bad, k), power, ok)
		}
		for x := -1; x <= 5; x++ {
			for y := -1; y <= 5; y++ {
				wantNotFar(t, bad, x, y)
			}
		}
		if k, m, ok := impl.CompIndex(bad); ok || k != 0 || m != 0 {
			t.Errorf("CompIndex(%v) returned %d, %d, %v", bad, k, m, ok)
		}
	}
}

func TestCompPowerFailsForOtherPowers(t *testing.T) {
	for n := 1; n <= pointsMax; n++ {
		for _, a := range [][]int{noPairs(n), samePoints(n), allPairs(n)} {
			for _, k := range outOfPowers() {
				power, ok := impl.CompPower(a, k)
				wantNoList(t, fmt.Sprintf("CompPower(%v, %d)", a, k), power, ok)
			}
		}
	}
}
