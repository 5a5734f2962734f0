package tests

import (
	"fmt"
	"math"
	"testing"

	"loop.example/fewrelations/impl"
)

// wantNoSets calls each function of a program and a set, which are not as told.
func wantNoSets(t *testing.T, a []int, set int) {
	t.Helper()
	for _, f := range setFunctions() {
		if got, ok := f.call(a, set); ok || got != 0 {
			t.Fatalf("%s of %v and %d returned %d, %v, and not 0, false", f.name, a, set, got, ok)
		}
	}
}

func wantNoIf(t *testing.T, test int, a, b []int) {
	t.Helper()
	got, ok := impl.ProgIf(test, a, b)
	wantNoList(t, fmt.Sprintf("ProgIf(%d, %v, %v)", test, a, b), got, ok)
}

func wantNoWhile(t *testing.T, test int, a []int) {
	t.Helper()
	got, ok := impl.ProgWhile(test, a)
	wantNoList(t, fmt.Sprintf("ProgWhile(%d, %v)", test, a), got, ok)
}

func TestProgramsFailForOtherLists(t *testing.T) {
	for _, bad := range noRelations() {
		for _, set := range []int{-1, 0, 1, 2, 3, 7, 15, 16, 31, 256, 1 << 32, math.MinInt, math.MaxInt} {
			wantNoSets(t, bad, set)
			wantNoWhile(t, set, bad)
			wantTriple(t, set, bad, set, false)
			wantTriple(t, 0, bad, set, false)
			wantTriple(t, set, bad, 0, false)
			wantNoIf(t, set, bad, bad)
			for n := 1; n <= pointsMax; n++ {
				wantNoIf(t, set, bad, allPairs(n))
				wantNoIf(t, set, allPairs(n), bad)
			}
		}
	}
}

// The test never chooses the one row that is no set.
func TestProgIfFailsForOtherListsThatTheTestDoesNotChoose(t *testing.T) {
	for n := 1; n <= pointsMax; n++ {
		bad := samePoints(n)
		bad[n-1] = 1 << n
		wantNoIf(t, allStates(n), samePoints(n), bad)
		wantNoIf(t, 0, bad, samePoints(n))
		wantNoIf(t, 1<<(n-1), samePoints(n), bad)
		wantNoIf(t, allStates(n-1), bad, samePoints(n))
	}
}

func TestProgIfFailsForDifferentNumbersOfStates(t *testing.T) {
	for n := 1; n <= pointsMax; n++ {
		for m := 1; m <= pointsMax; m++ {
			if n == m {
				continue
			}
			for test := range 1 << max(n, m) {
				wantNoIf(t, test, noPairs(n), noPairs(m))
				wantNoIf(t, test, samePoints(n), samePoints(m))
				wantNoIf(t, test, allPairs(n), allPairs(m))
			}
		}
	}
}

func TestProgramsFailForWhatIsNoSetOfStates(t *testing.T) {
	for n := 1; n <= pointsMax; n++ {
		for a := range someRelationsOn(n) {
			for _, bad := range outOfSets(n) {
				wantNoSets(t, a, bad)
				wantNoWhile(t, bad, a)
				wantNoIf(t, bad, a, a)
				wantNoIf(t, bad, a, allPairs(n))
				wantNoIf(t, bad, noPairs(n), a)
			}
		}
	}
}

// Each one of both sets is tried with each set of states as the other one, so that the program leads from no state or to all, too.
func TestProgTripleFailsForWhatIsNoSetOfStates(t *testing.T) {
	for n := 1; n <= pointsMax; n++ {
		for a := range someRelationsOn(n) {
			for _, bad := range outOfSets(n) {
				wantTriple(t, bad, a, bad, false)
				for set := range 1 << n {
					wantTriple(t, bad, a, set, false)
					wantTriple(t, set, a, bad, false)
				}
			}
		}
	}
}
