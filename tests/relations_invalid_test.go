package tests

import (
	"fmt"
	"testing"

	"loop.example/fewrelations/impl"
)

func TestFunctionsOfOneRelationFailForOtherLists(t *testing.T) {
	for _, a := range noRelations() {
		for name, f := range map[string]func([]int) ([]int, bool){"RelOther": impl.RelOther, "RelTurned": impl.RelTurned} {
			got, ok := f(a)
			wantNoList(t, fmt.Sprintf("%s(%v)", name, a), got, ok)
		}
		if pairs, ok := impl.RelPairs(a); ok || len(pairs) != 0 {
			t.Errorf("RelPairs(%v) returned %v, %v", a, pairs, ok)
		}
		if starts, targets, ok := impl.RelEnds(a); ok || starts != 0 || targets != 0 {
			t.Errorf("RelEnds(%v) returned %d, %d, %v", a, starts, targets, ok)
		}
		if size, ok := impl.RelSize(a); ok || size != 0 {
			t.Errorf("RelSize(%v) returned %d, %v", a, size, ok)
		}
		for n := range 6 {
			p := make([]int, n)
			for i := range p {
				p[i] = i
			}
			got, ok := impl.RelNamed(a, p)
			wantNoList(t, fmt.Sprintf("RelNamed(%v, %v)", a, p), got, ok)
		}
	}
}

func wantNothingOfTwo(t *testing.T, a, b []int) {
	t.Helper()
	either, ok := impl.RelEither(a, b)
	wantNoList(t, fmt.Sprintf("RelEither(%v, %v)", a, b), either, ok)
	both, ok := impl.RelBoth(a, b)
	wantNoList(t, fmt.Sprintf("RelBoth(%v, %v)", a, b), both, ok)
	if impl.RelBelow(a, b) {
		t.Errorf("RelBelow(%v, %v) holds", a, b)
	}
}

func TestFunctionsOfTwoRelationsFailForOtherLists(t *testing.T) {
	for _, bad := range noRelations() {
		for n := 1; n <= pointsMax; n++ {
			for _, good := range [][]int{noPairs(n), allPairs(n)} {
				wantNothingOfTwo(t, bad, good)
				wantNothingOfTwo(t, good, bad)
			}
		}
		for _, worse := range noRelations() {
			wantNothingOfTwo(t, bad, worse)
		}
	}
}

func TestFunctionsOfTwoRelationsFailForDifferentNumbersOfPoints(t *testing.T) {
	for n := 1; n <= pointsMax; n++ {
		for m := 1; m <= pointsMax; m++ {
			if n == m {
				continue
			}
			wantNothingOfTwo(t, noPairs(n), noPairs(m))
			wantNothingOfTwo(t, noPairs(n), allPairs(m))
			wantNothingOfTwo(t, allPairs(n), noPairs(m))
			wantNothingOfTwo(t, allPairs(n), allPairs(m))
		}
	}
}

func TestNilAndEmptyAreTheSame(t *testing.T) {
	for n := -1; n <= pointsMax+1; n++ {
		a, okA := impl.RelOf(n, nil)
		b, okB := impl.RelOf(n, [][]int{})
		if okA != okB || okA != (n >= 1 && n <= pointsMax) || len(a) != len(b) {
			t.Errorf("RelOf(%d) of nil is %v, %v, and of no pairs %v, %v", n, a, okA, b, okB)
		}
	}
	wantNothingOfTwo(t, nil, nil)
	wantNothingOfTwo(t, []int{}, []int{})
	wantNothingOfTwo(t, nil, []int{})
	if impl.RelIn(nil) || impl.RelIn([]int{}) {
		t.Error("RelIn holds for no rows")
	}
}
