package tests

import (
	"slices"
	"testing"

	"loop.example/fewrelations/impl"
)

func sizeOf(t *testing.T, a []int) int {
	t.Helper()
	size, ok := impl.RelSize(a)
	if !ok {
		t.Fatalf("RelSize(%v) fails", a)
	}
	return size
}

func endsOf(t *testing.T, a []int) (int, int) {
	t.Helper()
	starts, targets, ok := impl.RelEnds(a)
	if !ok {
		t.Fatalf("RelEnds(%v) fails", a)
	}
	return starts, targets
}

func TestPromise1PairsLeadBackToTheRelation(t *testing.T) {
	seen := 0
	for a := range allRelations() {
		if !impl.RelIn(a) {
			t.Fatalf("RelIn(%v) does not hold", a)
		}
		seen++
		pairs, ok := impl.RelPairs(a)
		if !ok {
			t.Fatalf("RelPairs(%v) fails", a)
		}
		if back, ok := impl.RelOf(len(a), pairs); !ok || !slices.Equal(back, a) {
			t.Fatalf("RelOf of the pairs of %v is %v, %v", a, back, ok)
		}
	}
	if seen != 2+16+512+65536 {
		t.Fatalf("%d relations were seen", seen)
	}
}

func TestPromise2RelOfIsARelationWithAtMostAsManyPairs(t *testing.T) {
	for a := range allRelations() {
		pairs, ok := impl.RelPairs(a)
		if !ok {
			t.Fatalf("RelPairs(%v) fails", a)
		}
		slices.Reverse(pairs)
		if len(pairs) > 0 {
			pairs = append(pairs, pairs[0])
		}
		made, ok := impl.RelOf(len(a), pairs)
		if !ok || !impl.RelIn(made) || len(made) != len(a) {
			t.Fatalf("RelOf(%d, %v) is %v, %v", len(a), pairs, made, ok)
		}
		if sizeOf(t, made) > len(pairs) {
			t.Fatalf("RelOf(%d, %v) has %d pairs", len(a), pairs, sizeOf(t, made))
		}
		if len(pairs) > 0 && sizeOf(t, made) != len(pairs)-1 {
			t.Fatalf("a pair told twice counts twice in RelOf(%d, %v)", len(a), pairs)
		}
	}
}

func TestPromise3PairsAscendAndAreCounted(t *testing.T) {
	for a := range allRelations() {
		pairs, ok := impl.RelPairs(a)
		if !ok || len(pairs) != sizeOf(t, a) {
			t.Fatalf("RelPairs(%v) is %v, %v, with %d pairs", a, pairs, ok, sizeOf(t, a))
		}
		for i := 1; i < len(pairs); i++ {
			if slices.Compare(pairs[i-1], pairs[i]) >= 0 {
				t.Fatalf("RelPairs(%v) is %v: the place %d is not behind the one ahead", a, pairs, i)
			}
		}
	}
}

func TestPromise4BothAreBelowEither(t *testing.T) {
	for a, b := range somePairsOfRelations() {
		either := madeByTwo(t, "RelEither", impl.RelEither, a, b)
		both := madeByTwo(t, "RelBoth", impl.RelBoth, a, b)
		if !impl.RelBelow(a, either) || !impl.RelBelow(b, either) {
			t.Fatalf("%v or %v is not below %v", a, b, either)
		}
		if sizeOf(t, either)+sizeOf(t, both) != sizeOf(t, a)+sizeOf(t, b) {
			t.Fatalf("the sizes of %v and %v do not add up to those of %v and %v", either, both, a, b)
		}
	}
}

func TestPromise5BothIsBelowAndItsOtherIsEitherOther(t *testing.T) {
	for a, b := range somePairsOfRelations() {
		both := madeByTwo(t, "RelBoth", impl.RelBoth, a, b)
		if !impl.RelBelow(both, a) || !impl.RelBelow(both, b) {
			t.Fatalf("%v is not below %v and %v", both, a, b)
		}
		left := madeBy(t, "RelOther", impl.RelOther, both)
		otherA := madeBy(t, "RelOther", impl.RelOther, a)
		otherB := madeBy(t, "RelOther", impl.RelOther, b)
		if right := madeByTwo(t, "RelEither", impl.RelEither, otherA, otherB); !slices.Equal(left, right) {
			t.Fatalf("for %v and %v: RelOther of both is %v, either RelOther is %v", a, b, left, right)
		}
	}
}

func TestPromise6OtherLeadsBackAndCompletes(t *testing.T) {
	for a := range allRelations() {
		other := madeBy(t, "RelOther", impl.RelOther, a)
		if back := madeBy(t, "RelOther", impl.RelOther, other); !slices.Equal(back, a) {
			t.Fatalf("RelOther of RelOther of %v is %v", a, back)
		}
		if whole := madeByTwo(t, "RelEither", impl.RelEither, a, other); !slices.Equal(whole, allPairs(len(a))) {
			t.Fatalf("%v and its other one are together %v", a, whole)
		}
		if none := madeByTwo(t, "RelBoth", impl.RelBoth, a, other); !slices.Equal(none, noPairs(len(a))) {
			t.Fatalf("%v and its other one have both %v", a, none)
		}
	}
}

func TestPromise7TurnedLeadsBack(t *testing.T) {
	for a := range allRelations() {
		turned := madeBy(t, "RelTurned", impl.RelTurned, a)
		if back := madeBy(t, "RelTurned", impl.RelTurned, turned); !slices.Equal(back, a) {
			t.Fatalf("RelTurned of RelTurned of %v is %v", a, back)
		}
		if sizeOf(t, turned) != sizeOf(t, a) {
			t.Fatalf("%v turned has %d pairs", a, sizeOf(t, turned))
		}
		left := madeBy(t, "RelOther", impl.RelOther, turned)
		right := madeBy(t, "RelTurned", impl.RelTurned, madeBy(t, "RelOther", impl.RelOther, a))
		if !slices.Equal(left, right) {
			t.Fatalf("for %v: RelOther of it turned is %v, RelTurned of its other one %v", a, left, right)
		}
	}
}

func TestPromise8BelowIsSeenInBothAndEitherAndTurned(t *testing.T) {
	holds := 0
	for a, b := range somePairsOfRelations() {
		both := madeByTwo(t, "RelBoth", impl.RelBoth, a, b)
		either := madeByTwo(t, "RelEither", impl.RelEither, a, b)
		turnedA := madeBy(t, "RelTurned", impl.RelTurned, a)
		turnedB := madeBy(t, "RelTurned", impl.RelTurned, b)
		below := impl.RelBelow(a, b)
		if below != slices.Equal(both, a) || below != slices.Equal(either, b) || below != impl.RelBelow(turnedA, turnedB) {
			t.Fatalf("RelBelow(%v, %v) is %v: both %v, either %v, turned %v and %v", a, b, below, both, either, turnedA, turnedB)
		}
		if below {
			holds++
		}
	}
	if holds == 0 {
		t.Fatal("RelBelow never held")
	}
}

func TestPromise9SizeIsBoundedAndZeroWithoutEnds(t *testing.T) {
	for a := range allRelations() {
		size := sizeOf(t, a)
		if size < 0 || size > len(a)*len(a) {
			t.Fatalf("RelSize(%v) is %d", a, size)
		}
		starts, targets := endsOf(t, a)
		if (size == 0) != (starts == 0 && targets == 0) {
			t.Fatalf("%v has %d pairs and the ends %d and %d", a, size, starts, targets)
		}
	}
	for n := 1; n <= pointsMax; n++ {
		if size := sizeOf(t, allPairs(n)); size != n*n {
			t.Errorf("all pairs of %d points are %d", n, size)
		}
	}
}

func TestPromise10EndsOfTheRelationTurnedAreExchanged(t *testing.T) {
	for a := range allRelations() {
		starts, targets := endsOf(t, a)
		turnedStarts, turnedTargets := endsOf(t, madeBy(t, "RelTurned", impl.RelTurned, a))
		if turnedStarts != targets || turnedTargets != starts {
			t.Fatalf("the ends of %v are %d and %d, and turned %d and %d", a, starts, targets, turnedStarts, turnedTargets)
		}
	}
}
