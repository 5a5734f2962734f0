package tests

import (
	"slices"
	"testing"

	"loop.example/fewrelations/impl"
)

func regularCountOf(t *testing.T, n int) int {
	t.Helper()
	count, ok := impl.RegularCount(n)
	if !ok {
		t.Fatalf("RegularCount(%d) fails", n)
	}
	return count
}

func regularSquareOf(t *testing.T, n int) int {
	t.Helper()
	count, ok := impl.RegularSquare(n)
	if !ok {
		t.Fatalf("RegularSquare(%d) fails", n)
	}
	return count
}

// betweenItself returns the composition of a, x and a.
func betweenItself(t *testing.T, a, x []int) []int {
	t.Helper()
	return madeByTwo(t, "CompOf", impl.CompOf, madeByTwo(t, "CompOf", impl.CompOf, a, x), a)
}

func TestPromise58SpacesBeginWithTheEmptySetAscendAndAreAsGreatTurned(t *testing.T) {
	for a := range allRelations() {
		space := madeBy(t, "SpaceOf", impl.SpaceOf, a)
		if len(space) == 0 || space[0] != 0 {
			t.Fatalf("SpaceOf(%v) is %v", a, space)
		}
		for i := 1; i < len(space); i++ {
			if space[i-1] >= space[i] {
				t.Fatalf("SpaceOf(%v) is %v", a, space)
			}
		}
		turned := madeBy(t, "SpaceOf", impl.SpaceOf, madeBy(t, "RelTurned", impl.RelTurned, a))
		if len(turned) != len(space) {
			t.Fatalf("SpaceOf(%v) is %v, and %v turned", a, space, turned)
		}
	}
}

// On four points the first relation of each space is tried, and a sample of all.
func TestPromise59MeetsArePartsOfTheSpaceAndTheSameExchanged(t *testing.T) {
	wantParts := func(a []int) {
		t.Helper()
		space := madeBy(t, "SpaceOf", impl.SpaceOf, a)
		for _, x := range space {
			for _, y := range space {
				met, ok := impl.SpaceMeet(a, x, y)
				if !ok || !isPart(met, x) || !isPart(met, y) || !slices.Contains(space, met) {
					t.Fatalf("SpaceMeet(%v, %d, %d) is %d, %v", a, x, y, met, ok)
				}
				wantMeet(t, a, y, x, met)
			}
		}
	}
	for n := 1; n <= pointsMax; n++ {
		for a := range someRelationsOn(n) {
			wantParts(a)
		}
		for _, found := range spacesOn(n) {
			wantParts(found.first)
		}
	}
}

func TestPromise60EvenSpacesAreOfRegularRelationsAndEvenTurned(t *testing.T) {
	held := 0
	for a := range allRelations() {
		if !impl.SpaceEven(a) {
			continue
		}
		held++
		wantRegular(t, a, true)
		wantEven(t, madeBy(t, "RelTurned", impl.RelTurned, a), true)
	}
	if held != 2+16+470+40408 {
		t.Fatalf("SpaceEven held %d times", held)
	}
}

// CompRight is the greatest relation whose composition with the other one is below the first one; so it is one if there is any.
func TestPromise61RelationsWithTheSameSpaceComposeToEachOther(t *testing.T) {
	wantComposed := func(a, b []int) {
		t.Helper()
		x := madeByTwo(t, "CompRight", impl.CompRight, b, a)
		made, ok := impl.CompOf(x, b)
		wantList(t, "CompOf of some relation and the other one", made, ok, a)
	}
	held := 0
	for n := 1; n <= pointsMax; n++ {
		for a, found := range relationsAndSpaces(n) {
			if !impl.SpaceSame(a, found.first) {
				continue
			}
			held++
			wantSameSpace(t, found.first, a, true)
			wantComposed(a, found.first)
			wantComposed(found.first, a)
		}
	}
	if held != 2+16+512+65536 {
		t.Fatalf("SpaceSame held %d times", held)
	}
}

func TestPromise61OnAllPairsOfFewPoints(t *testing.T) {
	held := 0
	for n := 1; n <= 2; n++ {
		for a := range relationsOn(n) {
			for b := range relationsOn(n) {
				if !impl.SpaceSame(a, b) {
					continue
				}
				held++
				wantSameSpace(t, b, a, true)
				isMade := slices.ContainsFunc(slices.Collect(relationsOn(n)), func(x []int) bool {
					return slices.Equal(madeByTwo(t, "CompOf", impl.CompOf, x, b), a)
				})
				if !isMade {
					t.Fatalf("SpaceSame(%v, %v) holds, and no relation composes with the second one to the first one", a, b)
				}
			}
		}
	}
	if held == 0 {
		t.Fatal("SpaceSame never held")
	}
}

func TestPromise62RegularRelationsHaveEvenSpacesAndAreRegularTurned(t *testing.T) {
	held := 0
	for a := range allRelations() {
		if !impl.RegularIn(a) {
			continue
		}
		held++
		wantEven(t, a, true)
		wantRegular(t, madeBy(t, "RelTurned", impl.RelTurned, a), true)
	}
	if held != 2+16+470+40408 {
		t.Fatalf("RegularIn held %d times", held)
	}
}

func TestPromise63RegularMostComposesBelowAndToRegularRelations(t *testing.T) {
	for a := range allRelations() {
		made := betweenItself(t, a, madeBy(t, "RegularMost", impl.RegularMost, a))
		if !impl.RelBelow(made, a) || slices.Equal(made, a) != impl.RegularIn(a) {
			t.Fatalf("RegularMost(%v) composes to %v, and RegularIn is %v", a, made, impl.RegularIn(a))
		}
	}
}

func TestPromise64RegularBackLeadsThereAndBack(t *testing.T) {
	made := 0
	for a := range allRelations() {
		x, ok := impl.RegularBack(a)
		if !ok {
			continue
		}
		made++
		wantList(t, "the composition of the relation, RegularBack and it", betweenItself(t, a, x), true, a)
		wantList(t, "that of RegularBack, the relation and RegularBack", betweenItself(t, x, a), true, x)
	}
	if made != 2+16+470+40408 {
		t.Fatalf("RegularBack succeeded %d times", made)
	}
}

func TestPromise65CountsAreBetweenTheSquaresAndAllRelations(t *testing.T) {
	for n := 1; n <= 3; n++ {
		count, all := regularCountOf(t, n), 1<<(n*n)
		if count < regularSquareOf(t, n) || count > all || n <= 2 && count != all {
			t.Fatalf("RegularCount(%d) is %d, and RegularSquare %d", n, count, regularSquareOf(t, n))
		}
	}
}

func TestPromise66SquaresAreAtLeastThePreorders(t *testing.T) {
	for n := 1; n <= 3; n++ {
		if square := regularSquareOf(t, n); square < kindCountOf(t, n, "rt") {
			t.Fatalf("RegularSquare(%d) is %d, and KindCount of rt %d", n, square, kindCountOf(t, n, "rt"))
		}
	}
}
