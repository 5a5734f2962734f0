package tests

import (
	"fmt"
	"runtime"
	"slices"
	"sync"
	"testing"

	"loop.example/fewrelations/impl"
)

func wantSpace(t *testing.T, a, want []int) {
	t.Helper()
	got, ok := impl.SpaceOf(a)
	wantList(t, fmt.Sprintf("SpaceOf(%v)", a), got, ok, want)
}

func wantMeet(t *testing.T, a []int, x, y, want int) {
	t.Helper()
	if got, ok := impl.SpaceMeet(a, x, y); !ok || got != want {
		t.Fatalf("SpaceMeet(%v, %d, %d) returned %d, %v, and not %d, true", a, x, y, got, ok, want)
	}
}

func wantEven(t *testing.T, a []int, want bool) {
	t.Helper()
	if impl.SpaceEven(a) != want {
		t.Fatalf("SpaceEven(%v) is not %v", a, want)
	}
}

func wantSameSpace(t *testing.T, a, b []int, want bool) {
	t.Helper()
	if impl.SpaceSame(a, b) != want {
		t.Fatalf("SpaceSame(%v, %v) is not %v", a, b, want)
	}
}

func wantRegular(t *testing.T, a []int, want bool) {
	t.Helper()
	if impl.RegularIn(a) != want {
		t.Fatalf("RegularIn(%v) is not %v", a, want)
	}
}

func wantMost(t *testing.T, a, want []int) {
	t.Helper()
	got, ok := impl.RegularMost(a)
	wantList(t, fmt.Sprintf("RegularMost(%v)", a), got, ok, want)
}

func wantBack(t *testing.T, a, want []int) {
	t.Helper()
	got, ok := impl.RegularBack(a)
	wantList(t, fmt.Sprintf("RegularBack(%v)", a), got, ok, want)
}

func wantNoBack(t *testing.T, a []int) {
	t.Helper()
	got, ok := impl.RegularBack(a)
	wantNoList(t, fmt.Sprintf("RegularBack(%v)", a), got, ok)
}

func wantCounts(t *testing.T, n, regular, square int) {
	t.Helper()
	if got, ok := impl.RegularCount(n); !ok || got != regular {
		t.Fatalf("RegularCount(%d) returned %d, %v, and not %d, true", n, got, ok, regular)
	}
	if got, ok := impl.RegularSquare(n); !ok || got != square {
		t.Fatalf("RegularSquare(%d) returned %d, %v, and not %d, true", n, got, ok, square)
	}
}

func TestFixedRegularRelations(t *testing.T) {
	for _, c := range []struct {
		what              string
		a                 []int
		space, most, back []int
	}{
		{"one point without pairs", []int{0}, []int{0}, []int{1}, []int{0}},
		{"one point with its pair", []int{1}, []int{0, 1}, []int{1}, []int{1}},
		{"two points without pairs", []int{0, 0}, []int{0}, []int{3, 3}, []int{0, 0}},
		{"each of two points to itself", []int{1, 2}, []int{0, 1, 2, 3}, []int{1, 2}, []int{1, 2}},
		{"each of two points to the other one", []int{2, 1}, []int{0, 1, 2, 3}, []int{2, 1}, []int{2, 1}},
		{"all pairs but one of two points", []int{3, 1}, []int{0, 1, 3}, []int{2, 3}, []int{2, 3}},
		{"one point to both", []int{3, 0}, []int{0, 3}, []int{3, 3}, []int{3, 3}},
		{"two equal rows of one point", []int{1, 1}, []int{0, 1}, []int{3, 3}, []int{3, 3}},
		{"all pairs of two points", []int{3, 3}, []int{0, 3}, []int{3, 3}, []int{3, 3}},
		{"each point to those behind it", []int{6, 4, 0}, []int{0, 4, 6}, []int{7, 7, 6}, []int{7, 7, 6}},
		{"a row that is two others together", []int{1, 2, 3}, []int{0, 1, 2, 3}, []int{1, 2, 7}, []int{1, 2, 3}},
		{"two equal rows that have a point of the third one", []int{3, 3, 5}, []int{0, 3, 5, 7}, []int{0, 3, 4}, []int{0, 3, 4}},
		{"three equal rows", []int{1, 1, 1}, []int{0, 1}, []int{7, 7, 7}, []int{7, 7, 7}},
		{"three points in a circle", []int{2, 4, 1}, []int{0, 1, 2, 3, 4, 5, 6, 7}, []int{4, 1, 2}, []int{4, 1, 2}},
		{"two classes, one around the other", []int{5, 2, 5}, []int{0, 2, 5, 7}, []int{5, 2, 5}, []int{5, 2, 5}},
		{"four points without pairs", []int{0, 0, 0, 0}, []int{0}, []int{15, 15, 15, 15}, []int{0, 0, 0, 0}},
		{"a chain of four points", []int{15, 14, 12, 8}, []int{0, 8, 12, 14, 15}, []int{15, 14, 12, 8}, []int{15, 14, 12, 8}},
		{"two rows, each one twice", []int{3, 12, 12, 3}, []int{0, 3, 12, 15}, []int{9, 9, 6, 6}, []int{9, 9, 6, 6}},
		{"a part of rows in an order", []int{1, 2, 5, 15}, []int{0, 1, 2, 3, 5, 7, 15}, []int{1, 2, 5, 15}, []int{1, 2, 5, 15}},
		{"all pairs of four points", []int{15, 15, 15, 15}, []int{0, 15}, []int{15, 15, 15, 15}, []int{15, 15, 15, 15}},
	} {
		t.Run(c.what, func(t *testing.T) {
			wantSpace(t, c.a, c.space)
			wantEven(t, c.a, true)
			wantRegular(t, c.a, true)
			wantMost(t, c.a, c.most)
			wantBack(t, c.a, c.back)
		})
	}
}

func TestFixedRelationsThatAreNotRegular(t *testing.T) {
	for _, c := range []struct {
		what        string
		a           []int
		space, most []int
	}{
		{"each of three points to others", []int{6, 5, 3}, []int{0, 3, 5, 6, 7}, []int{0, 0, 0}},
		{"rows that only a third one brings together", []int{1, 3, 6}, []int{0, 1, 3, 6, 7}, []int{1, 0, 4}},
		{"each of four points to two in a circle", []int{3, 6, 12, 9}, []int{0, 3, 6, 7, 9, 11, 12, 13, 14, 15}, []int{0, 0, 0, 0}},
		{"each of four points to others", []int{7, 11, 13, 14}, []int{0, 7, 11, 13, 14, 15}, []int{0, 0, 0, 0}},
		{"a point apart", []int{3, 5, 6, 8}, []int{0, 3, 5, 6, 7, 8, 11, 13, 14, 15}, []int{0, 0, 0, 8}},
		{"equal rows among three that are not", []int{6, 5, 3, 3}, []int{0, 3, 5, 6, 7}, []int{0, 0, 0, 15}},
	} {
		t.Run(c.what, func(t *testing.T) {
			wantSpace(t, c.a, c.space)
			wantEven(t, c.a, false)
			wantRegular(t, c.a, false)
			wantMost(t, c.a, c.most)
			wantNoBack(t, c.a)
		})
	}
}

func TestFixedMeets(t *testing.T) {
	for _, c := range []struct {
		a          []int
		x, y, want int
	}{
		{[]int{0}, 0, 0, 0},
		{[]int{1}, 1, 1, 1},
		{[]int{1}, 0, 1, 0},
		{[]int{1, 2}, 1, 3, 1},
		{[]int{1, 2}, 1, 2, 0},
		{[]int{3, 6, 0}, 3, 6, 0},
		{[]int{3, 6, 2}, 3, 6, 2},
		{[]int{3, 6, 2}, 7, 6, 6},
		{[]int{6, 5, 3}, 6, 5, 0},
		{[]int{6, 5, 3}, 7, 5, 5},
		{[]int{1, 3, 6}, 3, 6, 0},
		{[]int{1, 3, 6}, 3, 7, 3},
		{[]int{3, 3, 5}, 3, 5, 0},
		{[]int{15, 14, 12, 8}, 14, 12, 12},
		{[]int{7, 14, 2, 4}, 7, 14, 6},
		{[]int{7, 14, 2, 0}, 7, 14, 2},
		{[]int{7, 11, 13, 14}, 7, 11, 0},
	} {
		wantMeet(t, c.a, c.x, c.y, c.want)
		wantMeet(t, c.a, c.y, c.x, c.want)
	}
}

func TestFixedSpacesThatAreTheSame(t *testing.T) {
	for _, c := range []struct {
		a, b []int
		want bool
	}{
		{[]int{0}, []int{0}, true},
		{[]int{0}, []int{1}, false},
		{[]int{1, 2}, []int{2, 1}, true},
		{[]int{1, 1}, []int{1, 0}, true},
		{[]int{1, 1}, []int{2, 2}, false},
		{[]int{1, 2}, []int{1, 3}, false},
		{[]int{1, 2, 3}, []int{1, 2, 0}, true},
		{[]int{1, 2, 3}, []int{2, 2, 1}, true},
		{[]int{1, 1, 2}, []int{1, 2, 2}, true},
		{[]int{6, 5, 3}, []int{3, 6, 5}, true},
		{[]int{6, 5, 3}, []int{6, 5, 7}, false},
		{[]int{7, 7, 7}, []int{0, 0, 7}, true},
		{[]int{15, 14, 12, 8}, []int{8, 12, 14, 15}, true},
		{[]int{1, 2, 4, 7}, []int{7, 4, 2, 1}, true},
		{[]int{1, 2, 4, 7}, []int{4, 6, 2, 1}, true},
		{[]int{1, 2, 4, 8}, []int{1, 2, 4, 12}, false},
	} {
		wantSameSpace(t, c.a, c.b, c.want)
		wantSameSpace(t, c.b, c.a, c.want)
	}
}

func TestSpacesByTheirDefinitions(t *testing.T) {
	for n := 1; n <= pointsMax; n++ {
		for a, found := range relationsAndSpaces(n) {
			wantSpace(t, a, found.space)
			wantEven(t, a, found.even)
		}
	}
}

// Relations with the same space have the same meets; so on four points the first one of each space is tried, and others only in part.
func TestSpaceMeetByItsDefinition(t *testing.T) {
	wantMeets := func(a, space []int) {
		t.Helper()
		for x := -1; x <= 1<<len(a); x++ {
			for y := -1; y <= 1<<len(a); y++ {
				if slices.Contains(space, x) && slices.Contains(space, y) {
					wantMeet(t, a, x, y, meetIn(space, x, y))
				} else {
					wantNoMeet(t, a, x, y)
				}
			}
		}
	}
	for n := 1; n <= pointsMax; n++ {
		for _, found := range spacesOn(n) {
			wantMeets(found.first, found.space)
		}
		for a := range someRelationsOn(n) {
			wantMeets(a, spaceOf(a))
		}
	}
}

// Each relation is tried with the first one of its space, and with the first ones of all other spaces, of which there are too many on
// four points: here with those just before and behind it, and with those of the relations that a pair put to it or taken away makes.
func TestSpaceSameByItsDefinition(t *testing.T) {
	for n := 1; n <= 3; n++ {
		spaces := spacesOn(n)
		for a, found := range relationsAndSpaces(n) {
			for _, other := range spaces {
				same := slices.Equal(found.space, other.space)
				wantSameSpace(t, a, other.first, same)
				wantSameSpace(t, other.first, a, same)
			}
		}
	}
	for a, found := range relationsAndSpaces(pointsMax) {
		wantSameSpace(t, a, found.first, true)
	}
	spaces := spacesOn(pointsMax)
	for i, found := range spaces {
		for j := max(0, i-3); j < min(len(spaces), i+4); j++ {
			wantSameSpace(t, found.first, spaces[j].first, i == j)
		}
		for place := range pointsMax * pointsMax {
			b := relationAt(pointsMax, codeOf(found.first)^1<<place)
			wantSameSpace(t, found.first, b, slices.Equal(found.space, spaceOf(b)))
		}
	}
}

func TestRegularRelationsByTheirDefinitions(t *testing.T) {
	for a := range allRelations() {
		most := mostBetween(a)
		wantMost(t, a, most)
		wantRegular(t, a, isRegular(a))
		if isRegular(a) {
			wantBack(t, a, composed(composed(most, a), most))
		} else {
			wantNoBack(t, a)
		}
	}
}

// Every relation is tried as the one between, on three points at most.
func TestRegularMostIsTheGreatestBetween(t *testing.T) {
	for n := 1; n <= 3; n++ {
		for a := range relationsOn(n) {
			most := madeBy(t, "RegularMost", impl.RegularMost, a)
			isMade := false
			for x := range relationsOn(n) {
				made := withBetween(a, x)
				if isBelow(made, a) != isBelow(x, most) {
					t.Fatalf("RegularMost(%v) is %v, and with %v between this makes %v", a, most, x, made)
				}
				isMade = isMade || slices.Equal(made, a)
			}
			wantRegular(t, a, isMade)
		}
	}
}

// On four points each relation is tried between some relations alone, what it makes being told by the pairs that it has.
func TestRegularMostIsTheGreatestBetweenSomeRelationsOnFourPoints(t *testing.T) {
	for a := range someRelationsOn(pointsMax) {
		whole, most := codeOf(a), codeOf(madeBy(t, "RegularMost", impl.RegularMost, a))
		codes := codesBetween(a)
		for x, made := range codes {
			if isPart(made, whole) != isPart(x, most) {
				t.Fatalf("RegularMost(%v) has the code %d, and with that of the code %d between this makes that of %d", a, most, x, made)
			}
		}
		wantRegular(t, a, slices.Contains(codes, whole))
	}
}

func TestCountsOfRegularRelations(t *testing.T) {
	wantCounts(t, 1, 2, 2)
	wantCounts(t, 2, 16, 11)
	wantCounts(t, 3, 470, 123)
	for n := 1; n <= 3; n++ {
		regular, square := 0, 0
		for a := range relationsOn(n) {
			if isRegular(a) {
				regular++
			}
			if slices.Equal(composed(a, a), a) {
				square++
			}
		}
		wantCounts(t, n, regular, square)
	}
}

// A row at a second place makes no set that is not there, and none twice.
func TestEqualRowsMakeTheSpaceOfOneOfThem(t *testing.T) {
	for n := 2; n <= pointsMax; n++ {
		for a, fewer := range withEqualRows(n) {
			space := spaceOf(fewer)
			wantSpace(t, a, space)
			wantSpace(t, fewer, space)
			wantSameSpace(t, a, fewer, true)
			wantEven(t, a, impl.SpaceEven(fewer))
			wantRegular(t, a, impl.RegularIn(fewer))
		}
	}
	for n := 1; n <= pointsMax; n++ {
		for row := 1; row < 1<<n; row++ {
			a := slices.Repeat([]int{row}, n)
			wantSpace(t, a, []int{0, row})
			wantMeet(t, a, row, row, row)
			wantMeet(t, a, 0, row, 0)
			wantEven(t, a, true)
			wantRegular(t, a, true)
			wantSameSpace(t, a, append([]int{row}, noPairs(n-1)...), true)
		}
	}
}

func TestRelationsWithoutPairsAndWithAll(t *testing.T) {
	for n := 1; n <= pointsMax; n++ {
		none, whole, all := noPairs(n), allPairs(n), 1<<n-1
		wantSpace(t, none, []int{0})
		wantSpace(t, whole, []int{0, all})
		wantMeet(t, none, 0, 0, 0)
		wantMeet(t, whole, all, all, all)
		wantMeet(t, whole, all, 0, 0)
		wantNoMeet(t, none, 0, all)
		wantNoMeet(t, none, all, all)
		wantSameSpace(t, none, whole, false)
		wantSameSpace(t, none, none, true)
		wantSameSpace(t, whole, whole, true)
		wantMost(t, none, whole)
		wantBack(t, none, none)
		wantMost(t, whole, whole)
		wantBack(t, whole, whole)
		for _, a := range [][]int{none, whole} {
			wantEven(t, a, true)
			wantRegular(t, a, true)
		}
	}
}

// A relation of the kinds f, d, j and o has all sets in its space, and leads back by it turned.
func TestSpacesWithAllSets(t *testing.T) {
	for n := 1; n <= pointsMax; n++ {
		for p := range renamings(n) {
			a := relationOfMap(p)
			space := []int{}
			for set := range 1 << n {
				space = append(space, set)
			}
			wantSpace(t, a, space)
			for _, x := range space {
				for _, y := range space {
					wantMeet(t, a, x, y, x&y)
				}
			}
			wantEven(t, a, true)
			wantSameSpace(t, a, samePoints(n), true)
			wantMost(t, a, turnedOf(a))
			wantBack(t, a, turnedOf(a))
		}
	}
}

// The empty set is in each space, and its meet with each other set is empty.
func TestTheEmptySetOfASpace(t *testing.T) {
	for n := 1; n <= pointsMax; n++ {
		for _, found := range spacesOn(n) {
			for _, set := range found.space {
				wantMeet(t, found.first, 0, set, 0)
				wantMeet(t, found.first, set, 0, 0)
			}
		}
	}
}

// Workers that went on or waited behind a call would come to many.
func TestSpacesLeaveNoWorkers(t *testing.T) {
	for a := range someRelationsOn(pointsMax) {
		for range 10 {
			impl.SpaceOf(a)
			impl.SpaceMeet(a, 0, 0)
			impl.SpaceMeet(a, -1, 0)
			impl.SpaceEven(a)
			impl.SpaceSame(a, a)
		}
	}
	if count := runtime.NumGoroutine(); count > 500 {
		t.Fatalf("%d goroutines are left", count)
	}
}

func TestCallsAtTheSameTimeReturnTheSame(t *testing.T) {
	var callers sync.WaitGroup
	for range 8 {
		callers.Add(1)
		go func() {
			defer callers.Done()
			for a := range someRelationsOn(pointsMax) {
				space, ok := impl.SpaceOf(a)
				if !ok || !slices.Equal(space, spaceOf(a)) {
					t.Errorf("SpaceOf(%v) returned %v, %v", a, space, ok)
				}
				if !impl.SpaceSame(a, a) || impl.SpaceEven(a) != impl.RegularIn(a) {
					t.Errorf("SpaceSame(%v, %v) does not hold, or SpaceEven and RegularIn tell other answers", a, a)
				}
			}
		}()
	}
	callers.Wait()
}
