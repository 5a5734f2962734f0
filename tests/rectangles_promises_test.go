package tests

import (
	"slices"
	"testing"

	"loop.example/fewrelations/impl"
)

// listsMadeBy is madeBy for a function that makes a list of lists.
func listsMadeBy(t *testing.T, name string, f func([]int) ([][]int, bool), a []int) [][]int {
	t.Helper()
	got, ok := f(a)
	if !ok {
		t.Fatalf("%s(%v) fails", name, a)
	}
	return got
}

// setMadeBy is madeBy for a function that makes a set of a relation and a set.
func setMadeBy(t *testing.T, name string, f func([]int, int) (int, bool), a []int, set int) int {
	t.Helper()
	got, ok := f(a, set)
	if !ok {
		t.Fatalf("%s(%v, %d) fails", name, a, set)
	}
	return got
}

func rankOf(t *testing.T, a []int) int {
	t.Helper()
	rank, ok := impl.RectRank(a)
	if !ok {
		t.Fatalf("RectRank(%v) fails", a)
	}
	return rank
}

func TestPromise49FullRectanglesHaveAllPairsAndAreOfPolars(t *testing.T) {
	for a := range allRelations() {
		turned := madeBy(t, "RelTurned", impl.RelTurned, a)
		full := listsMadeBy(t, "RectAll", impl.RectAll, a)
		wantInRectangles(t, len(a), full, a)
		for i, one := range full {
			if len(one) != 2 || i > 0 && full[i-1][0] >= one[0] {
				t.Fatalf("RectAll(%v) is %v", a, full)
			}
			second := setMadeBy(t, "RectPolar", impl.RectPolar, a, one[0])
			first := setMadeBy(t, "RectPolar", impl.RectPolar, turned, one[1])
			if first != one[0] || second != one[1] {
				t.Fatalf("RectAll(%v) has %v, and the polars are %d and %d", a, one, first, second)
			}
		}
	}
}

func TestPromise50AsManyFullRectanglesTurned(t *testing.T) {
	for a := range allRelations() {
		full := listsMadeBy(t, "RectAll", impl.RectAll, a)
		turned := listsMadeBy(t, "RectAll", impl.RectAll, madeBy(t, "RelTurned", impl.RelTurned, a))
		if len(turned) != len(full) {
			t.Fatalf("RectAll(%v) is %v, and %v turned", a, full, turned)
		}
	}
}

func TestPromise51PolarsOfGreaterSetsAreParts(t *testing.T) {
	for a := range allRelations() {
		for set := range 1 << len(a) {
			polar := setMadeBy(t, "RectPolar", impl.RectPolar, a, set)
			if part := setMadeBy(t, "RectPolar", impl.RectPolar, a, set|1); part&^polar != 0 {
				t.Fatalf("for %v, the polar of %d is %d, and with the point 0 %d", a, set, polar, part)
			}
			closed := setMadeBy(t, "RectClosed", impl.RectClosed, a, set)
			if same := setMadeBy(t, "RectPolar", impl.RectPolar, a, closed); same != polar {
				t.Fatalf("for %v, the polar of %d is %d, and that of RectClosed, %d, is %d", a, set, polar, closed, same)
			}
		}
	}
}

func TestPromise52ClosedSetsHaveTheSetAreTheirOwnAndGrow(t *testing.T) {
	for a := range allRelations() {
		for set := range 1 << len(a) {
			closed := setMadeBy(t, "RectClosed", impl.RectClosed, a, set)
			if set&^closed != 0 {
				t.Fatalf("RectClosed(%v, %d) is %d", a, set, closed)
			}
			if again := setMadeBy(t, "RectClosed", impl.RectClosed, a, closed); again != closed {
				t.Fatalf("RectClosed of %v and %d is %d, and of this %d", a, set, closed, again)
			}
			if grown := setMadeBy(t, "RectClosed", impl.RectClosed, a, set|1); closed&^grown != 0 {
				t.Fatalf("RectClosed of %v and %d is %d, and with the point 0 %d", a, set, closed, grown)
			}
		}
	}
}

func TestPromise53RanksAreFewTheSameTurnedAndNoGreaterForCompositions(t *testing.T) {
	for a := range allRelations() {
		rank := rankOf(t, a)
		if rank < 0 || rank > len(a) || (rank == 0) != (sizeOf(t, a) == 0) {
			t.Fatalf("RectRank(%v) is %d", a, rank)
		}
		if turned := rankOf(t, madeBy(t, "RelTurned", impl.RelTurned, a)); turned != rank {
			t.Fatalf("RectRank(%v) is %d, and %d turned", a, rank, turned)
		}
		if twice := madeByTwo(t, "CompOf", impl.CompOf, a, a); rankOf(t, twice) > rank {
			t.Fatalf("RectRank(%v) is %d, and %d for %v", a, rank, rankOf(t, twice), twice)
		}
	}
}

func TestPromise54SteppedRelationsAreSteppedTurnedAndHaveEqualRows(t *testing.T) {
	held := 0
	for a := range allRelations() {
		if !impl.RectStepped(a) {
			continue
		}
		held++
		wantStepped(t, madeBy(t, "RelTurned", impl.RelTurned, a), true)
		for _, row := range a {
			for _, other := range a {
				if row&other != 0 && row != other {
					t.Fatalf("RectStepped(%v) holds", a)
				}
			}
		}
	}
	if held != 2+12+128+2100 {
		t.Fatalf("RectStepped held %d times", held)
	}
}

func TestPromise55StepIsAboveSteppedAndItsOwn(t *testing.T) {
	for a := range allRelations() {
		step := madeBy(t, "RectStep", impl.RectStep, a)
		if !impl.RelBelow(a, step) || !impl.RectStepped(step) {
			t.Fatalf("RectStep(%v) is %v", a, step)
		}
		wantStep(t, step, step)
	}
}

// Lists of up to two rectangles are tried with all sets, and lists of more with the full ones of each relation.
func TestPromise56RanksAreAtMostTheRectangles(t *testing.T) {
	wantFewer := func(n int, list [][]int) {
		t.Helper()
		made, ok := impl.RectOf(n, list)
		if !ok || rankOf(t, made) > len(list) {
			t.Fatalf("RectOf(%d, %v) is %v, %v", n, list, made, ok)
		}
	}
	for n := 1; n <= pointsMax; n++ {
		wantFewer(n, nil)
		for code := range 1 << (4 * n) {
			sets := []int{code & (1<<n - 1), code >> n & (1<<n - 1), code >> (2 * n) & (1<<n - 1), code >> (3 * n)}
			wantFewer(n, [][]int{sets[:2]})
			wantFewer(n, [][]int{sets[:2], sets[2:]})
		}
	}
	for a := range allRelations() {
		full := listsMadeBy(t, "RectAll", impl.RectAll, a)
		for count := range full {
			wantFewer(len(a), full[:count+1])
		}
	}
}

func TestPromise57BlocksHaveAllPairsAndNoCommonPoint(t *testing.T) {
	made := 0
	for a := range allRelations() {
		blocks, ok := impl.RectBlocks(a)
		if !ok {
			continue
		}
		made++
		wantInRectangles(t, len(a), blocks, a)
		wantRank(t, a, len(blocks))
		firsts, seconds := 0, 0
		for _, one := range blocks {
			if one[0] == 0 || one[1] == 0 || firsts&one[0] != 0 || seconds&one[1] != 0 {
				t.Fatalf("RectBlocks(%v) is %v", a, blocks)
			}
			firsts, seconds = firsts|one[0], seconds|one[1]
		}
		if !slices.IsSortedFunc(blocks, func(one, other []int) int { return leastPointOf(one[0]) - leastPointOf(other[0]) }) {
			t.Fatalf("RectBlocks(%v) is %v", a, blocks)
		}
	}
	if made != 2+12+128+2100 {
		t.Fatalf("RectBlocks succeeded %d times", made)
	}
}
