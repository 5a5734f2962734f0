package tests

import (
	"fmt"
	"math"
	"slices"
	"testing"

	"loop.example/fewrelations/impl"
)

func TestCompositionAndResidualsOfFixedRelations(t *testing.T) {
	for _, c := range []struct{ a, b, comp, left, right []int }{
		{[]int{0}, []int{0}, []int{0}, []int{1}, []int{1}},
		{[]int{0}, []int{1}, []int{0}, []int{1}, []int{1}},
		{[]int{1}, []int{0}, []int{0}, []int{0}, []int{0}},
		{[]int{1}, []int{1}, []int{1}, []int{1}, []int{1}},
		{[]int{2, 0}, []int{0, 1}, []int{1, 0}, []int{3, 0}, []int{2, 2}},
		{[]int{0, 1}, []int{2, 0}, []int{0, 2}, []int{0, 3}, []int{1, 1}},
		{[]int{2, 0}, []int{2, 0}, []int{0, 0}, []int{3, 2}, []int{3, 2}},
		{[]int{2, 4, 0}, []int{2, 4, 0}, []int{4, 0, 0}, []int{7, 2, 4}, []int{5, 6, 4}},
		{[]int{1, 2, 4}, []int{6, 0, 1}, []int{6, 0, 1}, []int{6, 0, 1}, []int{6, 0, 1}},
		{[]int{0, 0, 0, 0}, []int{0, 0, 0, 0}, []int{0, 0, 0, 0}, []int{15, 15, 15, 15}, []int{15, 15, 15, 15}},
		{[]int{15, 15, 15, 15}, []int{0, 0, 0, 0}, []int{0, 0, 0, 0}, []int{0, 0, 0, 0}, []int{0, 0, 0, 0}},
		{[]int{0, 0, 0, 0}, []int{15, 15, 15, 15}, []int{0, 0, 0, 0}, []int{15, 15, 15, 15}, []int{15, 15, 15, 15}},
		{[]int{15, 15, 15, 15}, []int{15, 15, 15, 15}, []int{15, 15, 15, 15}, []int{15, 15, 15, 15}, []int{15, 15, 15, 15}},
		{[]int{8, 0, 0, 0}, []int{0, 0, 0, 4}, []int{4, 0, 0, 0}, []int{15, 15, 15, 0}, []int{14, 14, 14, 14}},
	} {
		call := fmt.Sprintf("(%v, %v)", c.a, c.b)
		comp, ok := impl.CompOf(c.a, c.b)
		wantList(t, "CompOf"+call, comp, ok, c.comp)
		left, ok := impl.CompLeft(c.a, c.b)
		wantList(t, "CompLeft"+call, left, ok, c.left)
		right, ok := impl.CompRight(c.a, c.b)
		wantList(t, "CompRight"+call, right, ok, c.right)
	}
}

func TestCompOfAndResidualsAsDefined(t *testing.T) {
	for a, b := range somePairsOfRelations() {
		call := fmt.Sprintf("(%v, %v)", a, b)
		comp, ok := impl.CompOf(a, b)
		wantList(t, "CompOf"+call, comp, ok, composed(a, b))
		left, ok := impl.CompLeft(a, b)
		wantList(t, "CompLeft"+call, left, ok, leftOf(a, b))
		right, ok := impl.CompRight(a, b)
		wantList(t, "CompRight"+call, right, ok, rightOf(a, b))
	}
}

// greatestOf returns the one of some relations that all others are below.
func greatestOf(relations [][]int) ([]int, bool) {
	for _, g := range relations {
		if !slices.ContainsFunc(relations, func(x []int) bool { return !isBelow(x, g) }) {
			return g, true
		}
	}
	return nil, false
}

// wantGreatest compares residuals and the solution with the greatest ones among all relations.
func wantGreatest(t *testing.T, a, b []int) {
	t.Helper()
	var lefts, rights, solutions [][]int
	for x := range relationsOn(len(a)) {
		made := composed(a, x)
		if isBelow(made, b) {
			lefts = append(lefts, x)
		}
		if slices.Equal(made, b) {
			solutions = append(solutions, x)
		}
		if isBelow(composed(x, a), b) {
			rights = append(rights, x)
		}
	}
	call := fmt.Sprintf("(%v, %v)", a, b)
	greatest, _ := greatestOf(lefts)
	left, ok := impl.CompLeft(a, b)
	wantList(t, "CompLeft"+call, left, ok, greatest)
	greatest, _ = greatestOf(rights)
	right, ok := impl.CompRight(a, b)
	wantList(t, "CompRight"+call, right, ok, greatest)
	x, ok := impl.CompSolve(a, b)
	if greatest, isSolved := greatestOf(solutions); isSolved {
		wantList(t, "CompSolve"+call, x, ok, greatest)
	} else {
		wantNoList(t, "CompSolve"+call, x, ok)
	}
}

func TestResidualsAndSolutionsAreTheGreatest(t *testing.T) {
	for n := 1; n <= 2; n++ {
		for a := range relationsOn(n) {
			for b := range relationsOn(n) {
				wantGreatest(t, a, b)
			}
		}
	}
	for code := 0; code < 512; code += 31 {
		a := relationAt(3, code)
		for other := 0; other < 512; other += 37 {
			wantGreatest(t, a, relationAt(3, other))
		}
		wantGreatest(t, a, composed(a, a))
		wantGreatest(t, a, allPairs(3))
		wantGreatest(t, allPairs(3), a)
	}
}

func TestCompSolveOfFixedRelations(t *testing.T) {
	for _, c := range []struct{ a, b, want []int }{
		{[]int{0}, []int{0}, []int{1}},
		{[]int{1}, []int{0}, []int{0}},
		{[]int{1}, []int{1}, []int{1}},
		{[]int{2, 0}, []int{2, 0}, []int{3, 2}},
		{[]int{2, 0}, []int{0, 0}, []int{3, 0}},
		{[]int{2, 1}, []int{3, 0}, []int{0, 3}},
		{[]int{3, 2}, []int{3, 2}, []int{3, 2}},
		{[]int{2, 4, 0}, []int{4, 0, 0}, []int{7, 4, 0}},
		{[]int{0, 0, 0, 0}, []int{0, 0, 0, 0}, []int{15, 15, 15, 15}},
		{[]int{15, 15, 15, 15}, []int{15, 15, 15, 15}, []int{15, 15, 15, 15}},
		{[]int{15, 15, 15, 15}, []int{5, 5, 5, 5}, []int{5, 5, 5, 5}},
	} {
		got, ok := impl.CompSolve(c.a, c.b)
		wantList(t, fmt.Sprintf("CompSolve(%v, %v)", c.a, c.b), got, ok, c.want)
	}
}

func TestCompSolveFailsWithoutSolution(t *testing.T) {
	for _, c := range []struct{ a, b []int }{
		{[]int{0}, []int{1}},
		{[]int{2, 0}, []int{0, 1}},
		{[]int{0, 0}, []int{0, 2}},
		{[]int{3, 3}, []int{1, 2}},
		{[]int{1, 3}, []int{1, 0}},
		{[]int{2, 4, 0}, []int{2, 4, 1}},
		{[]int{0, 0, 0, 0}, []int{15, 15, 15, 15}},
		{[]int{15, 15, 15, 15}, []int{1, 2, 4, 8}},
		{[]int{1, 2, 4, 0}, []int{0, 0, 0, 8}},
	} {
		got, ok := impl.CompSolve(c.a, c.b)
		wantNoList(t, fmt.Sprintf("CompSolve(%v, %v)", c.a, c.b), got, ok)
	}
}

func TestCompSolveFindsTheGreatestSolutionExactlyIfThereIsOne(t *testing.T) {
	for a, b := range somePairsOfRelations() {
		made := composed(a, b)
		got, ok := impl.CompSolve(a, made)
		wantList(t, fmt.Sprintf("CompSolve(%v, %v)", a, made), got, ok, leftOf(a, made))
		call := fmt.Sprintf("CompSolve(%v, %v)", a, b)
		got, ok = impl.CompSolve(a, b)
		if left := leftOf(a, b); slices.Equal(composed(a, left), b) {
			wantList(t, call, got, ok, left)
		} else {
			wantNoList(t, call, got, ok)
		}
	}
}

func TestCompPowerOfFixedRelations(t *testing.T) {
	for _, c := range []struct {
		a    []int
		k    int
		want []int
	}{
		{[]int{0}, 0, []int{1}},
		{[]int{0}, 1, []int{0}},
		{[]int{0}, 100, []int{0}},
		{[]int{1}, 0, []int{1}},
		{[]int{1}, 100, []int{1}},
		{[]int{2, 1}, 0, []int{1, 2}},
		{[]int{2, 1}, 99, []int{2, 1}},
		{[]int{2, 1}, 100, []int{1, 2}},
		{[]int{2, 4, 0}, 1, []int{2, 4, 0}},
		{[]int{2, 4, 0}, 2, []int{4, 0, 0}},
		{[]int{2, 4, 0}, 3, []int{0, 0, 0}},
		{[]int{2, 4, 1}, 2, []int{4, 1, 2}},
		{[]int{2, 4, 1}, 98, []int{4, 1, 2}},
		{[]int{2, 4, 1}, 99, []int{1, 2, 4}},
		{[]int{2, 4, 1}, 100, []int{2, 4, 1}},
		{[]int{2, 4, 8, 1}, 4, []int{1, 2, 4, 8}},
		{[]int{2, 4, 8, 1}, 99, []int{8, 1, 2, 4}},
		{[]int{2, 4, 8, 3}, 9, []int{14, 15, 15, 15}},
		{[]int{2, 4, 8, 3}, 10, []int{15, 15, 15, 15}},
		{[]int{2, 4, 8, 3}, 100, []int{15, 15, 15, 15}},
		{[]int{0, 0, 0, 0}, 0, []int{1, 2, 4, 8}},
		{[]int{0, 0, 0, 0}, 100, []int{0, 0, 0, 0}},
		{[]int{15, 15, 15, 15}, 0, []int{1, 2, 4, 8}},
		{[]int{15, 15, 15, 15}, 100, []int{15, 15, 15, 15}},
	} {
		got, ok := impl.CompPower(c.a, c.k)
		wantList(t, fmt.Sprintf("CompPower(%v, %d)", c.a, c.k), got, ok, c.want)
	}
}

func TestCompPowerComposesAsOftenAsTold(t *testing.T) {
	for n := 1; n <= pointsMax; n++ {
		for a := range someRelationsOn(n) {
			for k, want := range powersUpTo(a, powerMost) {
				got, ok := impl.CompPower(a, k)
				wantList(t, fmt.Sprintf("CompPower(%v, %d)", a, k), got, ok, want)
			}
		}
	}
}

func TestCompReachAndCompStar(t *testing.T) {
	for _, c := range []struct{ a, reach, star []int }{
		{[]int{0}, []int{0}, []int{1}},
		{[]int{1}, []int{1}, []int{1}},
		{[]int{2, 0}, []int{2, 0}, []int{3, 2}},
		{[]int{2, 1}, []int{3, 3}, []int{3, 3}},
		{[]int{2, 4, 0}, []int{6, 4, 0}, []int{7, 6, 4}},
		{[]int{2, 4, 1}, []int{7, 7, 7}, []int{7, 7, 7}},
		{[]int{0, 0, 0, 0}, []int{0, 0, 0, 0}, []int{1, 2, 4, 8}},
		{[]int{2, 4, 8, 0}, []int{14, 12, 8, 0}, []int{15, 14, 12, 8}},
		{[]int{2, 4, 8, 1}, []int{15, 15, 15, 15}, []int{15, 15, 15, 15}},
		{[]int{15, 15, 15, 15}, []int{15, 15, 15, 15}, []int{15, 15, 15, 15}},
		{[]int{1, 2, 4, 0}, []int{1, 2, 4, 0}, []int{1, 2, 4, 8}},
	} {
		reach, ok := impl.CompReach(c.a)
		wantList(t, fmt.Sprintf("CompReach(%v)", c.a), reach, ok, c.reach)
		star, ok := impl.CompStar(c.a)
		wantList(t, fmt.Sprintf("CompStar(%v)", c.a), star, ok, c.star)
	}
	for a := range allRelations() {
		want := reachOf(a)
		reach, ok := impl.CompReach(a)
		wantList(t, fmt.Sprintf("CompReach(%v)", a), reach, ok, want)
		for i := range want {
			want[i] |= 1 << i
		}
		star, ok := impl.CompStar(a)
		wantList(t, fmt.Sprintf("CompStar(%v)", a), star, ok, want)
	}
}

func wantFar(t *testing.T, a []int, x, y, want int) {
	t.Helper()
	if got, ok := impl.CompFar(a, x, y); !ok || got != want {
		t.Fatalf("CompFar(%v, %d, %d) returned %d, %v, and not %d, true", a, x, y, got, ok, want)
	}
}

func wantNotFar(t *testing.T, a []int, x, y int) {
	t.Helper()
	if got, ok := impl.CompFar(a, x, y); ok || got != 0 {
		t.Fatalf("CompFar(%v, %d, %d) returned %d, %v, and not 0, false", a, x, y, got, ok)
	}
}

func TestCompFar(t *testing.T) {
	wantFar(t, []int{0}, 0, 0, 0)
	wantFar(t, []int{1}, 0, 0, 0)
	wantNotFar(t, []int{0, 0}, 0, 1)
	wantFar(t, []int{2, 0}, 0, 1, 1)
	wantNotFar(t, []int{2, 0}, 1, 0)
	wantFar(t, []int{2, 0}, 1, 1, 0)
	wantFar(t, []int{2, 4, 0}, 0, 2, 2)
	wantFar(t, []int{6, 4, 0}, 0, 2, 1)
	wantNotFar(t, []int{2, 4, 0}, 2, 0)
	wantFar(t, []int{2, 4, 8, 1}, 0, 3, 3)
	wantFar(t, []int{2, 4, 8, 1}, 1, 0, 3)
	wantFar(t, []int{2, 4, 8, 1}, 3, 3, 0)
	wantNotFar(t, []int{0, 0, 0, 0}, 3, 0)
	wantFar(t, []int{15, 15, 15, 15}, 3, 0, 1)
	wantFar(t, []int{15, 15, 15, 15}, 3, 3, 0)
	for a := range allRelations() {
		for x := range a {
			for y := range a {
				if want := farOf(a, x, y); want >= 0 {
					wantFar(t, a, x, y, want)
				} else {
					wantNotFar(t, a, x, y)
				}
			}
		}
	}
}

func TestCompFarFailsForWhatIsNoPoint(t *testing.T) {
	for n := 1; n <= pointsMax; n++ {
		for _, a := range [][]int{noPairs(n), samePoints(n), allPairs(n)} {
			for _, bad := range []int{-1, n, n + 1, 64, 1 << 32, math.MinInt, math.MaxInt} {
				wantNotFar(t, a, bad, 0)
				wantNotFar(t, a, 0, bad)
				wantNotFar(t, a, bad, bad)
			}
		}
	}
}

// wantIndex checks both numbers of CompIndex.
func wantIndex(t *testing.T, a []int, k, m int) {
	t.Helper()
	gotK, gotM, ok := impl.CompIndex(a)
	if !ok || gotK != k || gotM != m {
		t.Fatalf("CompIndex(%v) returned %d, %d, %v, and not %d, %d, true", a, gotK, gotM, ok, k, m)
	}
}

func TestCompIndex(t *testing.T) {
	wantIndex(t, []int{0}, 1, 1)
	wantIndex(t, []int{1}, 0, 1)
	wantIndex(t, []int{0, 0}, 1, 1)
	wantIndex(t, []int{1, 2}, 0, 1)
	wantIndex(t, []int{2, 1}, 0, 2)
	wantIndex(t, []int{2, 0}, 2, 1)
	wantIndex(t, []int{3, 3}, 1, 1)
	wantIndex(t, []int{2, 4, 0}, 3, 1)
	wantIndex(t, []int{2, 4, 1}, 0, 3)
	wantIndex(t, []int{2, 1, 1}, 1, 2)
	wantIndex(t, []int{2, 4, 3}, 5, 1)
	wantIndex(t, []int{0, 0, 0, 0}, 1, 1)
	wantIndex(t, []int{2, 4, 8, 0}, 4, 1)
	wantIndex(t, []int{2, 4, 8, 1}, 0, 4)
	wantIndex(t, []int{2, 4, 8, 3}, 10, 1)
	wantIndex(t, []int{2, 4, 1, 1}, 1, 3)
	wantIndex(t, []int{15, 15, 15, 15}, 1, 1)
	for a := range allRelations() {
		k, m := indexOf(a)
		wantIndex(t, a, k, m)
	}
}
