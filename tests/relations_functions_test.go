package tests

import (
	"fmt"
	"math"
	"slices"
	"testing"

	"loop.example/fewrelations/impl"
)

func TestConstants(t *testing.T) {
	if impl.PointsMax != 4 {
		t.Errorf("PointsMax is %d", impl.PointsMax)
	}
	if impl.MaxScript != 600 {
		t.Errorf("MaxScript is %d", impl.MaxScript)
	}
}

func TestRelInHoldsForRelationsAlone(t *testing.T) {
	for a := range allRelations() {
		if !impl.RelIn(a) {
			t.Fatalf("RelIn(%v) does not hold", a)
		}
	}
	for _, a := range noRelations() {
		if impl.RelIn(a) {
			t.Errorf("RelIn(%v) holds", a)
		}
	}
	for n := 1; n <= pointsMax; n++ {
		for i := range n {
			for _, row := range []int{-1, 1 << n} {
				a := allPairs(n)
				a[i] = row
				if impl.RelIn(a) {
					t.Errorf("RelIn(%v) holds", a)
				}
			}
		}
	}
}

func TestRelOfTellsPairs(t *testing.T) {
	for _, c := range []struct {
		n     int
		pairs [][]int
		want  []int
	}{
		{1, nil, []int{0}},
		{1, [][]int{}, []int{0}},
		{1, [][]int{{0, 0}}, []int{1}},
		{1, [][]int{{0, 0}, {0, 0}, {0, 0}}, []int{1}},
		{2, [][]int{{0, 1}}, []int{2, 0}},
		{2, [][]int{{1, 0}}, []int{0, 1}},
		{3, [][]int{{0, 1}, {1, 2}}, []int{2, 4, 0}},
		{3, [][]int{{2, 0}, {0, 2}, {2, 0}, {1, 1}}, []int{4, 2, 1}},
		{4, nil, []int{0, 0, 0, 0}},
		{4, [][]int{{3, 3}, {3, 0}, {0, 3}, {3, 3}}, []int{8, 0, 0, 9}},
		{4, [][]int{{1, 3}, {1, 2}, {1, 1}, {1, 0}}, []int{0, 15, 0, 0}},
	} {
		got, ok := impl.RelOf(c.n, c.pairs)
		wantList(t, fmt.Sprintf("RelOf(%d, %v)", c.n, c.pairs), got, ok, c.want)
	}
}

func TestRelOfTakesManyPairsInAnyOrder(t *testing.T) {
	for n := 1; n <= pointsMax; n++ {
		pairs := [][]int{}
		for range 3 {
			for y := n - 1; y >= 0; y-- {
				for x := range n {
					pairs = append(pairs, []int{x, y})
				}
			}
		}
		got, ok := impl.RelOf(n, pairs)
		wantList(t, fmt.Sprintf("RelOf(%d, all pairs three times)", n), got, ok, allPairs(n))
	}
}

func TestRelOfFails(t *testing.T) {
	for _, n := range []int{0, -1, 5, 6, 64, 1 << 32, 1<<32 + 1, math.MinInt, math.MaxInt} {
		for _, pairs := range [][][]int{nil, {}, {{0, 0}}} {
			got, ok := impl.RelOf(n, pairs)
			wantNoList(t, fmt.Sprintf("RelOf(%d, %v)", n, pairs), got, ok)
		}
	}
	for n := 1; n <= pointsMax; n++ {
		for _, bad := range [][]int{
			nil, {}, {0}, {0, 0, 0}, {0, 0, 0, 0},
			{-1, 0}, {0, -1}, {n, 0}, {0, n}, {4, 4},
			{math.MinInt, 0}, {0, math.MinInt}, {math.MaxInt, 0}, {0, math.MaxInt},
			{1 << 32, 0}, {0, 1 << 32}, {256, 0}, {0, 64},
		} {
			for _, pairs := range [][][]int{{bad}, {{0, 0}, bad}, {bad, {0, 0}}} {
				got, ok := impl.RelOf(n, pairs)
				wantNoList(t, fmt.Sprintf("RelOf(%d, %v)", n, pairs), got, ok)
			}
		}
	}
}

func TestRelPairsTellsPairsInOrder(t *testing.T) {
	for _, c := range []struct {
		a    []int
		want [][]int
	}{
		{[]int{0}, nil},
		{[]int{1}, [][]int{{0, 0}}},
		{[]int{2, 0}, [][]int{{0, 1}}},
		{[]int{3, 3}, [][]int{{0, 0}, {0, 1}, {1, 0}, {1, 1}}},
		{[]int{4, 0, 3}, [][]int{{0, 2}, {2, 0}, {2, 1}}},
		{[]int{0, 0, 0, 0}, [][]int{}},
		{[]int{8, 0, 0, 9}, [][]int{{0, 3}, {3, 0}, {3, 3}}},
	} {
		got, ok := impl.RelPairs(c.a)
		wantLists(t, fmt.Sprintf("RelPairs(%v)", c.a), got, ok, c.want)
	}
	for a := range allRelations() {
		want := [][]int{}
		for x := range a {
			for y := range a {
				if relates(a, x, y) {
					want = append(want, []int{x, y})
				}
			}
		}
		got, ok := impl.RelPairs(a)
		wantLists(t, fmt.Sprintf("RelPairs(%v)", a), got, ok, want)
	}
}

func TestRelEitherAndRelBothAndRelBelow(t *testing.T) {
	for a, b := range somePairsOfRelations() {
		n := len(a)
		call := fmt.Sprintf("(%v, %v)", a, b)
		either, ok := impl.RelEither(a, b)
		wantList(t, "RelEither"+call, either, ok, relationWhere(n, func(x, y int) bool { return relates(a, x, y) || relates(b, x, y) }))
		both, ok := impl.RelBoth(a, b)
		wantList(t, "RelBoth"+call, both, ok, relationWhere(n, func(x, y int) bool { return relates(a, x, y) && relates(b, x, y) }))
		below := true
		for x := range n {
			for y := range n {
				below = below && (!relates(a, x, y) || relates(b, x, y))
			}
		}
		if impl.RelBelow(a, b) != below {
			t.Fatalf("RelBelow%s is not %v", call, below)
		}
	}
}

func TestRelEitherAndRelBothAndRelBelowOfFixedRelations(t *testing.T) {
	for _, c := range []struct {
		a, b, either, both []int
		below              bool
	}{
		{[]int{0}, []int{0}, []int{0}, []int{0}, true},
		{[]int{0}, []int{1}, []int{1}, []int{0}, true},
		{[]int{1}, []int{0}, []int{1}, []int{0}, false},
		{[]int{1}, []int{1}, []int{1}, []int{1}, true},
		{[]int{1, 2}, []int{2, 3}, []int{3, 3}, []int{0, 2}, false},
		{[]int{2, 4, 0}, []int{6, 4, 0}, []int{6, 4, 0}, []int{2, 4, 0}, true},
		{[]int{6, 4, 0}, []int{6, 4, 1}, []int{6, 4, 1}, []int{6, 4, 0}, true},
		{[]int{0, 0, 0, 8}, []int{15, 15, 15, 7}, []int{15, 15, 15, 15}, []int{0, 0, 0, 0}, false},
		{[]int{0, 0, 0, 0}, []int{15, 15, 15, 15}, []int{15, 15, 15, 15}, []int{0, 0, 0, 0}, true},
	} {
		either, ok := impl.RelEither(c.a, c.b)
		wantList(t, fmt.Sprintf("RelEither(%v, %v)", c.a, c.b), either, ok, c.either)
		both, ok := impl.RelBoth(c.a, c.b)
		wantList(t, fmt.Sprintf("RelBoth(%v, %v)", c.a, c.b), both, ok, c.both)
		if impl.RelBelow(c.a, c.b) != c.below {
			t.Errorf("RelBelow(%v, %v) is not %v", c.a, c.b, c.below)
		}
	}
}

func TestRelOtherAndRelTurned(t *testing.T) {
	for _, c := range []struct{ a, other, turned []int }{
		{[]int{0}, []int{1}, []int{0}},
		{[]int{1}, []int{0}, []int{1}},
		{[]int{2, 0}, []int{1, 3}, []int{0, 1}},
		{[]int{2, 4, 0}, []int{5, 3, 7}, []int{0, 1, 2}},
		{[]int{0, 0, 0, 0}, []int{15, 15, 15, 15}, []int{0, 0, 0, 0}},
		{[]int{15, 15, 15, 15}, []int{0, 0, 0, 0}, []int{15, 15, 15, 15}},
		{[]int{8, 8, 0, 1}, []int{7, 7, 15, 14}, []int{8, 0, 0, 3}},
	} {
		other, ok := impl.RelOther(c.a)
		wantList(t, fmt.Sprintf("RelOther(%v)", c.a), other, ok, c.other)
		turned, ok := impl.RelTurned(c.a)
		wantList(t, fmt.Sprintf("RelTurned(%v)", c.a), turned, ok, c.turned)
	}
	for a := range allRelations() {
		n := len(a)
		other, ok := impl.RelOther(a)
		wantList(t, fmt.Sprintf("RelOther(%v)", a), other, ok, relationWhere(n, func(x, y int) bool { return !relates(a, x, y) }))
		turned, ok := impl.RelTurned(a)
		wantList(t, fmt.Sprintf("RelTurned(%v)", a), turned, ok, relationWhere(n, func(x, y int) bool { return relates(a, y, x) }))
	}
}

func TestRelSame(t *testing.T) {
	for n, want := range [][]int{1: {1}, 2: {1, 2}, 3: {1, 2, 4}, 4: {1, 2, 4, 8}} {
		got, ok := impl.RelSame(n)
		if n == 0 {
			wantNoList(t, "RelSame(0)", got, ok)
			continue
		}
		wantList(t, fmt.Sprintf("RelSame(%d)", n), got, ok, want)
	}
	for _, n := range []int{-1, 5, 64, 1 << 32, 1<<32 + 1, math.MinInt, math.MaxInt} {
		got, ok := impl.RelSame(n)
		wantNoList(t, fmt.Sprintf("RelSame(%d)", n), got, ok)
	}
}

func TestRelNamed(t *testing.T) {
	for _, c := range []struct{ a, p, want []int }{
		{[]int{0}, []int{0}, []int{0}},
		{[]int{1}, []int{0}, []int{1}},
		{[]int{2, 0}, []int{1, 0}, []int{0, 1}},
		{[]int{2, 4, 0}, []int{0, 1, 2}, []int{2, 4, 0}},
		{[]int{2, 0, 0}, []int{1, 2, 0}, []int{0, 4, 0}},
		{[]int{1, 4, 0}, []int{1, 2, 0}, []int{0, 2, 1}},
		{[]int{6, 0, 0, 8}, []int{3, 0, 1, 2}, []int{0, 0, 4, 3}},
		{[]int{15, 15, 15, 15}, []int{2, 3, 1, 0}, []int{15, 15, 15, 15}},
		{[]int{0, 0, 0, 0}, []int{2, 3, 1, 0}, []int{0, 0, 0, 0}},
	} {
		got, ok := impl.RelNamed(c.a, c.p)
		wantList(t, fmt.Sprintf("RelNamed(%v, %v)", c.a, c.p), got, ok, c.want)
	}
	for n := 1; n <= pointsMax; n++ {
		for p := range renamings(n) {
			for a := range someRelationsOn(n) {
				old := func(x int) int { return slices.Index(p, x) }
				want := relationWhere(n, func(x, y int) bool { return relates(a, old(x), old(y)) })
				got, ok := impl.RelNamed(a, p)
				wantList(t, fmt.Sprintf("RelNamed(%v, %v)", a, p), got, ok, want)
			}
		}
	}
}

func TestRelNamedFails(t *testing.T) {
	for _, c := range []struct{ a, p []int }{
		{[]int{1}, nil},
		{[]int{1}, []int{}},
		{[]int{1}, []int{1}},
		{[]int{1}, []int{-1}},
		{[]int{1}, []int{0, 0}},
		{[]int{1}, []int{0, 1}},
		{[]int{1, 2}, []int{0}},
		{[]int{1, 2}, []int{0, 0}},
		{[]int{1, 2}, []int{1, 1}},
		{[]int{1, 2}, []int{0, 2}},
		{[]int{1, 2}, []int{0, 1, 2}},
		{[]int{0, 0}, []int{0, math.MinInt}},
		{[]int{0, 0}, []int{math.MaxInt, 0}},
		{[]int{0, 0}, []int{1 << 32, 1}},
		{[]int{0, 0, 0}, nil},
		{[]int{1, 2, 4}, []int{0, 1, 1}},
		{[]int{1, 2, 4}, []int{2, 1, 2}},
		{[]int{1, 2, 4}, []int{0, 1, 3}},
		{[]int{1, 2, 4}, []int{0, -1, 2}},
		{[]int{1, 2, 4, 8}, []int{0, 1, 2}},
		{[]int{1, 2, 4, 8}, []int{0, 1, 2, 3, 0}},
		{[]int{1, 2, 4, 8}, []int{0, 1, 2, 4}},
		{[]int{1, 2, 4, 8}, []int{3, 2, 1, 3}},
	} {
		got, ok := impl.RelNamed(c.a, c.p)
		wantNoList(t, fmt.Sprintf("RelNamed(%v, %v)", c.a, c.p), got, ok)
	}
}

func TestRelEndsAndRelSize(t *testing.T) {
	for _, c := range []struct {
		a               []int
		starts, targets int
		size            int
	}{
		{[]int{0}, 0, 0, 0},
		{[]int{1}, 1, 1, 1},
		{[]int{2, 0}, 1, 2, 1},
		{[]int{2, 4, 0}, 3, 6, 2},
		{[]int{0, 7, 0}, 2, 7, 3},
		{[]int{4, 4, 4}, 7, 4, 3},
		{[]int{0, 0, 0, 0}, 0, 0, 0},
		{[]int{8, 0, 0, 8}, 9, 8, 2},
		{[]int{15, 15, 15, 15}, 15, 15, 16},
	} {
		starts, targets, ok := impl.RelEnds(c.a)
		if !ok || starts != c.starts || targets != c.targets {
			t.Errorf("RelEnds(%v) returned %d, %d, %v, and not %d, %d, true", c.a, starts, targets, ok, c.starts, c.targets)
		}
		if size, ok := impl.RelSize(c.a); !ok || size != c.size {
			t.Errorf("RelSize(%v) returned %d, %v, and not %d, true", c.a, size, ok, c.size)
		}
	}
	for a := range allRelations() {
		wantStarts, wantTargets, wantSize := 0, 0, 0
		for x := range a {
			for y := range a {
				if relates(a, x, y) {
					wantStarts |= 1 << x
					wantTargets |= 1 << y
					wantSize++
				}
			}
		}
		starts, targets, ok := impl.RelEnds(a)
		if !ok || starts != wantStarts || targets != wantTargets {
			t.Fatalf("RelEnds(%v) returned %d, %d, %v, and not %d, %d, true", a, starts, targets, ok, wantStarts, wantTargets)
		}
		if size, ok := impl.RelSize(a); !ok || size != wantSize {
			t.Fatalf("RelSize(%v) returned %d, %v, and not %d, true", a, size, ok, wantSize)
		}
	}
}
