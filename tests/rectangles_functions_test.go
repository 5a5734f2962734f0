package tests

import (
	"fmt"
	"slices"
	"testing"

	"loop.example/fewrelations/impl"
)

func wantFull(t *testing.T, a []int, want [][]int) {
	t.Helper()
	got, ok := impl.RectAll(a)
	wantLists(t, fmt.Sprintf("RectAll(%v)", a), got, ok, want)
}

func wantPolarAndClosed(t *testing.T, a []int, set, polar, closed int) {
	t.Helper()
	if got, ok := impl.RectPolar(a, set); !ok || got != polar {
		t.Fatalf("RectPolar(%v, %d) returned %d, %v, and not %d, true", a, set, got, ok, polar)
	}
	if got, ok := impl.RectClosed(a, set); !ok || got != closed {
		t.Fatalf("RectClosed(%v, %d) returned %d, %v, and not %d, true", a, set, got, ok, closed)
	}
}

func wantRank(t *testing.T, a []int, want int) {
	t.Helper()
	if got, ok := impl.RectRank(a); !ok || got != want {
		t.Fatalf("RectRank(%v) returned %d, %v, and not %d, true", a, got, ok, want)
	}
}

func wantStepped(t *testing.T, a []int, want bool) {
	t.Helper()
	if impl.RectStepped(a) != want {
		t.Fatalf("RectStepped(%v) is not %v", a, want)
	}
}

func wantStep(t *testing.T, a, want []int) {
	t.Helper()
	got, ok := impl.RectStep(a)
	wantList(t, fmt.Sprintf("RectStep(%v)", a), got, ok, want)
}

func wantInRectangles(t *testing.T, n int, list [][]int, want []int) {
	t.Helper()
	got, ok := impl.RectOf(n, list)
	wantList(t, fmt.Sprintf("RectOf(%d, %v)", n, list), got, ok, want)
}

func wantBlocks(t *testing.T, a []int, want [][]int) {
	t.Helper()
	got, ok := impl.RectBlocks(a)
	wantLists(t, fmt.Sprintf("RectBlocks(%v)", a), got, ok, want)
}

func wantNoBlocks(t *testing.T, a []int) {
	t.Helper()
	if got, ok := impl.RectBlocks(a); ok || len(got) != 0 {
		t.Fatalf("RectBlocks(%v) returned %v, %v, and not the zero value, false", a, got, ok)
	}
}

func TestFixedSteppedRelations(t *testing.T) {
	for _, c := range []struct {
		what   string
		a      []int
		all    [][]int
		blocks [][]int
	}{
		{"one point without pairs", []int{0}, [][]int{{0, 1}, {1, 0}}, nil},
		{"one point with its pair", []int{1}, [][]int{{1, 1}}, [][]int{{1, 1}}},
		{"two points without pairs", []int{0, 0}, [][]int{{0, 3}, {3, 0}}, nil},
		{"each of two points to itself", []int{1, 2}, [][]int{{0, 3}, {1, 1}, {2, 2}, {3, 0}}, [][]int{{1, 1}, {2, 2}}},
		{"each of two points to the other one", []int{2, 1}, [][]int{{0, 3}, {1, 2}, {2, 1}, {3, 0}}, [][]int{{1, 2}, {2, 1}}},
		{"one point to both", []int{3, 0}, [][]int{{1, 3}, {3, 0}}, [][]int{{1, 3}}},
		{"both points to one", []int{1, 1}, [][]int{{0, 3}, {3, 1}}, [][]int{{3, 1}}},
		{"all pairs of two points", []int{3, 3}, [][]int{{3, 3}}, [][]int{{3, 3}}},
		{"three points without pairs", []int{0, 0, 0}, [][]int{{0, 7}, {7, 0}}, nil},
		{"the last point to itself", []int{0, 0, 4}, [][]int{{0, 7}, {4, 4}, {7, 0}}, [][]int{{4, 4}}},
		{"two classes, one around the other", []int{5, 2, 5}, [][]int{{0, 7}, {2, 2}, {5, 5}, {7, 0}}, [][]int{{5, 5}, {2, 2}}},
		{"three points in a circle", []int{2, 4, 1}, [][]int{{0, 7}, {1, 2}, {2, 4}, {4, 1}, {7, 0}}, [][]int{{1, 2}, {2, 4}, {4, 1}}},
		{"four points without pairs", []int{0, 0, 0, 0}, [][]int{{0, 15}, {15, 0}}, nil},
		{"two classes of four points", []int{9, 6, 6, 9}, [][]int{{0, 15}, {6, 6}, {9, 9}, {15, 0}}, [][]int{{9, 9}, {6, 6}}},
		{"blocks that are no classes", []int{2, 8, 2, 4}, [][]int{{0, 15}, {2, 8}, {5, 2}, {8, 4}, {15, 0}}, [][]int{{5, 2}, {2, 8}, {8, 4}}},
		{"a point that is in no block", []int{7, 7, 0, 0}, [][]int{{0, 15}, {3, 7}, {15, 0}}, [][]int{{3, 7}}},
		{"a great block ahead of the point between", []int{6, 1, 0, 6}, [][]int{{0, 15}, {2, 1}, {9, 6}, {15, 0}}, [][]int{{9, 6}, {2, 1}}},
		{"all pairs of four points", []int{15, 15, 15, 15}, [][]int{{15, 15}}, [][]int{{15, 15}}},
	} {
		t.Run(c.what, func(t *testing.T) {
			wantFull(t, c.a, c.all)
			wantRank(t, c.a, len(c.blocks))
			wantStepped(t, c.a, true)
			wantStep(t, c.a, c.a)
			wantBlocks(t, c.a, c.blocks)
			wantInRectangles(t, len(c.a), c.all, c.a)
			wantInRectangles(t, len(c.a), c.blocks, c.a)
		})
	}
}

func TestFixedRelationsThatAreNotStepped(t *testing.T) {
	for _, c := range []struct {
		what string
		a    []int
		all  [][]int
		rank int
		step []int
	}{
		{"all pairs but one of two points", []int{3, 1}, [][]int{{1, 3}, {3, 1}}, 2, []int{3, 3}},
		{"each point to those behind it", []int{6, 4, 0}, [][]int{{0, 7}, {1, 6}, {3, 4}, {7, 0}}, 2, []int{6, 6, 0}},
		{"each of three points to others", []int{6, 5, 3}, [][]int{{0, 7}, {1, 6}, {2, 5}, {3, 4}, {4, 3}, {5, 2}, {6, 1}, {7, 0}}, 3, []int{7, 7, 7}},
		{"a row that is two others together", []int{1, 2, 3}, [][]int{{0, 7}, {4, 3}, {5, 1}, {6, 2}, {7, 0}}, 2, []int{3, 3, 3}},
		{"rows that only a third one brings together", []int{1, 3, 6}, [][]int{{0, 7}, {2, 3}, {3, 1}, {4, 6}, {6, 2}, {7, 0}}, 3, []int{7, 7, 7}},
		{"a chain of four points", []int{15, 14, 12, 8}, [][]int{{1, 15}, {3, 14}, {7, 12}, {15, 8}}, 4, []int{15, 15, 15, 15}},
		{"rows that come together only step by step", []int{1, 3, 6, 12}, [][]int{{0, 15}, {2, 3}, {3, 1}, {4, 6}, {6, 2}, {8, 12}, {12, 4}, {15, 0}}, 4, []int{15, 15, 15, 15}},
		{"each of four points to two in a circle", []int{3, 6, 12, 9}, [][]int{{0, 15}, {1, 3}, {2, 6}, {3, 2}, {4, 12}, {6, 4}, {8, 9}, {9, 1}, {12, 8}, {15, 0}}, 4, []int{15, 15, 15, 15}},
		{"two parts, one of them stepped", []int{3, 1, 12, 12}, [][]int{{0, 15}, {1, 3}, {3, 1}, {12, 12}, {15, 0}}, 3, []int{3, 3, 12, 12}},
		{"a point apart", []int{3, 2, 2, 8}, [][]int{{0, 15}, {1, 3}, {7, 2}, {8, 8}, {15, 0}}, 3, []int{3, 3, 3, 8}},
	} {
		t.Run(c.what, func(t *testing.T) {
			wantFull(t, c.a, c.all)
			wantRank(t, c.a, c.rank)
			wantStepped(t, c.a, false)
			wantStep(t, c.a, c.step)
			wantNoBlocks(t, c.a)
			wantInRectangles(t, len(c.a), c.all, c.a)
		})
	}
}

func TestFixedPolarsAndClosedSets(t *testing.T) {
	for _, c := range []struct {
		a               []int
		polars, closeds []int
	}{
		{[]int{0}, []int{1, 0}, []int{0, 1}},
		{[]int{1}, []int{1, 1}, []int{1, 1}},
		{[]int{0, 0}, []int{3, 0, 0, 0}, []int{0, 3, 3, 3}},
		{[]int{1, 2}, []int{3, 1, 2, 0}, []int{0, 1, 2, 3}},
		{[]int{3, 1}, []int{3, 3, 1, 1}, []int{1, 1, 3, 3}},
		{[]int{3, 0}, []int{3, 3, 0, 0}, []int{1, 1, 3, 3}},
		{[]int{2, 3}, []int{3, 2, 3, 2}, []int{2, 3, 2, 3}},
		{[]int{6, 4, 0}, []int{7, 6, 4, 4, 0, 0, 0, 0}, []int{0, 1, 3, 3, 7, 7, 7, 7}},
		{[]int{6, 5, 3}, []int{7, 6, 5, 4, 3, 2, 1, 0}, []int{0, 1, 2, 3, 4, 5, 6, 7}},
		{[]int{7, 7, 7}, []int{7, 7, 7, 7, 7, 7, 7, 7}, []int{7, 7, 7, 7, 7, 7, 7, 7}},
		{[]int{3, 6, 2}, []int{7, 3, 6, 2, 2, 2, 2, 2}, []int{0, 1, 2, 7, 7, 7, 7, 7}},
		{
			[]int{15, 14, 12, 8},
			[]int{15, 15, 14, 14, 12, 12, 12, 12, 8, 8, 8, 8, 8, 8, 8, 8},
			[]int{1, 1, 3, 3, 7, 7, 7, 7, 15, 15, 15, 15, 15, 15, 15, 15},
		},
	} {
		for set := range 1 << len(c.a) {
			wantPolarAndClosed(t, c.a, set, c.polars[set], c.closeds[set])
		}
	}
}

func TestRectanglesByTheirDefinitions(t *testing.T) {
	for a := range allRelations() {
		full := fullOf(a)
		wantFull(t, a, full)
		for set := range 1 << len(a) {
			closed := closedOf(a, set)
			if least := leastFirst(full, set); least != closed {
				t.Fatalf("for %v and %d, %d are related to all of the polar, and the least first set is %d", a, set, closed, least)
			}
			wantPolarAndClosed(t, a, set, polarOf(a, set), closed)
		}
	}
}

func TestRectRankOfEachRelation(t *testing.T) {
	for n := 1; n <= pointsMax; n++ {
		counts := make([]int, n+1)
		for code, rank := range ranksOn(n) {
			wantRank(t, relationAt(n, code), rank)
			counts[rank]++
		}
		rectangles := (1<<n - 1) * (1<<n - 1)
		if counts[0] != 1 || counts[1] != rectangles || counts[n] == 0 {
			t.Fatalf("there are %v relations on %d points of the ranks from 0 on", counts, n)
		}
	}
}

func TestSteppedRelationsAndTheirBlocks(t *testing.T) {
	stepped := make([]int, pointsMax+1)
	for a := range allRelations() {
		wantStepped(t, a, isStepped(a))
		wantStep(t, a, stepOf(a))
		if !isStepped(a) {
			wantNoBlocks(t, a)
			continue
		}
		stepped[len(a)]++
		wantBlocks(t, a, blocksOf(a))
	}
	if !slices.Equal(stepped, countsOfStepped) {
		t.Fatalf("there were %v stepped relations on 0 to %d points", stepped, pointsMax)
	}
}

// What stepped relations have in common is a stepped relation again; so the least one has the pairs that all above have.
func TestRectStepIsTheLeastOfAllSteppedRelations(t *testing.T) {
	for n := 1; n <= pointsMax; n++ {
		codes := []int{}
		for _, a := range steppedOn(n) {
			codes = append(codes, codeOf(a))
		}
		for code := range 1 << (n * n) {
			wantStep(t, relationAt(n, code), relationAt(n, leastCodeAmong(code, codes)))
		}
	}
}

func TestRectOfOneAndOfTwoRectangles(t *testing.T) {
	for n := 1; n <= pointsMax; n++ {
		rectangles := [][]int{}
		for first := range 1 << n {
			for second := range 1 << n {
				rectangles = append(rectangles, []int{first, second})
			}
		}
		for _, one := range rectangles {
			wantInRectangles(t, n, [][]int{one}, inRectangles(n, [][]int{one}))
			for _, two := range rectangles {
				both := [][]int{one, two}
				wantInRectangles(t, n, both, inRectangles(n, both))
			}
		}
	}
}

func TestRectOfFixedRectangles(t *testing.T) {
	for _, c := range []struct {
		n    int
		list [][]int
		want []int
	}{
		{1, [][]int{{1, 1}}, []int{1}},
		{1, [][]int{{0, 1}, {1, 0}, {0, 0}}, []int{0}},
		{2, [][]int{{1, 3}, {3, 1}}, []int{3, 1}},
		{2, [][]int{{0, 3}, {3, 0}}, []int{0, 0}},
		{2, [][]int{{2, 1}, {2, 1}, {2, 1}, {2, 1}, {2, 1}}, []int{0, 1}},
		{3, [][]int{{3, 4}, {1, 6}}, []int{6, 4, 0}},
		{3, [][]int{{6, 1}, {5, 2}, {3, 4}}, []int{6, 5, 3}},
		{3, [][]int{{7, 0}, {4, 5}, {0, 7}}, []int{0, 0, 5}},
		{4, [][]int{{15, 15}}, []int{15, 15, 15, 15}},
		{4, [][]int{{8, 4}, {5, 2}, {2, 8}}, []int{2, 8, 2, 4}},
		{4, [][]int{{8, 8}, {12, 4}, {14, 2}, {15, 1}}, []int{1, 3, 7, 15}},
	} {
		wantInRectangles(t, c.n, c.list, c.want)
	}
}

func TestRectOfTakesNoRectanglesAndMany(t *testing.T) {
	for n := 1; n <= pointsMax; n++ {
		wantInRectangles(t, n, nil, noPairs(n))
		wantInRectangles(t, n, [][]int{}, noPairs(n))
		many := [][]int{}
		for range 100 {
			for x := range n {
				many = append(many, []int{1 << x, 1 << x}, []int{0, 1<<n - 1}, []int{1<<n - 1, 0})
			}
		}
		wantInRectangles(t, n, many, samePoints(n))
		wantInRectangles(t, n, append(many, []int{1<<n - 1, 1<<n - 1}), allPairs(n))
	}
}

func TestRelationsWithAllPairs(t *testing.T) {
	for n := 1; n <= pointsMax; n++ {
		a, all := allPairs(n), 1<<n-1
		wantFull(t, a, [][]int{{all, all}})
		wantRank(t, a, 1)
		wantStepped(t, a, true)
		wantStep(t, a, a)
		wantBlocks(t, a, [][]int{{all, all}})
		wantInRectangles(t, n, [][]int{{all, all}}, a)
		for set := range 1 << n {
			wantPolarAndClosed(t, a, set, all, all)
		}
	}
}

// Without pairs, the polar of a set is empty but for the empty set, and there are two full rectangles, both without pairs.
func TestRelationsWithoutPairs(t *testing.T) {
	for n := 1; n <= pointsMax; n++ {
		a, all := noPairs(n), 1<<n-1
		wantFull(t, a, [][]int{{0, all}, {all, 0}})
		wantRank(t, a, 0)
		wantStepped(t, a, true)
		wantStep(t, a, a)
		wantBlocks(t, a, nil)
		wantPolarAndClosed(t, a, 0, all, 0)
		for set := 1; set <= all; set++ {
			wantPolarAndClosed(t, a, set, 0, all)
		}
	}
}

// The rank of a relation of each point to itself, and of that to itself and all behind it, is the number of points.
func TestRelationsOfTheGreatestRank(t *testing.T) {
	for n := 1; n <= pointsMax; n++ {
		wantRank(t, samePoints(n), n)
		for p := range renamings(n) {
			wantRank(t, chainOf(p), n)
			wantRank(t, relationOfMap(p), n)
		}
	}
}

// In a relation of each point to all others, each set is closed, and its polar has all other points.
func TestEachPointToAllOthers(t *testing.T) {
	for n := 1; n <= pointsMax; n++ {
		a := relationWhere(n, func(x, y int) bool { return x != y })
		all := 1<<n - 1
		full := [][]int{}
		for set := range 1 << n {
			wantPolarAndClosed(t, a, set, all-set, set)
			full = append(full, []int{set, all - set})
		}
		wantFull(t, a, full)
		wantRank(t, a, []int{1: 0, 2: 2, 3: 3, 4: 4}[n])
		wantStepped(t, a, n <= 2)
	}
}

// The polar of the empty set has all points, and that of the set of all points those to which all are related.
func TestTheEmptySetAndTheSetOfAllPoints(t *testing.T) {
	for a := range allRelations() {
		all := 1<<len(a) - 1
		common, whole := all, 0
		for x, row := range a {
			common &= row
			if row == all {
				whole += 1 << x
			}
		}
		wantPolarAndClosed(t, a, 0, all, whole)
		wantPolarAndClosed(t, a, all, common, all)
	}
}
