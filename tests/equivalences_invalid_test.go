package tests

import (
	"fmt"
	"math"
	"slices"
	"testing"

	"loop.example/fewrelations/impl"
)

func wantNothingOfOne(t *testing.T, e []int) {
	t.Helper()
	if impl.EquIn(e) {
		t.Fatalf("EquIn(%v) holds", e)
	}
	classes, ok := impl.EquClasses(e)
	wantNoList(t, fmt.Sprintf("EquClasses(%v)", e), classes, ok)
}

func wantNoMeetOrJoin(t *testing.T, e, f []int) {
	t.Helper()
	call := fmt.Sprintf("(%v, %v)", e, f)
	meet, ok := impl.EquMeet(e, f)
	wantNoList(t, "EquMeet"+call, meet, ok)
	join, ok := impl.EquJoin(e, f)
	wantNoList(t, "EquJoin"+call, join, ok)
}

func wantNoQuotient(t *testing.T, a, e []int) {
	t.Helper()
	quotient, ok := impl.EquQuotient(a, e)
	wantNoList(t, fmt.Sprintf("EquQuotient(%v, %v)", a, e), quotient, ok)
	if impl.EquKept(e, a) {
		t.Fatalf("EquKept(%v, %v) holds", e, a)
	}
}

func wantNoPartition(t *testing.T, n int, classes []int) {
	t.Helper()
	got, ok := impl.EquOf(n, classes)
	wantNoList(t, fmt.Sprintf("EquOf(%d, %v)", n, classes), got, ok)
}

func TestEquivalencesFailForOtherLists(t *testing.T) {
	for _, bad := range noRelations() {
		wantNothingOfOne(t, bad)
		kernel, ok := impl.EquKernel(bad)
		wantNoList(t, fmt.Sprintf("EquKernel(%v)", bad), kernel, ok)
		for n := 1; n <= pointsMax; n++ {
			for _, e := range equivalencesOn(n) {
				wantNoMeetOrJoin(t, bad, e)
				wantNoMeetOrJoin(t, e, bad)
				wantNoQuotient(t, bad, e)
				wantNoQuotient(t, e, bad)
			}
		}
		for _, worse := range noRelations() {
			wantNoMeetOrJoin(t, bad, worse)
			wantNoQuotient(t, bad, worse)
		}
	}
}

func TestEquivalencesFailForOtherRelations(t *testing.T) {
	for n := 1; n <= pointsMax; n++ {
		for _, a := range noEquivalences(n) {
			wantNothingOfOne(t, a)
			wantNoMeetOrJoin(t, a, a)
			for _, e := range equivalencesOn(n) {
				wantNoMeetOrJoin(t, a, e)
				wantNoMeetOrJoin(t, e, a)
				wantNoQuotient(t, e, a)
			}
			for _, b := range fewRelations(n) {
				wantNoQuotient(t, b, a)
			}
		}
	}
}

// Each relation has two of the kinds of an equivalence and lacks the third one.
func TestEquivalencesFailForRelationsThatLackOneKind(t *testing.T) {
	for _, c := range []struct {
		a      []int
		lacked byte
	}{
		{[]int{0}, 'r'},
		{[]int{3, 3, 0}, 'r'},
		{[]int{0, 0, 0, 0}, 'r'},
		{[]int{7, 7, 7, 0}, 'r'},
		{[]int{3, 2}, 's'},
		{[]int{7, 6, 4}, 's'},
		{[]int{3, 3, 7}, 's'},
		{[]int{15, 14, 12, 8}, 's'},
		{[]int{3, 7, 6}, 't'},
		{[]int{7, 3, 5}, 't'},
		{[]int{11, 7, 14, 13}, 't'},
	} {
		n := len(c.a)
		for _, kind := range []byte("rst") {
			if isKind(c.a, kind) == (kind == c.lacked) {
				t.Fatalf("%v does not lack the kind %c alone", c.a, c.lacked)
			}
		}
		wantNothingOfOne(t, c.a)
		for _, e := range [][]int{samePoints(n), allPairs(n)} {
			wantNoMeetOrJoin(t, c.a, e)
			wantNoMeetOrJoin(t, e, c.a)
			wantNoQuotient(t, e, c.a)
		}
	}
}

func TestEquivalencesFailForDifferentNumbersOfPoints(t *testing.T) {
	for n := 1; n <= pointsMax; n++ {
		for m := 1; m <= pointsMax; m++ {
			if n == m {
				continue
			}
			for _, e := range equivalencesOn(n) {
				for _, f := range equivalencesOn(m) {
					wantNoMeetOrJoin(t, e, f)
				}
				for _, a := range fewRelations(m) {
					wantNoQuotient(t, a, e)
				}
			}
		}
	}
}

func TestEquOfFailsForOtherNumbersOfPoints(t *testing.T) {
	for _, n := range outOfCounts() {
		for _, classes := range [][]int{nil, {}, {1}, {1, 2}, {15}, {1, 2, 4, 8}, {31}, {1, 2, 4, 8, 16}, {63}, {-1}, {math.MaxInt}} {
			wantNoPartition(t, n, classes)
		}
	}
}

func TestEquOfFailsForWhatIsNoPartition(t *testing.T) {
	for _, c := range []struct {
		what string
		n    int
		sets [][]int
	}{
		{"no set", 1, [][]int{nil, {}}},
		{"no set", 4, [][]int{nil, {}}},
		{"an empty set", 1, [][]int{{0}, {0, 1}, {1, 0}}},
		{"an empty set", 3, [][]int{{0, 7}, {7, 0}, {3, 0, 4}, {0, 3, 4}, {3, 4, 0}, {0, 0, 0}}},
		{"an empty set", 4, [][]int{{0, 15}, {15, 0}, {1, 2, 4, 8, 0}}},
		{"a point in two sets", 1, [][]int{{1, 1}}},
		{"a point in two sets", 2, [][]int{{3, 2}, {1, 3}, {3, 3}, {1, 2, 2}}},
		{"a point in two sets", 3, [][]int{{3, 6}, {5, 6}, {7, 7}, {1, 6, 4}, {3, 4, 4}}},
		{"a point in two sets", 4, [][]int{{7, 12}, {15, 8}, {9, 6, 8}, {15, 15}}},
		{"a point in none", 2, [][]int{{1}, {2}}},
		{"a point in none", 3, [][]int{{3}, {6}, {5}, {1, 2}, {1, 4}, {2, 4}}},
		{"a point in none", 4, [][]int{{7}, {14}, {3, 4}, {1, 2, 4}, {2, 4, 8}, {1, 10}}},
		{"another order", 2, [][]int{{2, 1}}},
		{"another order", 3, [][]int{{4, 3}, {6, 1}, {2, 5}, {2, 1, 4}, {1, 4, 2}, {4, 2, 1}}},
		{"another order", 4, [][]int{{8, 7}, {6, 9}, {8, 4, 2, 1}, {1, 2, 8, 4}, {9, 4, 2}}},
		{"no point", 1, [][]int{{2}, {3}, {1, 2}, {-1}, {math.MaxInt}, {math.MinInt}}},
		{"no point", 3, [][]int{{15}, {7, 8}, {3, 12}, {3, 4, 8}, {-1}, {1, -2}, {3, 4 + 1<<32}, {7 - 1<<32}}},
		{"no point", 4, [][]int{{31}, {15, 16}, {1, 2, 4, 24}, {15 + 1<<32}, {15, 1 << 62}, {15, math.MinInt}}},
	} {
		for _, sets := range c.sets {
			if isPartition(c.n, sets) {
				t.Fatalf("%s: %v is a partition", c.what, sets)
			}
			wantNoPartition(t, c.n, sets)
		}
	}
}

func TestEquOfFailsForPartitionsWithOneMoreSet(t *testing.T) {
	for n := 1; n <= pointsMax; n++ {
		for _, classes := range partitionsOn(n) {
			for _, set := range []int{-1, 0, 1, 1 << (n - 1), 1<<n - 1, 1 << n, 1<<(n+1) - 1, 1 << 32, math.MinInt, math.MaxInt} {
				wantNoPartition(t, n, append(slices.Clone(classes), set))
				wantNoPartition(t, n, append([]int{set}, classes...))
			}
			if len(classes) > 1 {
				wantNoPartition(t, n, classes[1:])
				wantNoPartition(t, n, classes[:len(classes)-1])
			}
		}
	}
	wantNoPartition(t, 4, slices.Repeat([]int{15}, 10000))
}

// Of the partitions of n points none is one of another number of points.
func TestEquOfFailsForPartitionsOfOtherPoints(t *testing.T) {
	for n := 1; n <= pointsMax; n++ {
		for _, classes := range partitionsOn(n) {
			for m := -1; m <= pointsMax+1; m++ {
				if m != n {
					wantNoPartition(t, m, classes)
				}
			}
		}
	}
}

func TestEquCountFailsForOtherNumbersOfPoints(t *testing.T) {
	for _, n := range outOfCounts() {
		if count, ok := impl.EquCount(n); ok || count != 0 {
			t.Errorf("EquCount(%d) returned %d, %v", n, count, ok)
		}
	}
}
