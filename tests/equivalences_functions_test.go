package tests

import (
	"fmt"
	"slices"
	"testing"

	"loop.example/fewrelations/impl"
)

func wantClasses(t *testing.T, e, want []int) {
	t.Helper()
	got, ok := impl.EquClasses(e)
	wantList(t, fmt.Sprintf("EquClasses(%v)", e), got, ok, want)
}

func wantEquivalence(t *testing.T, n int, classes, want []int) {
	t.Helper()
	got, ok := impl.EquOf(n, classes)
	wantList(t, fmt.Sprintf("EquOf(%d, %v)", n, classes), got, ok, want)
}

func wantMeetAndJoin(t *testing.T, e, f, meet, join []int) {
	t.Helper()
	got, ok := impl.EquMeet(e, f)
	wantList(t, fmt.Sprintf("EquMeet(%v, %v)", e, f), got, ok, meet)
	got, ok = impl.EquJoin(e, f)
	wantList(t, fmt.Sprintf("EquJoin(%v, %v)", e, f), got, ok, join)
}

func wantKernel(t *testing.T, a, want []int) {
	t.Helper()
	got, ok := impl.EquKernel(a)
	wantList(t, fmt.Sprintf("EquKernel(%v)", a), got, ok, want)
}

func wantQuotient(t *testing.T, a, e, want []int) {
	t.Helper()
	got, ok := impl.EquQuotient(a, e)
	wantList(t, fmt.Sprintf("EquQuotient(%v, %v)", a, e), got, ok, want)
}

func wantKept(t *testing.T, e, a []int, want bool) {
	t.Helper()
	if impl.EquKept(e, a) != want {
		t.Fatalf("EquKept(%v, %v) is not %v", e, a, want)
	}
}

func TestEquInOfFixedRelations(t *testing.T) {
	for _, e := range [][]int{{1}, {1, 2}, {3, 3}, {1, 2, 4}, {3, 3, 4}, {5, 2, 5}, {1, 6, 6}, {7, 7, 7}, {1, 2, 4, 8}, {9, 6, 6, 9}, {5, 10, 5, 10}, {15, 15, 15, 15}} {
		if !impl.EquIn(e) {
			t.Errorf("EquIn(%v) does not hold", e)
		}
	}
	for _, a := range [][]int{{0}, {0, 0}, {1, 0}, {0, 2}, {2, 1}, {3, 2}, {1, 3}, {3, 7, 6}, {7, 6, 4}, {3, 3, 0}, {7, 7, 3}, {0, 0, 0, 0}, {3, 7, 14, 12}, {15, 15, 15, 7}} {
		if impl.EquIn(a) {
			t.Errorf("EquIn(%v) holds", a)
		}
	}
}

func TestEquInForEachRelation(t *testing.T) {
	counts := make([]int, pointsMax+1)
	for a := range allRelations() {
		want := isEquivalence(a)
		if impl.EquIn(a) != want {
			t.Fatalf("EquIn(%v) is not %v", a, want)
		}
		if want {
			counts[len(a)]++
		}
	}
	if !slices.Equal(counts, countsOfEquivalences) {
		t.Fatalf("there were %v equivalences on 0 to %d points", counts, pointsMax)
	}
}

func TestEquClassesAndEquOfOfFixedPartitions(t *testing.T) {
	for _, c := range []struct{ e, classes []int }{
		{[]int{1}, []int{1}},
		{[]int{1, 2}, []int{1, 2}},
		{[]int{3, 3}, []int{3}},
		{[]int{1, 2, 4}, []int{1, 2, 4}},
		{[]int{3, 3, 4}, []int{3, 4}},
		{[]int{5, 2, 5}, []int{5, 2}},
		{[]int{1, 6, 6}, []int{1, 6}},
		{[]int{7, 7, 7}, []int{7}},
		{[]int{1, 2, 4, 8}, []int{1, 2, 4, 8}},
		{[]int{9, 6, 6, 9}, []int{9, 6}},
		{[]int{9, 2, 4, 9}, []int{9, 2, 4}},
		{[]int{1, 14, 14, 14}, []int{1, 14}},
		{[]int{13, 2, 13, 13}, []int{13, 2}},
		{[]int{5, 10, 5, 10}, []int{5, 10}},
		{[]int{15, 15, 15, 15}, []int{15}},
	} {
		wantClasses(t, c.e, c.classes)
		wantEquivalence(t, len(c.e), c.classes, c.e)
	}
}

func TestEquClassesForEachRelation(t *testing.T) {
	for a := range allRelations() {
		if isEquivalence(a) {
			wantClasses(t, a, differentRows(a))
		} else {
			got, ok := impl.EquClasses(a)
			wantNoList(t, fmt.Sprintf("EquClasses(%v)", a), got, ok)
		}
	}
}

// The numbers are all sets and the two that are next to being some.
func TestEquOfForEachListOfFewNumbers(t *testing.T) {
	for n := 1; n <= pointsMax; n++ {
		partitions := 0
		for length := 0; length <= min(n+1, pointsMax); length++ {
			for classes := range listsOf(length, -1, 1<<n) {
				if !isPartition(n, classes) {
					got, ok := impl.EquOf(n, classes)
					wantNoList(t, fmt.Sprintf("EquOf(%d, %v)", n, classes), got, ok)
					continue
				}
				partitions++
				wantEquivalence(t, n, classes, inOneSet(n, classes))
			}
		}
		if partitions != countsOfEquivalences[n] {
			t.Fatalf("there were %d partitions of %d points", partitions, n)
		}
	}
}

func TestEquMeetAndEquJoinOfFixedEquivalences(t *testing.T) {
	for _, c := range []struct{ e, f, meet, join []int }{
		{[]int{1}, []int{1}, []int{1}, []int{1}},
		{[]int{1, 2}, []int{3, 3}, []int{1, 2}, []int{3, 3}},
		{[]int{3, 3}, []int{3, 3}, []int{3, 3}, []int{3, 3}},
		{[]int{3, 3, 4}, []int{1, 6, 6}, []int{1, 2, 4}, []int{7, 7, 7}},
		{[]int{5, 2, 5}, []int{1, 6, 6}, []int{1, 2, 4}, []int{7, 7, 7}},
		{[]int{3, 3, 4}, []int{1, 2, 4}, []int{1, 2, 4}, []int{3, 3, 4}},
		{[]int{7, 7, 7}, []int{5, 2, 5}, []int{5, 2, 5}, []int{7, 7, 7}},
		{[]int{3, 3, 12, 12}, []int{9, 6, 6, 9}, []int{1, 2, 4, 8}, []int{15, 15, 15, 15}},
		{[]int{3, 3, 4, 8}, []int{1, 2, 12, 12}, []int{1, 2, 4, 8}, []int{3, 3, 12, 12}},
		{[]int{9, 2, 4, 9}, []int{1, 6, 6, 8}, []int{1, 2, 4, 8}, []int{9, 6, 6, 9}},
		{[]int{9, 2, 4, 9}, []int{1, 10, 4, 10}, []int{1, 2, 4, 8}, []int{11, 11, 4, 11}},
		{[]int{7, 7, 7, 8}, []int{1, 14, 14, 14}, []int{1, 6, 6, 8}, []int{15, 15, 15, 15}},
		{[]int{15, 15, 15, 15}, []int{1, 2, 4, 8}, []int{1, 2, 4, 8}, []int{15, 15, 15, 15}},
	} {
		wantMeetAndJoin(t, c.e, c.f, c.meet, c.join)
		wantMeetAndJoin(t, c.f, c.e, c.meet, c.join)
	}
}

func TestEquMeetAndEquJoinAreGreatestAndLeastOfAllEquivalences(t *testing.T) {
	pairs := 0
	for e, f := range pairsOfEquivalences() {
		pairs++
		n := len(e)
		both := relationWhere(n, func(x, y int) bool { return relates(e, x, y) && relates(f, x, y) })
		either := relationWhere(n, func(x, y int) bool { return relates(e, x, y) || relates(f, x, y) })
		wantMeetAndJoin(t, e, f, greatestAmong(both, equivalencesOn(n)), leastAmong(either, equivalencesOn(n)))
	}
	if pairs != 1+4+25+225 {
		t.Fatalf("there were %d pairs of equivalences", pairs)
	}
}

func TestEquKernel(t *testing.T) {
	wantKernel(t, []int{0}, []int{1})
	wantKernel(t, []int{1}, []int{1})
	wantKernel(t, []int{0, 0}, []int{3, 3})
	wantKernel(t, []int{2, 1}, []int{1, 2})
	wantKernel(t, []int{2, 4, 0}, []int{1, 2, 4})
	wantKernel(t, []int{4, 0, 4}, []int{5, 2, 5})
	wantKernel(t, []int{0, 6, 6}, []int{1, 6, 6})
	wantKernel(t, []int{0, 0, 0, 0}, []int{15, 15, 15, 15})
	wantKernel(t, []int{15, 15, 15, 15}, []int{15, 15, 15, 15})
	wantKernel(t, []int{8, 4, 4, 8}, []int{9, 6, 6, 9})
	wantKernel(t, []int{1, 2, 4, 8}, []int{1, 2, 4, 8})
	wantKernel(t, []int{0, 15, 0, 0}, []int{13, 2, 13, 13})
	for a := range allRelations() {
		wantKernel(t, a, sameRows(a))
	}
}

func TestEquQuotientOfFixedRelations(t *testing.T) {
	for _, c := range []struct{ a, e, want []int }{
		{[]int{0}, []int{1}, []int{0}},
		{[]int{1}, []int{1}, []int{1}},
		{[]int{2, 0}, []int{1, 2}, []int{2, 0}},
		{[]int{2, 0}, []int{3, 3}, []int{1}},
		{[]int{0, 0}, []int{3, 3}, []int{0}},
		{[]int{2, 4, 0}, []int{3, 3, 4}, []int{3, 0}},
		{[]int{2, 4, 0}, []int{5, 2, 5}, []int{2, 1}},
		{[]int{2, 4, 0}, []int{1, 6, 6}, []int{2, 2}},
		{[]int{2, 4, 0}, []int{7, 7, 7}, []int{1}},
		{[]int{0, 0, 8, 0}, []int{5, 2, 5, 8}, []int{4, 0, 0}},
		{[]int{0, 0, 8, 0}, []int{9, 2, 4, 9}, []int{0, 0, 1}},
		{[]int{0, 8, 0, 1}, []int{9, 6, 6, 9}, []int{1, 1}},
		{[]int{8, 0, 0, 0}, []int{1, 2, 12, 12}, []int{4, 0, 0}},
		{[]int{0, 0, 0, 0}, []int{15, 15, 15, 15}, []int{0}},
		{[]int{0, 0, 0, 0}, []int{3, 3, 12, 12}, []int{0, 0}},
		{[]int{15, 15, 15, 15}, []int{3, 3, 12, 12}, []int{3, 3}},
		{[]int{15, 15, 15, 15}, []int{1, 2, 4, 8}, []int{15, 15, 15, 15}},
	} {
		wantQuotient(t, c.a, c.e, c.want)
	}
}

func TestEquQuotientAndEquKeptByTheirDefinitions(t *testing.T) {
	kept, calls := 0, 0
	for a, e := range relationsAndEquivalences() {
		wantQuotient(t, a, e, quotientOf(a, e))
		want := isKept(e, a)
		wantKept(t, e, a, want)
		calls++
		if want {
			kept++
		}
	}
	if kept == 0 || kept == calls {
		t.Fatalf("%d of %d were kept", kept, calls)
	}
}

func TestEquCountOfEachNumberOfPoints(t *testing.T) {
	for n := 1; n <= pointsMax; n++ {
		if got, ok := impl.EquCount(n); !ok || got != countsOfEquivalences[n] {
			t.Errorf("EquCount(%d) returned %d, %v", n, got, ok)
		}
	}
}

func TestEquKeptOfFixedRelations(t *testing.T) {
	for _, c := range []struct {
		e, a []int
		want bool
	}{
		{[]int{1}, []int{0}, true},
		{[]int{1}, []int{1}, true},
		{[]int{3, 3}, []int{0, 0}, true},
		{[]int{3, 3}, []int{2, 1}, true},
		{[]int{3, 3}, []int{1, 1}, true},
		{[]int{3, 3}, []int{2, 0}, false},
		{[]int{3, 3}, []int{0, 2}, false},
		{[]int{1, 2}, []int{2, 0}, true},
		{[]int{3, 3, 4}, []int{4, 4, 0}, true},
		{[]int{3, 3, 4}, []int{4, 6, 0}, false},
		{[]int{3, 3, 4}, []int{5, 6, 0}, true},
		{[]int{3, 3, 4}, []int{4, 0, 4}, false},
		{[]int{3, 3, 4}, []int{0, 0, 1}, true},
		{[]int{5, 2, 5}, []int{2, 5, 2}, true},
		{[]int{1, 6, 6}, []int{6, 1, 2}, false},
		{[]int{3, 3, 12, 12}, []int{4, 8, 0, 0}, true},
		{[]int{3, 3, 12, 12}, []int{4, 9, 0, 0}, false},
		{[]int{15, 15, 15, 15}, []int{1, 2, 4, 8}, true},
		{[]int{15, 15, 15, 15}, []int{1, 2, 4, 0}, false},
		{[]int{15, 15, 15, 15}, []int{0, 0, 0, 0}, true},
		{[]int{1, 2, 4, 8}, []int{2, 4, 8, 0}, true},
		{[]int{9, 2, 4, 9}, []int{15, 15, 15, 15}, true},
	} {
		wantKept(t, c.e, c.a, c.want)
	}
}

// With one class alone, it is the only point of a quotient, and it is kept if all points are related to some, or none is.
func TestOneClassAlone(t *testing.T) {
	for a := range allRelations() {
		n := len(a)
		one := allPairs(n)
		hasPairs := !slices.Equal(a, noPairs(n))
		if hasPairs {
			wantQuotient(t, a, one, []int{1})
		} else {
			wantQuotient(t, a, one, []int{0})
		}
		wantKept(t, one, a, !hasPairs || isKind(a, 'd'))
	}
	for n := 1; n <= pointsMax; n++ {
		wantClasses(t, allPairs(n), []int{1<<n - 1})
		wantEquivalence(t, n, []int{1<<n - 1}, allPairs(n))
		for _, e := range equivalencesOn(n) {
			wantMeetAndJoin(t, e, allPairs(n), e, allPairs(n))
		}
	}
}

func TestAsManyClassesAsPoints(t *testing.T) {
	for a := range allRelations() {
		wantQuotient(t, a, samePoints(len(a)), a)
		wantKept(t, samePoints(len(a)), a, true)
	}
	for n := 1; n <= pointsMax; n++ {
		wantClasses(t, samePoints(n), samePoints(n))
		wantEquivalence(t, n, samePoints(n), samePoints(n))
		for _, e := range equivalencesOn(n) {
			wantMeetAndJoin(t, e, samePoints(n), samePoints(n), e)
		}
	}
}
