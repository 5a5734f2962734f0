package tests

import (
	"fmt"
	"math"
	"testing"

	"loop.example/fewrelations/impl"
)

func wantNoOrderClasses(t *testing.T, p []int) {
	t.Helper()
	e, o, ok := impl.OrderClasses(p)
	wantNoList(t, fmt.Sprintf("the first one of OrderClasses(%v)", p), e, ok)
	wantNoList(t, fmt.Sprintf("the second one of OrderClasses(%v)", p), o, ok)
}

// wantNothingOfOrder wants that each function fails that takes an order alone.
func wantNothingOfOrder(t *testing.T, o []int) {
	t.Helper()
	if impl.OrderIn(o) {
		t.Fatalf("OrderIn(%v) holds", o)
	}
	covers, ok := impl.OrderCovers(o)
	wantNoList(t, fmt.Sprintf("OrderCovers(%v)", o), covers, ok)
	wantLattice(t, o, false)
	if ways, ok := impl.OrderWays(o); ok || ways != 0 {
		t.Fatalf("OrderWays(%v) returned %d, %v", o, ways, ok)
	}
	first, ok := impl.OrderFirst(o)
	wantNoList(t, fmt.Sprintf("OrderFirst(%v)", o), first, ok)
	if chain, antichain, ok := impl.OrderSizes(o); ok || chain != 0 || antichain != 0 {
		t.Fatalf("OrderSizes(%v) returned %d, %d, %v", o, chain, antichain, ok)
	}
}

func TestOrdersFailForOtherLists(t *testing.T) {
	for _, bad := range noRelations() {
		wantNothingOfOrder(t, bad)
		wantNoLeastOrder(t, bad)
		wantNoOrderClasses(t, bad)
		for _, set := range []int{-1, 0, 1, 2, 15, 16, 31, math.MinInt, math.MaxInt} {
			wantBound(t, bad, set, -1)
		}
	}
}

func TestOrdersFailForEachOtherRelation(t *testing.T) {
	for a := range allRelations() {
		if isOrder(a) {
			continue
		}
		wantNothingOfOrder(t, a)
		for set := range 1 << len(a) {
			wantBound(t, a, set, -1)
		}
	}
}

// Each relation has two of the kinds of an order and lacks the third one.
func TestOrdersFailForRelationsThatLackOneKind(t *testing.T) {
	for _, c := range []struct {
		a      []int
		lacked byte
	}{
		{[]int{0}, 'r'},
		{[]int{2, 0}, 'r'},
		{[]int{3, 0}, 'r'},
		{[]int{7, 6, 0}, 'r'},
		{[]int{0, 0, 0, 0}, 'r'},
		{[]int{14, 12, 8, 0}, 'r'},
		{[]int{3, 3}, 'a'},
		{[]int{3, 3, 4}, 'a'},
		{[]int{7, 7, 7}, 'a'},
		{[]int{15, 15, 15, 15}, 'a'},
		{[]int{1, 2, 12, 12}, 'a'},
		{[]int{3, 6, 4}, 't'},
		{[]int{3, 6, 5}, 't'},
		{[]int{3, 6, 12, 8}, 't'},
		{[]int{15, 6, 12, 8}, 't'},
	} {
		for _, kind := range []byte("rat") {
			if isKind(c.a, kind) == (kind == c.lacked) {
				t.Fatalf("%v does not lack the kind %c alone", c.a, c.lacked)
			}
		}
		wantNothingOfOrder(t, c.a)
		wantBound(t, c.a, 0, -1)
		wantBound(t, c.a, 1, -1)
		if c.lacked != 'a' {
			wantNoOrderClasses(t, c.a)
		}
	}
}

func TestOrderBoundFailsForWhatIsNoSet(t *testing.T) {
	for o := range allOrders() {
		for _, set := range outOfSets(len(o)) {
			wantBound(t, o, set, -1)
		}
	}
}

// Each set has no bound, or no bound that is below all others.
func TestOrderBoundFailsWithoutLeastBound(t *testing.T) {
	for _, c := range []struct {
		o   []int
		set int
	}{
		{[]int{7, 2, 4}, 6},
		{[]int{13, 14, 4, 8}, 3},
		{[]int{5, 6, 4}, 0},
		{[]int{1, 2, 4, 8}, 9},
		{[]int{15, 10, 4, 8}, 12},
	} {
		wantBound(t, c.o, c.set, -1)
		wantLattice(t, c.o, false)
	}
}

// Each order with the pairs of one of these relations would relate two different points in both directions.
func TestOrderOfFailsWithoutOrder(t *testing.T) {
	for _, a := range [][]int{
		{2, 1}, {3, 3}, {2, 3},
		{2, 4, 1}, {4, 1, 2}, {3, 6, 5}, {2, 1, 0}, {4, 0, 1}, {0, 4, 2}, {7, 7, 7},
		{2, 4, 8, 1}, {8, 1, 2, 4}, {0, 0, 8, 4}, {2, 4, 1, 0}, {0, 4, 8, 2}, {8, 4, 2, 1}, {15, 15, 15, 15},
	} {
		wantNoLeastOrder(t, a)
	}
}
