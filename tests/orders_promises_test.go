package tests

import (
	"slices"
	"testing"

	"loop.example/fewrelations/impl"
)

func waysCountOf(t *testing.T, o []int) int {
	t.Helper()
	count, ok := impl.OrderWays(o)
	if !ok {
		t.Fatalf("OrderWays(%v) fails", o)
	}
	return count
}

// factorial returns the number of lists that have each of n points once.
func factorial(n int) int {
	if n == 0 {
		return 1
	}
	return n * factorial(n-1)
}

// ordersHeld yields every relation for which OrderIn holds, and fails if they are not as many as orders.
func ordersHeld(t *testing.T) func(yield func([]int) bool) {
	return func(yield func([]int) bool) {
		held := 0
		for a := range allRelations() {
			if !impl.OrderIn(a) {
				continue
			}
			held++
			if !yield(a) {
				return
			}
		}
		if held != 1+3+19+219 {
			t.Fatalf("OrderIn held %d times", held)
		}
	}
}

func TestPromise40OrdersTurnedAreOrdersWithAsManyWays(t *testing.T) {
	for o := range ordersHeld(t) {
		turned := madeBy(t, "RelTurned", impl.RelTurned, o)
		if !impl.OrderIn(turned) || waysCountOf(t, turned) != waysCountOf(t, o) {
			t.Fatalf("%v is an order with %d ways, and not so turned, %v", o, waysCountOf(t, o), turned)
		}
	}
}

func TestPromise41TheOrderIsTheStarOfWhatCovers(t *testing.T) {
	for o := range ordersHeld(t) {
		covers := madeBy(t, "OrderCovers", impl.OrderCovers, o)
		star, ok := impl.CompStar(covers)
		wantList(t, "CompStar of OrderCovers", star, ok, o)
		for x := range covers {
			if relates(covers, x, x) {
				t.Fatalf("OrderCovers(%v) is %v", o, covers)
			}
		}
	}
}

func TestPromise42OrderOfIsAnOrderAboveAndItsOwn(t *testing.T) {
	made := 0
	for a := range allRelations() {
		o, ok := impl.OrderOf(a)
		if !ok {
			continue
		}
		made++
		if !impl.OrderIn(o) || !impl.RelBelow(a, o) {
			t.Fatalf("OrderOf(%v) is %v", a, o)
		}
		again, ok := impl.OrderOf(o)
		wantList(t, "OrderOf of OrderOf", again, ok, o)
	}
	// The relations without a circle of different points, each point related to itself or not.
	if made != 1*2+3*4+25*8+543*16 {
		t.Fatalf("OrderOf succeeded %d times", made)
	}
}

func TestPromise43AllPointsOfTheSetAreBelowTheBound(t *testing.T) {
	made := 0
	for o := range ordersHeld(t) {
		for set := range 1 << len(o) {
			bound, ok := impl.OrderBound(o, set)
			if !ok {
				continue
			}
			made++
			if bound < 0 || bound >= len(o) || !isBoundOf(o, set, bound) {
				t.Fatalf("OrderBound(%v, %d) is %d", o, set, bound)
			}
			wantBound(t, o, set|1<<bound, bound)
		}
	}
	if made == 0 {
		t.Fatal("OrderBound never succeeded")
	}
}

func TestPromise44LatticesTurnedAreLatticesAndBeginWithTheBoundOfTheEmptySet(t *testing.T) {
	held := 0
	for a := range allRelations() {
		if !impl.OrderLattice(a) {
			continue
		}
		held++
		if turned := madeBy(t, "RelTurned", impl.RelTurned, a); !impl.OrderLattice(turned) {
			t.Fatalf("OrderLattice(%v) holds, and not turned, for %v", a, turned)
		}
		first := madeBy(t, "OrderFirst", impl.OrderFirst, a)
		wantBound(t, a, 0, first[0])
	}
	if held != 1+2+6+36 {
		t.Fatalf("OrderLattice held %d times", held)
	}
}

func TestPromise45WaysAreAllListsForSameAloneAndOneForChainsAlone(t *testing.T) {
	for o := range ordersHeld(t) {
		n, ways := len(o), waysCountOf(t, o)
		if ways < 1 || ways > factorial(n) {
			t.Fatalf("OrderWays(%v) is %d", o, ways)
		}
		same, ok := impl.RelSame(n)
		if isSame := ok && slices.Equal(o, same); (ways == factorial(n)) != isSame {
			t.Fatalf("OrderWays(%v) is %d, and it is RelSame: %v", o, ways, isSame)
		}
		if isChain := impl.KindIn(o, "c"); (ways == 1) != isChain {
			t.Fatalf("OrderWays(%v) is %d, and it is of the kind c: %v", o, ways, isChain)
		}
	}
}

func TestPromise46TheFirstWayHasEachPointOnceAndNoneBehindOneAbove(t *testing.T) {
	for o := range ordersHeld(t) {
		first := madeBy(t, "OrderFirst", impl.OrderFirst, o)
		if !slices.Equal(slices.Sorted(slices.Values(first)), pointsOn(len(o))) {
			t.Fatalf("OrderFirst(%v) is %v", o, first)
		}
		for behind := range first {
			for ahead := range behind {
				if relates(o, first[behind], first[ahead]) {
					t.Fatalf("OrderFirst(%v) is %v, and %d is below %d", o, first, first[behind], first[ahead])
				}
			}
		}
	}
}

func TestPromise47SizesMultiplyToThePointsAndAddUpToOneMoreAtMost(t *testing.T) {
	for o := range ordersHeld(t) {
		chain, antichain, ok := impl.OrderSizes(o)
		if !ok || chain*antichain < len(o) || chain+antichain > len(o)+1 {
			t.Fatalf("OrderSizes(%v) is %d, %d, %v", o, chain, antichain, ok)
		}
	}
}

func TestPromise48ClassesAreOrderedAsTheQuotient(t *testing.T) {
	made := 0
	for a := range allRelations() {
		e, o, ok := impl.OrderClasses(a)
		if !ok {
			continue
		}
		made++
		if !impl.EquIn(e) || !impl.OrderIn(o) || len(o) != len(madeBy(t, "EquClasses", impl.EquClasses, e)) {
			t.Fatalf("OrderClasses(%v) is %v, %v", a, e, o)
		}
		wantQuotient(t, a, e, o)
	}
	if made != 1+4+29+355 {
		t.Fatalf("OrderClasses succeeded %d times", made)
	}
}
