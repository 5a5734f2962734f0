package tests

import (
	"fmt"
	"slices"
	"testing"

	"loop.example/fewrelations/impl"
)

func wantCovers(t *testing.T, o, want []int) {
	t.Helper()
	got, ok := impl.OrderCovers(o)
	wantList(t, fmt.Sprintf("OrderCovers(%v)", o), got, ok, want)
}

func wantLeastOrder(t *testing.T, a, want []int) {
	t.Helper()
	got, ok := impl.OrderOf(a)
	wantList(t, fmt.Sprintf("OrderOf(%v)", a), got, ok, want)
}

func wantNoLeastOrder(t *testing.T, a []int) {
	t.Helper()
	got, ok := impl.OrderOf(a)
	wantNoList(t, fmt.Sprintf("OrderOf(%v)", a), got, ok)
}

// wantBound wants a least bound, or none if it is -1.
func wantBound(t *testing.T, o []int, set, want int) {
	t.Helper()
	got, ok := impl.OrderBound(o, set)
	if want < 0 {
		if ok || got != 0 {
			t.Fatalf("OrderBound(%v, %d) returned %d, %v, and not 0, false", o, set, got, ok)
		}
	} else if !ok || got != want {
		t.Fatalf("OrderBound(%v, %d) returned %d, %v, and not %d, true", o, set, got, ok, want)
	}
}

func wantLattice(t *testing.T, o []int, want bool) {
	t.Helper()
	if impl.OrderLattice(o) != want {
		t.Fatalf("OrderLattice(%v) is not %v", o, want)
	}
}

func wantWays(t *testing.T, o []int, count int, first []int) {
	t.Helper()
	if got, ok := impl.OrderWays(o); !ok || got != count {
		t.Fatalf("OrderWays(%v) returned %d, %v, and not %d, true", o, got, ok, count)
	}
	got, ok := impl.OrderFirst(o)
	wantList(t, fmt.Sprintf("OrderFirst(%v)", o), got, ok, first)
}

func wantSizes(t *testing.T, o []int, chain, antichain int) {
	t.Helper()
	first, second, ok := impl.OrderSizes(o)
	if !ok || first != chain || second != antichain {
		t.Fatalf("OrderSizes(%v) returned %d, %d, %v, and not %d, %d, true", o, first, second, ok, chain, antichain)
	}
}

func wantOrderClasses(t *testing.T, p, e, o []int) {
	t.Helper()
	first, second, ok := impl.OrderClasses(p)
	if !ok || !slices.Equal(first, e) || !slices.Equal(second, o) {
		t.Fatalf("OrderClasses(%v) returned %v, %v, %v, and not %v, %v, true", p, first, second, ok, e, o)
	}
}

func TestOrderInOfFixedRelations(t *testing.T) {
	for _, o := range [][]int{{1}, {1, 2}, {3, 2}, {1, 3}, {7, 6, 4}, {1, 3, 7}, {7, 2, 4}, {1, 2, 4}, {15, 10, 12, 8}, {1, 2, 4, 8}, {13, 14, 4, 8}} {
		if !impl.OrderIn(o) {
			t.Errorf("OrderIn(%v) does not hold", o)
		}
	}
	for _, a := range [][]int{{0}, {0, 0}, {2, 0}, {3, 0}, {3, 3}, {2, 1}, {3, 6, 4}, {3, 6, 5}, {3, 3, 4}, {7, 7, 7}, {6, 4, 0}, {0, 0, 0, 0}, {15, 15, 15, 15}, {3, 6, 12, 8}} {
		if impl.OrderIn(a) {
			t.Errorf("OrderIn(%v) holds", a)
		}
	}
}

func TestOrderInAndOrderLatticeForEachRelation(t *testing.T) {
	orders, lattices := make([]int, pointsMax+1), make([]int, pointsMax+1)
	for a := range allRelations() {
		isAnOrder := isOrder(a)
		isALattice := isAnOrder && hasLeastBounds(a)
		if impl.OrderIn(a) != isAnOrder {
			t.Fatalf("OrderIn(%v) is not %v", a, isAnOrder)
		}
		wantLattice(t, a, isALattice)
		if isAnOrder {
			orders[len(a)]++
		}
		if isALattice {
			lattices[len(a)]++
		}
	}
	if !slices.Equal(orders, countsOfOrders) || !slices.Equal(lattices, countsOfLattices) {
		t.Fatalf("there were %v orders and %v lattices on 0 to %d points", orders, lattices, pointsMax)
	}
}

// Each order tells its least bounds of the empty set, of the set of the points 0 and 1, and of that of all points; -1 is none.
func TestFixedOrders(t *testing.T) {
	for _, c := range []struct {
		what             string
		o, covers, first []int
		ways             int
		chain, antichain int
		none, two, all   int
		lattice          bool
	}{
		{"two points apart", []int{1, 2}, []int{0, 0}, []int{0, 1}, 2, 1, 2, -1, -1, -1, false},
		{"a chain", []int{3, 2}, []int{2, 0}, []int{0, 1}, 1, 2, 1, 0, 1, 1, true},
		{"a chain down", []int{1, 3}, []int{0, 1}, []int{1, 0}, 1, 2, 1, 1, 0, 0, true},
		{"a chain", []int{7, 6, 4}, []int{2, 4, 0}, []int{0, 1, 2}, 1, 3, 1, 0, 1, 2, true},
		{"two above one", []int{7, 2, 4}, []int{6, 0, 0}, []int{0, 1, 2}, 2, 2, 2, 0, 1, -1, false},
		{"two below one", []int{5, 6, 4}, []int{4, 4, 0}, []int{0, 1, 2}, 2, 2, 2, -1, 2, 2, false},
		{"two below the first one", []int{1, 3, 5}, []int{0, 1, 1}, []int{1, 2, 0}, 2, 2, 2, -1, 0, 0, false},
		{"a pair and a point", []int{1, 2, 5}, []int{0, 0, 1}, []int{1, 2, 0}, 3, 2, 2, -1, -1, -1, false},
		{"a diamond", []int{15, 10, 12, 8}, []int{6, 8, 8, 0}, []int{0, 1, 2, 3}, 2, 3, 2, 0, 1, 3, true},
		{"a diamond with the first points between", []int{9, 10, 15, 8}, []int{8, 8, 3, 0}, []int{2, 0, 1, 3}, 2, 3, 2, 2, 3, 3, true},
		{"four points in a row, up and down", []int{5, 14, 4, 8}, []int{4, 12, 0, 0}, []int{0, 1, 2, 3}, 5, 2, 2, -1, 2, -1, false},
		{"two chains", []int{3, 2, 12, 8}, []int{2, 0, 8, 0}, []int{0, 1, 2, 3}, 6, 2, 2, -1, 1, -1, false},
		{"two below two", []int{13, 14, 4, 8}, []int{12, 12, 0, 0}, []int{0, 1, 2, 3}, 4, 2, 2, -1, -1, -1, false},
		{"the last two below the first two", []int{1, 2, 7, 11}, []int{0, 0, 3, 3}, []int{2, 3, 0, 1}, 4, 2, 2, -1, -1, -1, false},
		{"the last one below the first one", []int{1, 2, 4, 9}, []int{0, 0, 0, 1}, []int{1, 2, 3, 0}, 12, 2, 3, -1, -1, -1, false},
		{"three above one", []int{15, 2, 4, 8}, []int{14, 0, 0, 0}, []int{0, 1, 2, 3}, 6, 2, 3, 0, 1, -1, false},
		{"three below one", []int{1, 3, 5, 9}, []int{0, 1, 1, 1}, []int{1, 2, 3, 0}, 6, 2, 3, -1, 0, 0, false},
		{"a chain and a point", []int{7, 6, 4, 8}, []int{2, 4, 0, 0}, []int{0, 1, 2, 3}, 4, 3, 2, -1, 1, -1, false},
		{"a chain across", []int{5, 7, 4, 15}, []int{4, 1, 0, 2}, []int{3, 1, 0, 2}, 1, 4, 1, 3, 0, 2, true},
		{"two above a chain", []int{15, 14, 4, 8}, []int{2, 12, 0, 0}, []int{0, 1, 2, 3}, 2, 3, 2, 0, 1, -1, false},
	} {
		t.Run(c.what, func(t *testing.T) {
			wantCovers(t, c.o, c.covers)
			wantLeastOrder(t, c.covers, c.o)
			wantWays(t, c.o, c.ways, c.first)
			wantSizes(t, c.o, c.chain, c.antichain)
			wantBound(t, c.o, 0, c.none)
			wantBound(t, c.o, 3, c.two)
			wantBound(t, c.o, 1<<len(c.o)-1, c.all)
			wantLattice(t, c.o, c.lattice)
		})
	}
}

func TestOrderFunctionsByTheirDefinitions(t *testing.T) {
	for o := range allOrders() {
		wantCovers(t, o, coversOf(o))
		ways := waysOf(o)
		wantWays(t, o, len(ways), ways[0])
		chain, antichain := sizesOf(o)
		wantSizes(t, o, chain, antichain)
		for set := range 1 << len(o) {
			wantBound(t, o, set, leastBoundOf(o, set))
		}
	}
}

func TestOrderOfOfFixedRelations(t *testing.T) {
	for _, c := range []struct{ a, want []int }{
		{[]int{0}, []int{1}},
		{[]int{1}, []int{1}},
		{[]int{0, 0}, []int{1, 2}},
		{[]int{1, 0}, []int{1, 2}},
		{[]int{2, 0}, []int{3, 2}},
		{[]int{2, 2}, []int{3, 2}},
		{[]int{2, 4, 0}, []int{7, 6, 4}},
		{[]int{3, 6, 4}, []int{7, 6, 4}},
		{[]int{6, 4, 0}, []int{7, 6, 4}},
		{[]int{6, 0, 0}, []int{7, 2, 4}},
		{[]int{0, 0, 3}, []int{1, 2, 7}},
		{[]int{0, 1, 2}, []int{1, 3, 7}},
		{[]int{0, 0, 0, 0}, []int{1, 2, 4, 8}},
		{[]int{2, 4, 8, 0}, []int{15, 14, 12, 8}},
		{[]int{0, 1, 2, 4}, []int{1, 3, 7, 15}},
		{[]int{4, 8, 0, 0}, []int{5, 10, 4, 8}},
		{[]int{6, 8, 8, 0}, []int{15, 10, 12, 8}},
	} {
		wantLeastOrder(t, c.a, c.want)
	}
}

func TestOrderOfIsTheLeastOfAllOrders(t *testing.T) {
	for n := 1; n <= pointsMax; n++ {
		orders := ordersOn(n)
		for a := range relationsOn(n) {
			if want, ok := leastOrderAmong(a, orders); ok {
				wantLeastOrder(t, a, want)
			} else {
				wantNoLeastOrder(t, a)
			}
		}
	}
}

// All points are bounds of the empty set; so its least one is the point that is below all, if there is one.
func TestOrderBoundOfTheEmptySet(t *testing.T) {
	found, missed := 0, 0
	for o := range allOrders() {
		least := slices.Index(o, 1<<len(o)-1)
		wantBound(t, o, 0, least)
		if least < 0 {
			missed++
			wantLattice(t, o, false)
		} else {
			found++
		}
	}
	if found != 1+2+9+76 || missed != 0+1+10+143 {
		t.Fatalf("%d orders have a point below all, and %d have none", found, missed)
	}
}

// A set with one point has this as its least bound, and that of all points the point above all, if there is one.
func TestOrderBoundOfOnePointAndOfAllPoints(t *testing.T) {
	for o := range allOrders() {
		for x := range o {
			wantBound(t, o, 1<<x, x)
		}
		greatest := slices.Index(turnedOf(o), 1<<len(o)-1)
		wantBound(t, o, 1<<len(o)-1, greatest)
	}
}

func TestOnePointAlone(t *testing.T) {
	if !impl.OrderIn([]int{1}) || impl.OrderIn([]int{0}) {
		t.Error("of the relations on one point, not just that with a pair is an order")
	}
	wantCovers(t, []int{1}, []int{0})
	wantLeastOrder(t, []int{0}, []int{1})
	wantLeastOrder(t, []int{1}, []int{1})
	wantBound(t, []int{1}, 0, 0)
	wantBound(t, []int{1}, 1, 0)
	wantLattice(t, []int{1}, true)
	wantWays(t, []int{1}, 1, []int{0})
	wantSizes(t, []int{1}, 1, 1)
	wantOrderClasses(t, []int{1}, []int{1}, []int{1})
}

func TestChains(t *testing.T) {
	for n := 1; n <= pointsMax; n++ {
		for p := range renamings(n) {
			o := chainOf(p)
			if !impl.OrderIn(o) {
				t.Fatalf("OrderIn(%v) does not hold", o)
			}
			next := relationWhere(n, func(x, y int) bool { return slices.Index(p, x)+1 == slices.Index(p, y) })
			wantCovers(t, o, next)
			wantLeastOrder(t, next, o)
			wantWays(t, o, 1, p)
			wantSizes(t, o, n, 1)
			wantLattice(t, o, true)
			wantBound(t, o, 0, p[0])
			wantBound(t, o, 1<<n-1, p[n-1])
			wantOrderClasses(t, o, samePoints(n), o)
		}
	}
}

// In an order of each point to itself alone all points are an antichain, and every list of all points is a way.
func TestEachPointToItselfAlone(t *testing.T) {
	for n := 1; n <= pointsMax; n++ {
		same := samePoints(n)
		if !impl.OrderIn(same) {
			t.Fatalf("OrderIn(%v) does not hold", same)
		}
		wantCovers(t, same, noPairs(n))
		wantLeastOrder(t, same, same)
		wantLeastOrder(t, noPairs(n), same)
		wantWays(t, same, factorial(n), pointsOn(n))
		wantSizes(t, same, 1, n)
		wantLattice(t, same, n == 1)
		wantOrderClasses(t, same, same, same)
		if n > 1 {
			wantBound(t, same, 0, -1)
			wantBound(t, same, 1<<n-1, -1)
		}
	}
}

func TestOrderClassesOfFixedPreorders(t *testing.T) {
	for _, c := range []struct{ p, e, o []int }{
		{[]int{1}, []int{1}, []int{1}},
		{[]int{1, 2}, []int{1, 2}, []int{1, 2}},
		{[]int{3, 2}, []int{1, 2}, []int{3, 2}},
		{[]int{3, 3}, []int{3, 3}, []int{1}},
		{[]int{7, 7, 4}, []int{3, 3, 4}, []int{3, 2}},
		{[]int{3, 3, 7}, []int{3, 3, 4}, []int{1, 3}},
		{[]int{1, 7, 7}, []int{1, 6, 6}, []int{1, 3}},
		{[]int{7, 2, 7}, []int{5, 2, 5}, []int{3, 2}},
		{[]int{5, 2, 5}, []int{5, 2, 5}, []int{1, 2}},
		{[]int{7, 7, 7}, []int{7, 7, 7}, []int{1}},
		{[]int{7, 6, 4}, []int{1, 2, 4}, []int{7, 6, 4}},
		{[]int{15, 15, 15, 15}, []int{15, 15, 15, 15}, []int{1}},
		{[]int{5, 15, 5, 15}, []int{5, 10, 5, 10}, []int{1, 3}},
		{[]int{13, 2, 13, 8}, []int{5, 2, 5, 8}, []int{5, 2, 4}},
		{[]int{9, 15, 15, 9}, []int{9, 6, 6, 9}, []int{1, 3}},
		{[]int{1, 11, 15, 11}, []int{1, 10, 4, 10}, []int{1, 3, 7}},
		{[]int{15, 10, 12, 8}, []int{1, 2, 4, 8}, []int{15, 10, 12, 8}},
	} {
		wantOrderClasses(t, c.p, c.e, c.o)
	}
}

func TestOrderClassesForEachRelation(t *testing.T) {
	preorders := make([]int, pointsMax+1)
	for a := range allRelations() {
		if !isPreorder(a) {
			wantNoOrderClasses(t, a)
			continue
		}
		preorders[len(a)]++
		e := inBothDirections(a)
		wantOrderClasses(t, a, e, quotientOf(a, e))
	}
	if !slices.Equal(preorders, countsOfPreorders) {
		t.Fatalf("there were %v preorders on 0 to %d points", preorders, pointsMax)
	}
}
